package keys_test

import (
	"bytes"
	"slices"
	"testing"

	"haulage/api"
	"haulage/keys"
)

// roomy is a row of which each list has spare room behind it, with something in that.
func roomy(r []api.Value) []api.Value {
	all := make([]api.Value, 0, len(r)+2)
	for _, v := range r {
		v.Text = append(slices.Grow(bytes.Clone(v.Text), 4), 9, 0, 7, 255)[:len(v.Text)]
		v.Parts = roomy(v.Parts)
		all = append(all, v)
	}
	return append(all, num(77), text(7, 7))[:len(r)]
}

// image is a row with all that stands in the spare room of its lists.
func image(r []api.Value) []api.Value {
	var all []api.Value
	for _, v := range r[:cap(r)] {
		v.Text = bytes.Clone(v.Text[:cap(v.Text)])
		v.Parts = image(v.Parts)
		all = append(all, v)
	}
	return all
}

// mixed is a row of all kinds, with lists of the same content.
func mixed() []api.Value {
	parts := row(text(1, 0, 2), tuple(text(1, 0, 2), num(5)), none())
	return row(text(1, 0, 2), none(), tuple(parts...), flag(true), tuple(parts...), float(oneNaN), point(1, 2), text(1, 0, 2), tuple())
}

// P4.9: rows stay as they were, with the spare room behind their lists, good ones and those that are refused.
func TestRowsAreNotChanged(t *testing.T) {
	for _, r := range append(someRows(12, 500), mixed(), row(text(1), kind(0), text(2)), row(text(0), within(text(0), 17))) {
		given, other := roomy(r), roomy(r)
		was := image(given)
		keys.Encode(given)
		keys.Compare(given, other)
		keys.Compare(other, given)
		keys.Compare(given, given)
		keys.Span(given)
		if !sameRow(image(given), was) || !sameRow(image(other), was) {
			t.Fatalf("%v was changed to %v", was, image(given))
		}
	}
}

// P4.9: bytes stay as they were, with the spare room behind them, right ones and those that are refused.
func TestBytesAreNotChanged(t *testing.T) {
	whole := append(modelCode(mixed()), 6, 1, 0, 255, 0, 7, 7)
	was := bytes.Clone(whole)
	for i := range whole {
		keys.Decode(whole[:i])
		wantBytes(t, "the bytes", whole, was)
	}
	row, why := keys.Decode(whole[:len(modelCode(mixed()))])
	wantErr(t, "Decode, with more in the spare room", why, api.OK)
	if !sameRow(row, mixed()) {
		t.Fatalf("with more in the spare room: %v", row)
	}
}

// scrawl changes bytes and the spare room behind them.
func scrawl(p []byte) {
	p = p[:cap(p)]
	for i := range p {
		p[i] ^= 170
	}
}

// P4.9: what was encoded shares nothing with the row, nor with another answer.
func TestCodesAreNew(t *testing.T) {
	given := roomy(mixed())
	was := image(given)
	p, _ := keys.Encode(given)
	q, _ := keys.Encode(given)
	scrawl(p)
	wantBytes(t, "asked ahead", q, modelCode(mixed()))
	wantCode(t, given, modelCode(mixed())...)
	if !sameRow(image(given), was) {
		t.Fatalf("%v was changed to %v", was, image(given))
	}
	for _, v := range given {
		scrawl(v.Text)
	}
	wantBytes(t, "what was answered", q, modelCode(mixed()))
}

// P4.9: neither of the two texts of Span stands in the other's memory, or in its spare room.
func TestSpansAreNew(t *testing.T) {
	for _, r := range append(someRows(13, 500), mixed()) {
		p, q, _ := keys.Span(r)
		scrawl(p)
		wantBytes(t, "the second", q, append(modelCode(r), 8))
		p, q, _ = keys.Span(r)
		scrawl(q)
		wantBytes(t, "the first", p, modelCode(r))
		wantCode(t, r, modelCode(r)...)
	}
}

// texts are those of a row and of its tuples, each as a place that can be changed.
func texts(r []api.Value) [][]byte {
	var all [][]byte
	for _, v := range r {
		all = append(append(all, v.Text), texts(v.Parts)...)
	}
	return all
}

// lists are a row and the parts of its tuples.
func lists(r []api.Value) [][]api.Value {
	all := [][]api.Value{r}
	for _, v := range r {
		all = append(all, lists(v.Parts)...)
	}
	return all
}

// P4.9: each text that was decoded has memory of its own, apart from the bytes, from the other texts and from another answer.
func TestDecodedTextsAreNew(t *testing.T) {
	for _, r := range append(someRows(14, 300), mixed()) {
		code := modelCode(r)
		given := slices.Grow(bytes.Clone(code), 8)
		one, _ := keys.Decode(given)
		other, _ := keys.Decode(given)
		all := texts(one)
		for i, p := range all {
			var was [][]byte
			for _, q := range all {
				was = append(was, bytes.Clone(q))
			}
			scrawl(p)
			for k, q := range all {
				if k != i {
					wantBytes(t, "another text", q, was[k])
				}
			}
		}
		wantBytes(t, "the bytes", given, code)
		scrawl(given)
		if !sameRow(other, modelPlain(r)) {
			t.Fatalf("another answer was changed to %v", other)
		}
	}
}

// P4.9: so has each row of parts, the spare room behind it too.
func TestDecodedPartsAreNew(t *testing.T) {
	for _, r := range append(someRows(15, 300), mixed(), row(tuple(none(), none(), none()), tuple(none(), none(), none()))) {
		one, _ := keys.Decode(modelCode(r))
		other, _ := keys.Decode(modelCode(r))
		for _, list := range lists(one) {
			spare := list[len(list):cap(list)]
			for i := range spare {
				spare[i] = text(66)
			}
			if !sameRow(one, modelPlain(r)) {
				t.Fatalf("by the spare room behind %v the answer became %v", list, one)
			}
		}
		wantApart(t, lists(one))
		if !sameRow(other, modelPlain(r)) {
			t.Fatalf("another answer was changed to %v", other)
		}
	}
}

// wantApart changes the Kinds of each list, and looks whether another one has changed with it.
func wantApart(t *testing.T, all [][]api.Value) {
	t.Helper()
	for i, list := range all {
		for k := range list {
			list[k].Kind = 1000 + i
		}
	}
	for i, list := range all {
		for _, v := range list {
			if v.Kind != 1000+i {
				t.Fatalf("two lists of one answer share memory: %v", list)
			}
		}
	}
}
