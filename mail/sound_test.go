package mail_test

import (
	"math"
	"math/rand"
	"testing"

	"haulage/api"
	"haulage/mail"
)

// fieldName names a field of a message, or one of its op or its answer.
type fieldName string

// numbers are all numbers of a message but its Kind, Root and Verdict, each with its place.
func numbers(m *api.Mail) map[fieldName]*int {
	return map[fieldName]*int{
		"from": &m.From, "to": &m.To, "shard": &m.Shard, "epoch": &m.Epoch, "client": &m.Client, "seq": &m.Seq, "hint": &m.Hint,
		"op's kind": &m.Op.Kind, "op's rev": &m.Op.Rev, "answer's rev": &m.Answer.Rev, "answer's at": &m.Answer.At,
	}
}

// texts are all lists of a message, each with its place.
func texts(m *api.Mail) map[fieldName]*[]byte {
	return map[fieldName]*[]byte{"copy": &m.Copy, "op's key": &m.Op.Key, "op's value": &m.Op.Value, "answer's key": &m.Answer.Key, "answer's value": &m.Answer.Value}
}

// has are the bounds of the numbers that a shape has, as the chapter's words tell them; names apart, which hang together.
func has(shape int) map[fieldName][2]int {
	all := map[fieldName][2]int{"shard": {0, 63}}
	switch {
	case shape < 10:
		all["seq"] = [2]int{1, 1 << 30}
	default:
		all["epoch"] = [2]int{1, 1 << 30}
	}
	switch shape {
	case 3:
		all["op's rev"] = [2]int{0, 1 << 40}
	case 5:
		all["answer's at"] = [2]int{0, 1 << 40}
	case 8, 9:
		all["hint"] = [2]int{0, 7}
	}
	return all
}

// P19.1: each kind there is, and many that there are not, with fields of one that there is.
func TestKinds(t *testing.T) {
	for shape := range shapes {
		for _, m := range []api.Mail{one(shape), other(shape)} {
			wantForm(t, m, toldForm(m))
			for _, kind := range append(edges(1, 8), -9, -8, -7, -6, -5, -4, -3, 0, 5, 6, 7, 9, 10, 11, 128, 255, 256, 258, 259, 260, 262, 264, 1<<32+3, 1<<32+6) {
				m.Kind = kind
				wantAsTold(t, m)
				if !within(kind, 1, 8) {
					wantUnsound(t, m)
				}
			}
		}
	}
	wantUnsound(t, api.Mail{})
}

// P19.1, P0.5: of each shape each number of its own, at its least and its greatest, one below and one above, and far away.
func TestOwnNumbers(t *testing.T) {
	for shape := range shapes {
		for name, bounds := range has(shape) {
			for _, m := range []api.Mail{one(shape), other(shape)} {
				for _, n := range edges(bounds[0], bounds[1]) {
					*numbers(&m)[name] = n
					wanted := within(n, bounds[0], bounds[1])
					if name == "answer's at" {
						wanted = wanted && n >= m.Answer.Rev
					}
					if mail.Sound(m) != wanted {
						t.Fatalf("shape %d, %s %d: Sound: %v", shape, name, n, !wanted)
					}
					wantAsTold(t, m)
				}
			}
		}
	}
}

// P19.1: just so many shards there are, and servers that a hint may name.
func TestEachSmallNumber(t *testing.T) {
	shards, hints := 0, 0
	for n := -300; n <= 300; n++ {
		m := plain(5, 3, 4, n, 6)
		wantAsTold(t, m)
		if mail.Sound(m) {
			shards++
		}
		m = refusal(1, 2, 3, 4, frozen, n)
		wantAsTold(t, m)
		if mail.Sound(m) {
			hints++
		}
	}
	if shards != 64 || hints != 8 {
		t.Errorf("%d shards, %d hints", shards, hints)
	}
}

// namesToTry are names at all edges: of servers, of clients, and of nobody.
func namesToTry() []int {
	all := []int{math.MinInt, math.MinInt + 99, math.MinInt + 100, -1 << 32, -101, -100, -99, -8, -7, -2, -1, 9, 15, 16, 50, 98, 99, 116, 117, 200, 255, 256, 260, 356, 1 << 32, 1<<32 + 1, 1<<32 + 103, math.MaxInt - 1, math.MaxInt}
	for n := range 9 {
		all = append(all, n)
	}
	for n := range 16 {
		all = append(all, 100+n)
	}
	return all
}

// P19.1: of the handshake each From and To: both servers, and two of them.
func TestNamesOfTransfers(t *testing.T) {
	for kind := 3; kind <= 8; kind++ {
		sound := 0
		for _, from := range namesToTry() {
			for _, to := range namesToTry() {
				m := plain(kind, from, to, 2, 3)
				wanted := within(from, 0, 7) && within(to, 0, 7) && from != to
				if mail.Sound(m) != wanted {
					t.Fatalf("Sound of %s: %v", short(m), !wanted)
				}
				wantAsTold(t, m)
				if wanted {
					sound++
				}
			}
		}
		if sound != 56 {
			t.Errorf("kind %d: %d sound ones", kind, sound)
		}
	}
}

// P19.1: of requests and replies each From, To and Client: a server, and that client's name.
func TestNamesOfCalls(t *testing.T) {
	clients := append(edges(0, 15), 2, 7, 8, 9, 100, 103, 115, math.MaxInt-99, math.MaxInt-100, math.MinInt+100)
	for _, client := range clients {
		for _, from := range namesToTry() {
			for _, to := range namesToTry() {
				asked := api.Mail{Kind: 1, From: from, To: to, Client: client, Seq: 1, Op: get("a")}
				if wanted := within(client, 0, 15) && from == 100+client && within(to, 0, 7); mail.Sound(asked) != wanted {
					t.Fatalf("Sound of %s: %v", short(asked), !wanted)
				}
				wantAsTold(t, asked)
				for _, verdict := range []api.Errno{isDone, logFull, frozen} {
					said := api.Mail{Kind: 2, From: from, To: to, Client: client, Seq: 1, Verdict: verdict}
					if wanted := within(client, 0, 15) && to == 100+client && within(from, 0, 7); mail.Sound(said) != wanted {
						t.Fatalf("Sound of %s: %v", short(said), !wanted)
					}
					wantAsTold(t, said)
				}
			}
		}
	}
}

// P19.1: each client, and each number near, with the name that would be its own, also where that runs over.
func TestEachClient(t *testing.T) {
	for client := -300; client <= 300; client++ {
		for _, m := range []api.Mail{request(client, 2, 1, 1, get("a")), reply(2, client, 1, 1, answer(true, "", "", 0, 1)), refusal(2, client, 1, 1, wrongOwner, 1)} {
			wantAsTold(t, m)
			if within(client, 0, 15) != mail.Sound(m) {
				t.Fatalf("Sound of %s: %v", short(m), mail.Sound(m))
			}
		}
	}
	for _, client := range []int{math.MinInt, math.MaxInt, math.MaxInt - 100, math.MaxInt - 99, math.MinInt + 15, math.MinInt + 100, 1 << 32, 1<<32 + 3, -1 << 32} {
		wantUnsound(t, request(client, 2, 1, 1, get("a")))
		wantUnsound(t, reply(2, client, 1, 1, api.Answer{}))
	}
}

// P19.1: a request of another client's name, and a reply to it.
func TestAnotherClient(t *testing.T) {
	for client := range maxClients {
		for named := range maxClients {
			asked, said := request(client, 1, 1, 1, get("a")), reply(1, client, 1, 1, api.Answer{})
			asked.From, said.To = 100+named, 100+named
			if mail.Sound(asked) != (client == named) || mail.Sound(said) != (client == named) {
				t.Fatalf("client %d under the name %d: Sound: %v, %v", client, 100+named, mail.Sound(asked), mail.Sound(said))
			}
			wantAsTold(t, asked)
			wantAsTold(t, said)
		}
	}
}

// P19.1: each verdict that may be, and others, with and without what one of them has.
func TestVerdicts(t *testing.T) {
	sound := 0
	all := []api.Errno{math.MinInt, -1 << 32, 1 << 32, 1<<32 + 181, 1<<32 + 221, 256 + 181, 256 + 221, math.MaxInt}
	for n := -300; n <= 400; n++ {
		all = append(all, api.Errno(n))
	}
	for _, verdict := range all {
		for hint := -2; hint <= 9; hint++ {
			for _, a := range []api.Answer{{}, {Done: true}, {At: 1}, answer(false, "k", "", 0, 0), answer(true, "k", "v", 1, 2)} {
				m := refusal(2, 3, 4, 5, verdict, hint)
				m.Answer = a
				wantAsTold(t, m)
				if mail.Sound(m) {
					sound++
				}
			}
		}
	}
	if wanted := 5 + 1 + 1 + 8 + 8; sound != wanted {
		t.Errorf("%d sound ones; wanted %d", sound, wanted)
	}
}

// P19.1: fit answers and others: Done or not, each length of Key and Value and each Rev and At at the edges.
func TestAnswers(t *testing.T) {
	sound := 0
	revs := []int{math.MinInt, -1, 0, 1, 2, 127, 128, maxRev - 1, maxRev, maxRev + 1, 1 << 41, math.MaxInt}
	for _, done := range []bool{false, true} {
		for _, k := range []int{0, 1, 2, maxKey - 1, maxKey, maxKey + 1, maxKey + 2, 320} {
			for _, v := range []int{0, 1, 127, 128, maxValue - 1, maxValue, maxValue + 1, 512} {
				for _, rev := range revs {
					for _, at := range revs {
						m := reply(1, 2, 3, 4, answer(done, text(k, 1), text(v, 2), rev, at))
						wantAsTold(t, m)
						if mail.Sound(m) {
							sound++
						}
					}
				}
			}
		}
	}
	// without a key each of the seven Ats; with one of four keys and six values each of the 28 pairs of which Rev is not above At
	if wanted := 2 * (7 + 4*6*28); sound != wanted {
		t.Errorf("%d sound ones; wanted %d", sound, wanted)
	}
}

// P19.1: each pair of small Rev and At.
func TestRevAndAt(t *testing.T) {
	for rev := -3; rev <= 6; rev++ {
		for at := -3; at <= 6; at++ {
			with, without := reply(1, 2, 3, 4, answer(true, "k", "", rev, at)), reply(1, 2, 3, 4, answer(true, "", "", rev, at))
			wantAsTold(t, with)
			wantAsTold(t, without)
			if mail.Sound(with) != (rev >= 0 && rev <= at) || mail.Sound(without) != (rev == 0 && at >= 0) {
				t.Fatalf("Rev %d, At %d: Sound: %v; without a Key %v", rev, at, mail.Sound(with), mail.Sound(without))
			}
		}
	}
}

// P19.1: each kind of op, with each length of Key and Value and each Rev at the edges.
func TestOps(t *testing.T) {
	sound := 0
	revs := []int{math.MinInt, -1, 0, 1, maxRev - 1, maxRev, maxRev + 1, math.MaxInt}
	for _, kind := range []int{math.MinInt, -2, -1, 0, 1, 2, 3, 4, 5, 6, 7, 255, 256, 257, 258, 259, 260, 261, 1<<32 + 2, 1<<32 + 5, math.MaxInt} {
		for _, k := range []int{0, 1, 2, maxKey - 1, maxKey, maxKey + 1, maxKey + 2, 1000} {
			for _, v := range []int{0, 1, 127, 128, maxValue - 1, maxValue, maxValue + 1, 5000} {
				for _, rev := range revs {
					m := request(1, 2, 3, 4, api.Op{Kind: kind, Key: []byte(text(k, 1)), Value: []byte(text(v, 2)), Rev: rev})
					wantAsTold(t, m)
					if mail.Sound(m) {
						sound++
					}
				}
			}
		}
	}
	// Get and Delete: four keys; Put: also six values; Swap: also four Revs; Seek: six keys
	if wanted := 4 + 4 + 4*6 + 4*6*4 + 6; sound != wanted {
		t.Errorf("%d sound ones; wanted %d", sound, wanted)
	}
}

// P19.1: copies of no byte, of the most, and of more; whatever their bytes are.
func TestCopies(t *testing.T) {
	for _, n := range []int{0, 1, 2, 127, 128, 16383, 16384, maxCopy - 1, maxCopy} {
		m := offer(7, 0, 63, maxEpoch, math.MaxUint64, text(n, n))
		wantForm(t, m, toldForm(m))
	}
	for _, n := range []int{maxCopy + 1, maxCopy + 2, 2 * maxCopy, 1 << 21} {
		wantUnsound(t, offer(0, 1, 0, 1, 0, text(n, n)))
		wantReadAsTold(t, toldForm(offer(0, 1, 0, 1, 0, text(n, n))))
	}
	for b := range 256 {
		wantForm(t, offer(2, 3, 4, 5, 0, string([]byte{byte(b)})), summed([]byte{3, 2, 3, 4, 5, 0, 0, 0, 0, 0, 0, 0, 0, 1, byte(b)}))
		wantForm(t, offer(2, 3, 4, 5, 0, string([]byte{byte(b), 0})), summed([]byte{3, 2, 3, 4, 5, 0, 0, 0, 0, 0, 0, 0, 0, 2, byte(b), 0}))
	}
}

// P19.1: any number may be a root.
func TestRoots(t *testing.T) {
	for i := range 64 {
		for _, root := range []uint64{1 << i, 1<<i - 1, ^uint64(0) << i, 0x0123456789ABCDEF << i} {
			m := offer(1, 2, 3, 4, root, "copy")
			form := []byte{3, 1, 2, 3, 4}
			for k := range 8 {
				form = append(form, byte(root>>(8*k)))
			}
			wantForm(t, m, summed(append(form, 4, 'c', 'o', 'p', 'y')))
		}
	}
}

// isOwn: has that shape the field, by the chapter's table?
func isOwn(shape int, name fieldName) bool {
	_, bounded := has(shape)[name]
	switch name {
	case "from", "to":
		return true
	case "client":
		return shape < 10
	case "op's kind", "op's rev", "op's key", "op's value":
		return shape < 5
	case "answer's rev", "answer's at", "answer's key", "answer's value", "done":
		return shape == 5
	case "verdict":
		return within(shape, 5, 9)
	case "copy", "root":
		return shape == 10
	}
	return bounded
}

// P19.1: each field that a kind, or a verdict, has not, by itself not zero.
func TestForeignFields(t *testing.T) {
	some := []int{math.MinInt, -1 << 32, -256, -1, 1, 2, 3, 4, 5, 100, 256, 1 << 32, math.MaxInt}
	for shape := range shapes {
		for _, base := range []api.Mail{one(shape), other(shape)} {
			for name := range numbers(&base) {
				for _, n := range some {
					m := base
					*numbers(&m)[name] = n
					if !isOwn(shape, name) {
						wantUnsound(t, m)
					}
					wantAsTold(t, m)
				}
			}
			for name := range texts(&base) {
				for _, p := range [][]byte{{0}, {1}, {97}, make([]byte, 64), make([]byte, maxCopy+1)} {
					m := base
					*texts(&m)[name] = p
					if !isOwn(shape, name) {
						wantUnsound(t, m)
					}
					wantAsTold(t, m)
				}
			}
			for _, n := range some {
				m, r := base, base
				m.Verdict, r.Root = api.Errno(n), uint64(n)
				if !isOwn(shape, "verdict") {
					wantUnsound(t, m)
				}
				if !isOwn(shape, "root") {
					wantUnsound(t, r)
				}
				wantAsTold(t, m)
				wantAsTold(t, r)
			}
			m := base
			m.Answer.Done = true
			if !isOwn(shape, "done") {
				wantUnsound(t, m)
			}
			wantAsTold(t, m)
		}
	}
}

// P19.1: verdicts that may be, where a kind has none.
func TestForeignVerdicts(t *testing.T) {
	for shape := range shapes {
		for _, verdict := range []api.Errno{logFull, diskFull, wrongOwner, frozen, 2, 190} {
			for _, m := range []api.Mail{one(shape), other(shape)} {
				m.Verdict = verdict
				wantAsTold(t, m)
				if !within(shape, 5, 9) {
					wantUnsound(t, m)
				}
			}
		}
	}
}

// P19.1: a whole op, a whole answer, and another shape's fields, where a kind or a verdict has them not.
func TestForeignWhole(t *testing.T) {
	for shape := range shapes {
		for _, base := range []api.Mail{one(shape), other(shape)} {
			for _, op := range []api.Op{put("a", "1"), put("a", ""), del("a"), swap("a", "1", 0), get("a"), seek(""), {Key: []byte("a"), Value: []byte("1"), Rev: 1}} {
				m := base
				m.Op = op
				wantAsTold(t, m)
				if shape >= 5 {
					wantUnsound(t, m)
				}
			}
			for _, a := range []api.Answer{answer(true, "a", "1", 1, 1), answer(false, "a", "", 0, 0), answer(true, "", "", 0, 0), answer(false, "", "", 0, 9)} {
				m := base
				m.Answer = a
				wantAsTold(t, m)
				if shape != 5 {
					wantUnsound(t, m)
				}
			}
			for from := range shapes {
				m := other(from)
				m.Kind = base.Kind
				wantAsTold(t, m)
				m = other(from)
				m.Kind, m.From, m.To, m.Client = base.Kind, base.From, base.To, base.Client
				wantAsTold(t, m)
			}
		}
	}
}

// P19.1, P0.4: lists of no byte may be nil or not, whether the kind has them or not.
func TestNilAndEmpty(t *testing.T) {
	room := []byte("room")
	for shape := range shapes {
		for _, base := range []api.Mail{one(shape), other(shape)} {
			form := toldForm(base)
			for name, place := range texts(&base) {
				if len(*place) > 0 {
					continue
				}
				for _, p := range [][]byte{nil, {}, room[:0], room[2:2], room[4:]} {
					m := base
					*texts(&m)[name] = p
					wantForm(t, m, form)
				}
			}
		}
	}
}

// P19.1, P0.1: messages whose every field is at random near or at an edge.
func TestAnyMails(t *testing.T) {
	dice := rand.New(rand.NewSource(1))
	some := func(least, most int) int {
		if dice.Intn(3) == 0 {
			return 0
		}
		all := edges(least, most)
		return all[dice.Intn(len(all))]
	}
	list := func(most int) []byte {
		if dice.Intn(3) == 0 {
			return nil
		}
		return []byte(text([]int{0, 1, 2, most - 1, most, most + 1}[dice.Intn(6)], dice.Int()))
	}
	names, verdicts := namesToTry(), []api.Errno{0, 0, 0, logFull, diskFull, wrongOwner, frozen, 2, -1}
	for range 200000 {
		m := api.Mail{Kind: dice.Intn(11) - 1, From: names[dice.Intn(len(names))], To: names[dice.Intn(len(names))], Shard: some(0, 63), Epoch: some(1, maxEpoch)}
		m.Root, m.Copy, m.Client, m.Seq = dice.Uint64()*uint64(dice.Intn(2)), list(300), some(0, 15), some(1, maxSeq)
		m.Op = api.Op{Kind: dice.Intn(7) - 1, Key: list(maxKey), Value: list(maxValue), Rev: some(0, maxRev)}
		m.Verdict, m.Hint = verdicts[dice.Intn(len(verdicts))], some(0, 7)
		m.Answer = api.Answer{Done: dice.Intn(2) == 0, Key: list(maxKey), Value: list(maxValue), Rev: some(0, maxRev), At: some(0, maxRev)}
		wantAsTold(t, m)
		wantAsTold(t, toldOwn(m))
	}
}

// P19.1: sound messages of which one field is another one.
func TestSoundButOne(t *testing.T) {
	dice := rand.New(rand.NewSource(2))
	bounds := map[fieldName][2]int{
		"from": {0, 7}, "to": {100, 115}, "shard": {0, 63}, "epoch": {1, maxEpoch}, "client": {0, 15}, "seq": {1, maxSeq}, "hint": {0, 7},
		"op's kind": {1, 5}, "op's rev": {0, maxRev}, "answer's rev": {0, maxRev}, "answer's at": {0, maxRev},
	}
	for range 1000 {
		base := anySound(dice)
		wantForm(t, base, toldForm(base))
		for name, b := range bounds {
			for _, n := range edges(b[0], b[1]) {
				m := base
				*numbers(&m)[name] = n
				wantAsTold(t, m)
			}
		}
		for name := range texts(&base) {
			for _, n := range []int{0, 1, maxKey, maxKey + 1, maxKey + 2, maxValue, maxValue + 1} {
				m := base
				*texts(&m)[name] = []byte(text(n, 5))
				wantAsTold(t, m)
			}
		}
	}
}
