/- Rows of texts of the call's own. -/
import Derived.Test.YtlcepoomjnpfpaaLent
import Derived.Test.YtlcepoomjnpfpaaRefD
namespace Go.Proofs.Ytlcepoomjnpfpaa
open Go.RowKit

/-- a text that the call has laid -/
structure Tx where
  g : Nat
  cap : Nat
  bs : List Nat
def Tx.val (t : Tx) : Value := .slice (some ⟨t.g, 0, none⟩) t.bs.length t.cap
def Texts (w : World) (base : Nat) (ts : List Tx) : Prop := (∀ t ∈ ts, Lent w base t.g t.cap t.bs.length t.bs) ∧ (ts.map (·.g)).Nodup
/-- a row of texts: the slice v holds them -/
def RowTx (w : World) (base : Nat) (v : Value) (vs : List Value) : Prop := w.ownsRow base 29 1 v vs.length vs

theorem own_type {w : World} {base : Nat} {e : TypeId} {s : Nat} {v : Value} {n : Nat} {xs : List Value} (h : w.ownsRow base e s v n xs) {k : Nat} (hk : v.ownBlock = some k) : ∃ cur, w.heap[k]? = some (.cells cur e (0, 0)) := by
  rcases h.2 with ⟨h1, _⟩ | ⟨g, cap, cur, hv, _, hg, _⟩
  · rw [h1] at hk; cases hk
  · rw [hv] at hk
    simp [Value.ownBlock] at hk
    subst hk
    exact ⟨cur, hg⟩
theorem apart {w : World} {base base' g cap L : Nat} {bs : List Nat} {v : Value} {n : Nat} {xs : List Value} (h : Lent w base g cap L bs) (h' : w.ownsRow base' 29 1 v n xs) : v.ownBlock ≠ some g := by
  intro hk
  obtain ⟨c1, e1⟩ := own_type h.2.2 (k := g) rfl
  obtain ⟨c2, e2⟩ := own_type h' hk
  rw [e1] at e2
  injection e2 with e3
  injection e3 with _ e4 _
  exact absurd e4 (by decide)
theorem Lent.base {w : World} {base base' g cap L : Nat} {bs : List Nat} (h : Lent w base g cap L bs) (hb : base' ≤ base) : Lent w base' g cap L bs := by
  refine ⟨h.1, h.2.1, h.2.2.1, ?_⟩
  rcases h.2.2.2 with h2 | ⟨g', cap', cur, hv, hg, r⟩
  · exact Or.inl h2
  · exact Or.inr ⟨g', cap', cur, hv, by omega, r⟩
theorem Texts.kept {F : List Nat} {w w' : World} {base : Nat} {ts : List Tx} (h : Texts w base ts) (hk : Kept F w w') (hn : ∀ t ∈ ts, t.g ∉ F) : Texts w' base ts :=
  ⟨fun t ht => (h.1 t ht).kept hk (hn t ht), h.2⟩
theorem Texts.lt {w : World} {base : Nat} {ts : List Tx} (h : Texts w base ts) {t : Tx} (ht : t ∈ ts) : base ≤ t.g ∧ t.g < w.heap.size := by
  obtain ⟨_, _, h1, h2⟩ := (h.1 t ht).caps
  exact ⟨h1, h2⟩
theorem Texts.add {w : World} {base : Nat} {ts : List Tx} (h : Texts w base ts) {t : Tx} (ht : Lent w base t.g t.cap t.bs.length t.bs) (hn : ∀ u ∈ ts, u.g ≠ t.g) : Texts w base (ts ++ [t]) := by
  refine ⟨fun u hu => ?_, ?_⟩
  · rcases List.mem_append.1 hu with h1 | h1
    · exact h.1 u h1
    · simp at h1; subst h1; exact ht
  · rw [List.map_append, List.nodup_append]
    refine ⟨h.2, by simp, fun a ha b hb => ?_⟩
    obtain ⟨u, hu, rfl⟩ := List.mem_map.1 ha
    simp at hb
    subst hb
    exact hn u hu
theorem Texts.nil (w : World) (base : Nat) : Texts w base [] := ⟨by simp, by simp⟩

/-- a row of texts, as parts -/
def asParts (ts : List Tx) : List (Value × List Nat) := ts.map fun t => (t.val, t.bs)
theorem catP_texts (ts : List Tx) : catP (asParts ts) = (ts.map (·.bs)).flatten := by simp [catP, asParts, Function.comp_def]
theorem parts_of_row {w : World} {base base' : Nat} {ts : List Tx} (ht : Texts w base ts) {a : Option Addr} {cap n : Nat} {vs : List Value} (hr : w.ownsRow base' 29 1 (.slice a n cap) n vs) {m : Nat} (hm : ts.length = m) (hmn : m ≤ n) (hv : vs.take m = ts.map Tx.val) :
    Parts w (.slice a m cap) (asParts ts) := by
  have hlen : (asParts ts).length = m := by simp [asParts, hm]
  by_cases h0 : m = 0
  · have hts : ts = [] := List.eq_nil_of_length_eq_zero (by omega)
    subst hts
    have hcap : cap ≤ maxLen := by
      rcases hr.2 with ⟨h1, _⟩ | ⟨g, c', cur, hv', _, _, _, hm', _⟩
      · cases h1; simp [maxLen]
      · cases hv'; exact hm'
    exact ⟨a, cap, by rw [hlen], by simp [asParts], hcap, by simp [asParts], Or.inl rfl⟩
  · rcases hr.2 with ⟨h1, h2⟩ | ⟨g, c', cur, hv', hb, hg, hc, hmx, hs, htk⟩
    · omega
    · cases hv'
      refine ⟨_, cap, by rw [hlen], by rw [hlen]; omega, hmx, ?_, Or.inr ⟨g, 0, rfl, (Array.getElem?_eq_some_iff.1 hg).1, ?_⟩⟩
      · intro p hp
        obtain ⟨t, ht', rfl⟩ := List.mem_map.1 hp
        exact (ht.1 t ht').sees
      · intro j p hp
        have hj : j < m := by rw [← hlen]; exact (List.getElem?_eq_some_iff.1 hp).1
        have h3 : vs[j]? = some p.1 := by
          have h4 : (vs.take m)[j]? = some p.1 := by
            rw [hv]
            obtain ⟨t, ht1, ht2⟩ := Option.map_eq_some_iff.1 (by simpa [asParts] using hp)
            rw [List.getElem?_map, ht1, ← ht2]
            rfl
          rwa [List.getElem?_take_of_lt hj] at h4
        have := hr.cells (g := g) rfl j p.1 h3
        have hadd : (⟨g, 0, none⟩ : Addr).add j = ⟨g, j, none⟩ := by unfold Addr.add; split <;> simp_all
        rw [hadd] at this
        simpa using this
theorem own_cellV {w : World} {base n g cap : Nat} {vs : List Value} (h : w.ownsRow base 29 1 (.slice (some ⟨g, 0, none⟩) n cap) n vs) {k : Nat} {v : Value} (hk : vs[k]? = some v) : w.cell? ⟨g, k, none⟩ = some v := by
  have := h.cells (g := g) rfl k v hk
  have hadd : (⟨g, 0, none⟩ : Addr).add k = ⟨g, k, none⟩ := by unfold Addr.add; split <;> simp_all
  rw [hadd] at this
  exact this
theorem row_ofV {w : World} {base n : Nat} {v : Value} {vs : List Value} (h : w.ownsRow base 29 1 v n vs) (hn : 0 < n) :
    ∃ g cap, v = .slice (some ⟨g, 0, none⟩) n cap ∧ base ≤ g ∧ g < w.heap.size ∧ n ≤ cap ∧ cap ≤ 9223372036854775807 := by
  rcases h.2 with ⟨_, h2⟩ | ⟨g, cap, cur, hv, hb, hg, hc, hm, _⟩
  · omega
  · unfold maxLen at hm
    exact ⟨g, cap, hv, hb, (Array.getElem?_eq_some_iff.1 hg).1, hc, by omega⟩

/-- the texts of the row are one text changed -/
theorem Texts.change {w w' : World} {base : Nat} {ts : List Tx} (h : Texts w base ts) {i : Nat} {t : Tx} (hi : ts[i]? = some t) {bs' : List Nat} (hl : bs'.length = t.bs.length) (hk : Kept [t.g] w w') (hn : Lent w' base t.g t.cap t.bs.length bs') :
    Texts w' base (ts.set i ⟨t.g, t.cap, bs'⟩) := by
  have hil : i < ts.length := (List.getElem?_eq_some_iff.1 hi).1
  have hti : ts[i] = t := (List.getElem?_eq_some_iff.1 hi).2
  have hg : (ts.set i ⟨t.g, t.cap, bs'⟩).map (·.g) = ts.map (·.g) := by
    rw [List.map_set]
    apply List.ext_getElem?
    intro j
    by_cases hj : j = i
    · subst hj; simp [hil, hti]
    · rw [List.getElem?_set_ne (by omega)]
  refine ⟨fun u hu => ?_, by rw [hg]; exact h.2⟩
  obtain ⟨j, hj, rfl⟩ := List.getElem_of_mem hu
  rw [List.length_set] at hj
  by_cases hji : j = i
  · subst hji
    simp only [List.getElem_set_self]
    rw [hl]; exact hn
  · rw [List.getElem_set_ne (by omega)]
    refine (h.1 ts[j] (List.getElem_mem hj)).kept hk ?_
    simp only [List.mem_singleton]
    intro e
    have h1 : (ts.map (·.g))[j]'(by simpa using hj) = (ts.map (·.g))[i]'(by simpa using hil) := by simp [hti, e]
    have h2 := (List.getElem_inj h.2).1 h1
    exact hji h2
end Go.Proofs.Ytlcepoomjnpfpaa
