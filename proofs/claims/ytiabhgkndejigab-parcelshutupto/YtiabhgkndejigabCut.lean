/- The reader's cut. -/
import Derived.Test.YtiabhgkndejigabPureN
namespace Go.Proofs.Ytiabhgkndejigab
open Go.RowKit

theorem Sees.cap_of {w : World} {xa : Option Addr} {n xc : Nat} {bs : List Nat} (h : Sees w (.slice xa n xc) bs) : n = bs.length ∧ n ≤ xc ∧ xc ≤ maxLen := by
  rcases h with ⟨h1, h2⟩ | ⟨b, off, cap, hv, h1, h2, _⟩
  · cases h1; subst h2; exact ⟨rfl, Nat.le_refl _, Nat.zero_le _⟩
  · cases hv; exact ⟨rfl, h1, h2⟩

theorem cut_post {w : World} {b : Nat} {bv : Value} {l : List Nat} {bk off cap n off' : Nat} (h : Rd w b (.slice (some ⟨bk, off, none⟩) l.length cap) bv l) (hn : n ≤ l.length) (ho : off' = off + n ∨ cap = n) :
    Sees (w.setCell ⟨b, 0, none⟩ (.slice (some ⟨bk, off', none⟩) (l.length - n) (cap - n))) (.slice (some ⟨bk, off, none⟩) n cap) (l.take n) ∧
      Rd (w.setCell ⟨b, 0, none⟩ (.slice (some ⟨bk, off', none⟩) (l.length - n) (cap - n))) b (.slice (some ⟨bk, off', none⟩) (l.length - n) (cap - n)) bv (l.drop n) := by
  obtain ⟨_, hcap, _⟩ := h.see.cap_of
  have hbk : bk ≠ b := fun e => h.n1 (by rw [← e]; rfl)
  have kk := (Kept.refl [b] w).setCell (p := ⟨b, 0, none⟩) (Or.inl (by simp)) (.slice (some ⟨bk, off', none⟩) (l.length - n) (cap - n))
  have s1 := h.see.kept kk (fun k hk => by cases hk; simp; exact hbk)
  constructor
  · have := s1.part 0 n off cap (by omega) (by omega) (by omega) (Or.inl rfl)
    simpa using this
  · refine ⟨by simpa using h.blk.set 0 (.slice (some ⟨bk, off', none⟩) (l.length - n) (cap - n)), ?_, h.n1, by have := h.bl; simp; omega⟩
    have := s1.part n (l.length - n) off' (cap - n) (by omega) (by omega) (by omega) (by omega)
    rwa [List.take_of_length_le (by simp)] at this

set_option maxRecDepth 100000 in
set_option maxHeartbeats 400000 in
theorem cut_ok {w : World} {b : Nat} {lv bv : Value} {l : List Nat} (h : Rd w b lv bv l) (n : Nat) (hn : n ≤ l.length) :
    Calls Try.prog 58 #[.pointer (some ⟨b, 0, none⟩), .int .u64 n] w fun e w' => ∃ a cap, e = .returned (.slice a n cap) ∧ Sees w' (.slice a n cap) (l.take n) ∧ (Value.slice a n cap).ownBlock = lv.ownBlock ∧ ∃ lv', Rd w' b lv' bv (l.drop n) ∧ lv'.ownBlock = lv.ownBlock ∧ Kept [b] w w' := by
  obtain ⟨c0, c1, c2⟩ := blk3 h.blk
  have f0 := h.blk.frozen 0
  have hbl := h.bl
  obtain ⟨a, cap, rfl⟩ := sees_len h.see
  obtain ⟨_, hcap, hmx⟩ := h.see.cap_of
  unfold maxLen at hmx
  have kk := fun u => (Kept.refl [b] w).setCell (p := ⟨b, 0, none⟩) (Or.inl (by simp)) u
  cases a with
  | none =>
    have hl0 : l = [] := by
      rcases h.see with ⟨h1, h2⟩ | ⟨_, _, _, hv, _⟩
      · exact h2
      · cases hv
    subst hl0
    have hn0 : n = 0 := by simpa using hn
    subst hn0
    have hc0 : cap = 0 := by
      rcases h.see with ⟨h1, h2⟩ | ⟨_, _, _, hv, _⟩
      · cases h1; rfl
      · cases hv
    subst hc0
    have HH := hide h
    have HK := hide kk
    clear h kk
    go_enter Try.func58, Try.ntmps58
    go_wp2
    go_ret
    refine ⟨none, 0, rfl, Or.inl ⟨rfl, rfl⟩, rfl, .slice none 0 0, ⟨?_, Or.inl ⟨rfl, rfl⟩, by simp [Value.ownBlock], by simp⟩, rfl, unhide HK _⟩
    simpa using (unhide HH).blk.set 0 (.slice none 0 0)
  | some ad =>
    obtain ⟨bk, off, rfl⟩ : ∃ bk off, ad = ⟨bk, off, none⟩ := by
      rcases h.see with ⟨h1, h2⟩ | ⟨bk, off, _, hv, _⟩
      · cases h1
      · cases hv; exact ⟨_, _, rfl⟩
    have hbk : bk ≠ b := fun e => h.n1 (by rw [← e]; rfl)
    have hbkl : bk < w.heap.size := (rd_lt h).2 bk rfl
    have j1 : (n : Int) ≤ (l.length : Int) := by omega
    have j2 : (n : Int) ≤ (cap : Int) := by omega
    have HH := hide h
    have HK := hide kk
    by_cases hcn : cap = n
    · subst hcn
      have hln : l.length = cap := by omega
      clear h kk
      have HP := hide (cut_post (off' := off) (n := cap) (unhide HH) (by omega) (Or.inr rfl))
      go_enter Try.func58, Try.ntmps58
      go_wp2
      go_ret
      have hp := unhide HP
      rw [hln, Nat.sub_self] at hp
      exact ⟨some ⟨bk, off, none⟩, cap, rfl, hp.1, rfl, _, hp.2, rfl, unhide HK _⟩
    · clear h kk
      have HP := hide (cut_post (off' := off + n) (n := n) (unhide HH) (by omega) (Or.inl rfl))
      have hcn' : ¬ cap - n = 0 := by omega
      go_enter Try.func58, Try.ntmps58
      go_wp2
      go_ret
      exact ⟨some ⟨bk, off, none⟩, cap, rfl, (unhide HP).1, rfl, _, (unhide HP).2, rfl, unhide HK _⟩

theorem run_slice_from_out_q {P : Program} (w : World) (t e : TypeId) (a : Option Addr) (len cap : Nat) (k : IntKind) (l : Int) (h : P.underlying t = some (.slice e)) (ho : l < 0 ∨ (len : Int) < l) :
    ∃ s w', (Instr.slice t (.slice a len cap) (some (.int k l)) none none).run P w = .halt (.panic (boundsValue P (IntKind.i64.wrap l) len s 3)) w' ∧ Quiet w w' := by
  have hn : ¬ (0 ≤ l ∧ l ≤ (len : Int)) := by omega
  obtain ⟨s, w', e1, hq⟩ := run_boundsPanic_q (P := P) (α := Nat) w k l len .sliceB
  have e2 : (Instr.sliceBound (.int k l) len .sliceB).run P w = .halt (.panic (boundsValue P (IntKind.i64.wrap l) len s BoundsCode.sliceB.toNat)) w' := by
    rw [← e1]
    simp [Instr.sliceBound, asIntOf, hn, go_sem]
  refine ⟨s, w', run_slice_of_bounds (w := w) t e a len cap _ _ _ h ?_, hq⟩
  have e3 : (3 : Nat) = BoundsCode.sliceB.toNat := rfl
  rw [e3]
  simp only [Instr.sliceBounds]
  simp [e2]

set_option maxRecDepth 100000 in
set_option maxHeartbeats 400000 in
theorem cut_end {w : World} {b : Nat} {lv bv : Value} {l : List Nat} (h : Rd w b lv bv l) (n : Nat) (hn : ¬ n ≤ l.length) :
    Calls Try.prog 58 #[.pointer (some ⟨b, 0, none⟩), .int .u64 n] w fun e w' => (∃ pv, e = .panicked [{ v := .iface 8 pv, recovered := false }]) ∧ Quiet w w' := by
  obtain ⟨c0, c1, c2⟩ := blk3 h.blk
  obtain ⟨a, cap, rfl⟩ := sees_len h.see
  obtain ⟨s, w1, hrun, hq⟩ := run_slice_from_out_q (P := Try.prog) w 22 5 a l.length cap .u64 n Try.underlying22 (by omega)
  unfold boundsValue at hrun
  rw [Try.rtb] at hrun
  clear h
  go_enter Try.func58, Try.ntmps58
  go_wp2
  exact ⟨rfl, ⟨_, rfl⟩, hq⟩
end Go.Proofs.Ytiabhgkndejigab
