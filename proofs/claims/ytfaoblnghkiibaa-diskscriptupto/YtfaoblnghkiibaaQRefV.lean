/- The document's disk: one more pending write. -/
import Derived.Test.YtfaoblnghkiibaaQRefW
namespace Go.Proofs.Ytfaoblnghkiibaa
open Go.RowKit

theorem infoRW : (Try.prog.info? 83).map (fun i => (i.zero, i.size, i.bytes)) = some (some (.agg #[.int .i64 0, .slice none 0 0]), 2, 32) := by kernel_rfl

/-- one more -/
theorem rp_append {w : World} {m sb sc pc : Nat} {pa : Option Addr} {d : Dm} {vs : List Value} (h : Rp w m sb sc pa pc d vs) {k : Nat} (hk : k < d.n) {l : List Nat} (hl : l.length = 64) (hlb : ∀ x ∈ l, x < 256) {g cap : Nat} (hs : Sees w (.slice (some ⟨g, 0, none⟩) 64 cap) l)
    (hgm : g ≠ m) (hgs : g ≠ sb) (hg2 : (Value.slice pa d.pend.length pc).ownBlock ≠ some g) (hgl : g < w.heap.size) (hml : m < w.heap.size) (hsl : sb < w.heap.size) (hpl : (d.pend.length + 1) * 32 ≤ 140737488355328) (ty : TypeId) :
    ∃ a2 c2 w2, (Builtin.append_ #[71, 71] ty #[.slice pa d.pend.length pc, .slice (some ⟨w.heap.size, 0, none⟩) 1 1]).run Try.prog (w.alloc (.cells #[.int .i64 (k : Int), .slice (some ⟨g, 0, none⟩) 64 cap] 83)) = .ok (.slice a2 (d.pend.length + 1) c2) w2 ∧
      Kept (Value.slice pa d.pend.length pc).ownBlock.toList w w2 ∧ (∀ q, (Value.slice a2 (d.pend.length + 1) c2).ownBlock = some q → (Value.slice pa d.pend.length pc).ownBlock = some q ∨ w.heap.size ≤ q) ∧ (∀ q, (Value.slice a2 (d.pend.length + 1) c2).ownBlock = some q → q < w2.heap.size) ∧
      Rp (w2.setCell ⟨m, 1, none⟩ (.slice a2 (d.pend.length + 1) c2)) m sb sc a2 c2 { d with pend := d.pend ++ [⟨k, l⟩] } (vs ++ [.slice (some ⟨g, 0, none⟩) 64 cap]) := by
  obtain ⟨i0, hi, hz0, hz1, hz2⟩ := info_parts infoRW
  obtain ⟨W, hW⟩ : ∃ W, W = w.alloc (.cells #[.int .i64 (k : Int), .slice (some ⟨g, 0, none⟩) 64 cap] 83) := ⟨_, rfl⟩
  have hka : Kept [] w W := by rw [hW]; exact (Kept.refl [] w).alloc _
  have hsz : W.heap.size = w.heap.size + 1 := by rw [hW]; simp
  have hnew : Blk W w.heap.size #[.int .i64 (k : Int), .slice (some ⟨g, 0, none⟩) 64 cap] 83 := by rw [hW]; exact Blk.new _ _ _
  have hW2 := own_kept h.pend hka (by simp)
  rw [← hW]
  obtain ⟨v2, w2, hr, ho2, hg3, _, hat2⟩ := run_append_own_at (P := Try.prog) W 0 71 ty 83 i0 _ 2 32 Try.underlying71 hi hz0 hz1 hz2 rfl (by omega) _ d.pend.length (flatL d.pend vs) hW2 ⟨w.heap.size, 0, none⟩ 1 1 [.int .i64 (k : Int), .slice (some ⟨g, 0, none⟩) 64 cap] rfl
    (fun j u hu => by rw [Addr.add_mid, Nat.zero_add, hnew.cell]; simpa using hu) (fun u hu => by simp at hu; rcases hu with rfl | rfl <;> rfl) (by unfold maxLen; omega) (by omega) (by omega)
  obtain ⟨a2, c2, rfl⟩ := own_len ho2
  have hkw : Kept (Value.slice pa d.pend.length pc).ownBlock.toList w w2 := (hka.mono (G := (Value.slice pa d.pend.length pc).ownBlock.toList) (fun _ hx => by cases hx)).grown hg3 (fun q hq => Or.inl (by simp [hq]))
  have hnb : ∀ q, (Value.slice a2 (d.pend.length + 1) c2).ownBlock = some q → (Value.slice pa d.pend.length pc).ownBlock = some q ∨ q = w.heap.size + 1 := by
    intro q hq
    rcases hat2 with e | e
    · left; rw [← e]; exact hq
    · right; rw [hq, hsz] at e; injection e
  have hlt2 : ∀ q, (Value.slice a2 (d.pend.length + 1) c2).ownBlock = some q → q < w2.heap.size := fun q hq => (ho2.lt q hq).2
  have hapart : ∀ q, (Value.slice a2 (d.pend.length + 1) c2).ownBlock = some q → q ≠ m ∧ q ≠ sb := fun q hq => by
    rcases hnb q hq with e | e
    · exact h.pb q e
    · exact ⟨by omega, by omega⟩
  have hmn : m ∉ (Value.slice pa d.pend.length pc).ownBlock.toList := fun hm => by simp at hm; exact (h.pb m hm).1 rfl
  have hsn : sb ∉ (Value.slice pa d.pend.length pc).ownBlock.toList := fun hm => by simp at hm; exact (h.pb sb hm).2 rfl
  have hkm : Kept [m] w2 (w2.setCell ⟨m, 1, none⟩ (.slice a2 (d.pend.length + 1) c2)) := (Kept.refl _ _).setCell (p := ⟨m, 1, none⟩) (Or.inl (by simp)) _
  refine ⟨a2, c2, w2, hr, hkw, fun q hq => ?_, hlt2, ⟨⟨h.ok.one, h.ok.most, h.ok.len, h.ok.byte, fun x hx => ?_, h.ok.fuse⟩, ?_, ?_, ?_, ?_, fun j v x hv hx => ?_, h.ms, ?_⟩⟩
  · rcases hnb q hq with e | e
    · exact Or.inl e
    · right; omega
  · have hq : x ∈ d.pend ++ [⟨k, l⟩] := hx
    simp only [List.mem_append, List.mem_singleton] at hq
    rcases hq with hq | rfl
    · exact h.ok.pend x hq
    · exact ⟨hk, hl, hlb⟩
  · have := (h.head.kept hkw hmn).set 1 (.slice a2 (d.pend.length + 1) c2)
    simpa [rcells] using this
  · exact own_kept (own_kept h.safe hkw (fun p hp' => by simp only [Value.ownBlock] at hp'; injection hp' with hp'; subst hp'; exact hsn)) hkm (fun p hp' => by simp [Value.ownBlock] at hp'; subst hp'; simp; exact fun e => h.ms e.symm)
  · simp [h.len]
  · have := own_kept ho2 hkm (fun p hp => by simp; exact (hapart p hp).1)
    show World.ownsRow _ 0 _ 2 (.slice a2 (d.pend ++ [(⟨k, l⟩ : Wt)]).length c2) (d.pend ++ [(⟨k, l⟩ : Wt)]).length (flatL (d.pend ++ [(⟨k, l⟩ : Wt)]) (vs ++ [.slice (some ⟨g, 0, none⟩) 64 cap]))
    rw [flatL_app _ _ h.len]
    simpa using this
  · have hx' : (d.pend ++ [(⟨k, l⟩ : Wt)])[j]? = some x := hx
    show ∃ g' cap', v = .slice (some ⟨g', 0, none⟩) 64 cap' ∧ Sees _ v x.d ∧ g' < _ ∧ g' ≠ m ∧ g' ≠ sb ∧ (Value.slice a2 (d.pend ++ [(⟨k, l⟩ : Wt)]).length c2).ownBlock ≠ some g'
    have e1 : (d.pend ++ [(⟨k, l⟩ : Wt)]).length = d.pend.length + 1 := by simp
    rw [e1]
    have keepS : ∀ (t : List Nat) (p c : Nat), Sees w (.slice (some ⟨p, 0, none⟩) 64 c) t → (Value.slice pa d.pend.length pc).ownBlock ≠ some p → p < w.heap.size → p ≠ m → Sees (w2.setCell ⟨m, 1, none⟩ (.slice a2 (d.pend.length + 1) c2)) (.slice (some ⟨p, 0, none⟩) 64 c) t ∧ (Value.slice a2 (d.pend.length + 1) c2).ownBlock ≠ some p ∧ p < (w2.setCell ⟨m, 1, none⟩ (.slice a2 (d.pend.length + 1) c2)).heap.size := by
      intro t p c h1 h3 h4 h5
      refine ⟨(h1.kept hkw (Or.inr fun p' hp' => ?_)).kept hkm (Or.inr fun p' hp' => ?_), fun e => ?_, Nat.lt_of_lt_of_le h4 (Nat.le_trans hkw.size hkm.size)⟩
      · simp only [Value.ownBlock] at hp'
        injection hp' with hp'
        subst hp'
        simpa using h3
      · simp only [Value.ownBlock] at hp'
        injection hp' with hp'
        subst hp'
        simpa using h5
      · rcases hnb p e with e' | e'
        · exact h3 e'
        · omega
    by_cases hj : j < vs.length
    · rw [List.getElem?_append_left hj] at hv
      rw [List.getElem?_append_left (by rw [← h.len]; exact hj)] at hx'
      obtain ⟨q, c, rfl, h1, h2, h3, h4, h5⟩ := h.data j v x hv hx'
      obtain ⟨k1, k2, k3⟩ := keepS x.d q c h1 h5 h2 h3
      exact ⟨q, c, rfl, k1, k3, h3, h4, k2⟩
    · have hj2 : j = vs.length := by have := (List.getElem?_eq_some_iff.1 hv).1; simp at this; omega
      subst hj2
      simp at hv
      rw [h.len] at hx'
      simp at hx'
      subst hv
      subst hx'
      obtain ⟨k1, k2, k3⟩ := keepS l g cap hs hg2 hgl hgm
      exact ⟨g, cap, rfl, k1, k3, hgm, hgs, k2⟩
  · intro p hp
    exact hapart p (by simpa using hp)
end Go.Proofs.Ytfaoblnghkiibaa
