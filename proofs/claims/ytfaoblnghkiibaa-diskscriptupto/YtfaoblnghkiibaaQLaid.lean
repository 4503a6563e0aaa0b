/- A row of laid writes that grows, beside a disk. -/
import Derived.Test.YtfaoblnghkiibaaQGoes
import Derived.Test.YtfaoblnghkiibaaQWrite0
namespace Go.Proofs.Ytfaoblnghkiibaa
open Go.RowKit

def flatL : List Wt → List Value → List Value
  | x :: ps, v :: vs => .int .i64 (x.k : Int) :: v :: flatL ps vs
  | _, _ => []
theorem flatL_len : ∀ {ps : List Wt} {vs : List Value}, vs.length = ps.length → (flatL ps vs).length = ps.length * 2
  | [], _, _ => by simp [flatL]
  | x :: ps, [], h => by simp at h
  | x :: ps, v :: vs, h => by
    have := flatL_len (ps := ps) (vs := vs) (by simpa using h)
    simp only [flatL, List.length_cons]; omega
theorem flatL_app : ∀ {ps : List Wt} {vs : List Value} (x : Wt) (v : Value), vs.length = ps.length → flatL (ps ++ [x]) (vs ++ [v]) = flatL ps vs ++ [.int .i64 (x.k : Int), v]
  | [], [], _, _, _ => rfl
  | [], _ :: _, _, _, h => by simp at h
  | y :: ps, [], _, _, h => by simp at h
  | y :: ps, u :: vs, x, v, h => by
    have := flatL_app (ps := ps) (vs := vs) x v (by simpa using h)
    simp only [List.cons_append, flatL, this]
theorem flatL_at : ∀ {ps : List Wt} {vs : List Value} {j : Nat} {x : Wt} {v : Value}, ps[j]? = some x → vs[j]? = some v → (flatL ps vs)[j * 2]? = some (.int .i64 (x.k : Int)) ∧ (flatL ps vs)[j * 2 + 1]? = some v
  | [], _, _, _, _, h, _ => by simp at h
  | y :: ps, [], _, _, _, _, h => by simp at h
  | y :: ps, u :: vs, 0, x, v, h1, h2 => by
    simp at h1 h2; subst h1; subst h2; simp [flatL]
  | y :: ps, u :: vs, j + 1, x, v, h1, h2 => by
    have := flatL_at (ps := ps) (vs := vs) (j := j) (by simpa using h1) (by simpa using h2)
    rw [show (j + 1) * 2 = j * 2 + 1 + 1 by omega]
    simpa [flatL] using this

/-- the row rv lies apart from the blocks F, and so do the bytes of its writes -/
structure LR (base : Nat) (w : World) (F : List Nat) (rv : Value) (ps : List Wt) (vs : List Value) : Prop where
  len : vs.length = ps.length
  own : w.ownsRow base 60 2 rv ps.length (flatL ps vs)
  row : ∀ q, rv.ownBlock = some q → q ∉ F
  data : ∀ (j : Nat) (v : Value) (x : Wt), vs[j]? = some v → ps[j]? = some x → Sees w v x.d ∧ ∃ q, v.ownBlock = some q ∧ q ∉ F ∧ rv.ownBlock ≠ some q ∧ q < w.heap.size

theorem LR.nil (base : Nat) (w : World) (F : List Nat) : LR base w F (.slice none 0 0) [] [] :=
  ⟨rfl, ⟨rfl, Or.inl ⟨rfl, rfl⟩⟩, fun q hq => (by cases hq), fun j v x hv => by simp at hv⟩
theorem LR.kept {base : Nat} {w w' : World} {F : List Nat} {rv : Value} {ps : List Wt} {vs : List Value} (h : LR base w F rv ps vs) (hk : Kept [] w w') : LR base w' F rv ps vs :=
  ⟨h.len, own_kept h.own hk (by simp), h.row, fun j v x hv hx => by
    obtain ⟨h1, q, h2, h3, h4, h5⟩ := h.data j v x hv hx
    exact ⟨h1.kept hk (Or.inr (by simp)), q, h2, h3, h4, Nat.lt_of_lt_of_le h5 hk.size⟩⟩
theorem LR.disk {base : Nat} {w w' : World} {F F' : List Nat} {rv : Value} {ps : List Wt} {vs : List Value} (h : LR base w F rv ps vs) (hn : Nx F w F' w') : LR base w' F' rv ps vs :=
  ⟨h.len, own_kept h.own hn.kept h.row, fun q hq => hn.away (h.row q hq) (h.own.lt q hq).2, fun j v x hv hx => by
    obtain ⟨h1, q, h2, h3, h4, h5⟩ := h.data j v x hv hx
    exact ⟨h1.kept hn.kept (Or.inr fun p hp => by rw [h2] at hp; injection hp with hp; subst hp; exact h3), q, h2, hn.away h3 h5, h4, Nat.lt_of_lt_of_le h5 hn.kept.size⟩⟩
theorem LR.laid {base : Nat} {w : World} {F : List Nat} {rv : Value} {ps : List Wt} {vs : List Value} (h : LR base w F rv ps vs) (hl : ps.length ≤ 9223372036854775807) : LaidRow w rv ps := by
  obtain ⟨a, cap, hv⟩ := own_len h.own
  refine ⟨a, cap, hv, hl, fun j x hx => ?_⟩
  have hj := (List.getElem?_eq_some_iff.1 hx).1
  have hjv : j < vs.length := by rw [h.len]; exact hj
  have hvj := List.getElem?_eq_getElem hjv
  obtain ⟨c0, c1⟩ := flatL_at hx hvj
  obtain ⟨h1, -⟩ := h.data j _ x hvj hx
  rcases h.own.2 with ⟨_, h0⟩ | ⟨g, cap', cur, hg, _, hgb, _⟩
  · omega
  · have e : rv.ownBlock = some g := by rw [hg]; rfl
    have d0 := h.own.cells (g := g) e _ _ c0
    have d1 := h.own.cells (g := g) e _ _ c1
    rw [Addr.add_mid, Nat.zero_add] at d0 d1
    rw [hv] at hg
    injection hg with e1
    exact ⟨g, _, e1, (Array.getElem?_eq_some_iff.1 hgb).1, d0, d1, h1⟩

theorem info60 : (Try.prog.info? 60).map (fun i => (i.zero, i.size, i.bytes)) = some (some (.agg #[.int .i64 0, .slice none 0 0]), 2, 32) := by kernel_rfl

/-- one more -/
theorem laid_append {base : Nat} {w : World} {F : List Nat} {rv : Value} {ps : List Wt} {vs : List Value} (h : LR base w F rv ps vs) (hF : ∀ x ∈ F, x < w.heap.size) (hb : base ≤ w.heap.size) {k : Nat} {l : List Nat} {g cap : Nat} (hs : Sees w (.slice (some ⟨g, 0, none⟩) 64 cap) l)
    (hg : g ∉ F) (hg2 : rv.ownBlock ≠ some g) (hgl : g < w.heap.size) (hpl : (ps.length + 1) * 32 ≤ 140737488355328) (ty : TypeId) :
    ∃ a2 c2 w2, (Builtin.append_ #[58, 58] ty #[rv, .slice (some ⟨w.heap.size, 0, none⟩) 1 1]).run Try.prog (w.alloc (.cells #[.int .i64 (k : Int), .slice (some ⟨g, 0, none⟩) 64 cap] 60)) = .ok (.slice a2 (ps.length + 1) c2) w2 ∧
      LR base w2 F (.slice a2 (ps.length + 1) c2) (ps ++ [⟨k, l⟩]) (vs ++ [.slice (some ⟨g, 0, none⟩) 64 cap]) ∧ Kept rv.ownBlock.toList w w2 := by
  obtain ⟨i0, hi, hz0, hz1, hz2⟩ := info_parts info60
  obtain ⟨W, hW⟩ : ∃ W, W = w.alloc (.cells #[.int .i64 (k : Int), .slice (some ⟨g, 0, none⟩) 64 cap] 60) := ⟨_, rfl⟩
  have hka : Kept [] w W := by rw [hW]; exact (Kept.refl [] w).alloc _
  have hsz : W.heap.size = w.heap.size + 1 := by rw [hW]; simp
  have hnew : Blk W w.heap.size #[.int .i64 (k : Int), .slice (some ⟨g, 0, none⟩) 64 cap] 60 := by rw [hW]; exact Blk.new _ _ _
  have hW2 := h.kept hka
  rw [← hW]
  obtain ⟨v2, w2, hr, ho2, hg3, _, hat2⟩ := run_append_own_at (P := Try.prog) W base 58 ty 60 i0 _ 2 32 Try.underlying58 hi hz0 hz1 hz2 rfl (by omega) rv ps.length (flatL ps vs) hW2.own ⟨w.heap.size, 0, none⟩ 1 1 [.int .i64 (k : Int), .slice (some ⟨g, 0, none⟩) 64 cap] rfl
    (fun j u hu => by rw [Addr.add_mid, Nat.zero_add, hnew.cell]; simpa using hu) (fun u hu => by simp at hu; rcases hu with rfl | rfl <;> rfl) (by unfold maxLen; omega) (by omega) (by omega)
  obtain ⟨a2, c2, rfl⟩ := own_len ho2
  have hkw : Kept rv.ownBlock.toList w w2 := (hka.mono (G := rv.ownBlock.toList) (fun _ hx => by cases hx)).grown hg3 (fun q hq => Or.inl (by simp [hq]))
  have hnb : ∀ q, (Value.slice a2 (ps.length + 1) c2).ownBlock = some q → rv.ownBlock = some q ∨ q = w.heap.size + 1 := by
    intro q hq
    rcases hat2 with e | e
    · left; rw [← e]; exact hq
    · right; rw [hq, hsz] at e; injection e
  refine ⟨a2, c2, w2, hr, ⟨by simp [h.len], ?_, fun q hq => ?_, fun j v x hv hx => ?_⟩, hkw⟩
  · rw [flatL_app _ _ h.len]
    simpa using ho2
  · rcases hnb q hq with e | e
    · exact h.row q e
    · intro hm; have := hF q hm; omega
  · have keepS : ∀ (u : Value) (t : List Nat) (p : Nat), Sees w u t → u.ownBlock = some p → rv.ownBlock ≠ some p → p < w.heap.size → Sees w2 u t ∧ (Value.slice a2 (ps.length + 1) c2).ownBlock ≠ some p ∧ p < w2.heap.size := by
      intro u t p h1 h2 h3 h4
      refine ⟨h1.kept hkw (Or.inr fun p' hp' => ?_), fun e => ?_, Nat.lt_of_lt_of_le h4 hkw.size⟩
      · rw [h2] at hp'
        injection hp' with hp'
        subst hp'
        simpa using h3
      · rcases hnb p e with e' | e'
        · exact h3 e'
        · omega
    by_cases hj : j < vs.length
    · rw [List.getElem?_append_left hj] at hv
      rw [List.getElem?_append_left (by rw [← h.len]; exact hj)] at hx
      obtain ⟨h1, q, h2, h3, h4, h5⟩ := h.data j v x hv hx
      obtain ⟨k1, k2, k3⟩ := keepS v x.d q h1 h2 h4 h5
      exact ⟨k1, q, h2, h3, k2, k3⟩
    · have hj2 : j = vs.length := by have := (List.getElem?_eq_some_iff.1 hv).1; simp at this; omega
      subst hj2
      simp at hv
      rw [h.len] at hx
      simp at hx
      subst hv
      subst hx
      obtain ⟨k1, k2, k3⟩ := keepS _ l g hs rfl hg2 hgl
      exact ⟨k1, g, rfl, hg, k2, k3⟩
end Go.Proofs.Ytfaoblnghkiibaa
