/- Memory of the call's own in pieces, none of which touches another; what stands while a script is played. -/
import Derived.Test.YtgiifedljebclaaDHan
namespace Go.Proofs.Ytgiifedljebclaa.flo
open Go.RowKit ref

/-- pieces by number: made since base, no two with a block in common -/
structure Fam (base : Nat) (w : World) (D : Nat → List Nat) : Prop where
  lo : ∀ i x, x ∈ D i → base ≤ x
  lt : ∀ i x, x ∈ D i → x < w.heap.size
  dis : ∀ i j, i ≠ j → ∀ x, x ∈ D i → x ∉ D j
def upd (D : Nat → List Nat) (i : Nat) (F : List Nat) : Nat → List Nat := fun j => if j = i then F else D j
theorem upd_same (D : Nat → List Nat) (i : Nat) (F : List Nat) : upd D i F i = F := by simp [upd]
theorem upd_other (D : Nat → List Nat) {i j : Nat} (F : List Nat) (h : j ≠ i) : upd D i F j = D j := by simp [upd, h]
theorem Fam.none (base : Nat) (w : World) : Fam base w (fun _ => []) := ⟨fun _ _ h => (by cases h), fun _ _ h => (by cases h), fun _ _ _ _ h => (by cases h)⟩
theorem Fam.step {base : Nat} {w w' : World} {D : Nat → List Nat} (h : Fam base w D) (i : Nat) {F' : List Nat} (k : w.heap.size ≤ w'.heap.size) (hF : ∀ x ∈ F', x ∈ D i ∨ w.heap.size ≤ x) (hl : ∀ x ∈ F', x < w'.heap.size) (hb : base ≤ w.heap.size) : Fam base w' (upd D i F') := by
  refine ⟨fun j x hx => ?_, fun j x hx => ?_, fun j m hjm x hx hm => ?_⟩
  · by_cases c : j = i
    · rw [c, upd_same] at hx
      rcases hF x hx with q | q
      · exact h.lo i x q
      · omega
    · rw [upd_other _ _ c] at hx; exact h.lo j x hx
  · by_cases c : j = i
    · rw [c, upd_same] at hx; exact hl x hx
    · rw [upd_other _ _ c] at hx; exact Nat.lt_of_lt_of_le (h.lt j x hx) k
  · by_cases c : j = i
    · rw [c, upd_same] at hx
      rw [upd_other _ _ (fun z => hjm (c.trans z.symm))] at hm
      rcases hF x hx with q | q
      · exact h.dis i m (fun z => hjm (c.trans z)) x q hm
      · have := h.lt m x hm; omega
    · rw [upd_other _ _ c] at hx
      by_cases d : m = i
      · rw [d, upd_same] at hm
        rcases hF x hm with q | q
        · exact h.dis j i c x hx q
        · have := h.lt j x hx; omega
      · rw [upd_other _ _ d] at hm; exact h.dis j m hjm x hx hm
theorem Fam.quiet {base : Nat} {w w' : World} {D : Nat → List Nat} (h : Fam base w D) (k : w.heap.size ≤ w'.heap.size) : Fam base w' D := ⟨h.lo, fun i x hx => Nat.lt_of_lt_of_le (h.lt i x hx) k, h.dis⟩
theorem Fam.off {base : Nat} {w : World} {D : Nat → List Nat} (h : Fam base w D) {i j : Nat} (hij : i ≠ j) : ∀ x ∈ D i, x ∉ D j := fun x hx => h.dis i j hij x hx
def nums (l : List Nat) : List Int := l.map fun v : Nat => (v : Int)

/-- The law's state. Pieces 0 .. 2: the program's sketches; 3 .. 5: the document's; 6, 7: the rows of pointers; 8: the codes; 9: the array of the added; 10 .. 12: its rows; 13: the step. -/
structure RSt (L : Nat) (val : Nat → Nat) (code : Nat → Int) (w0 w : World) (lB mB aB : Nat) (pp qq rr : Nat → Value) (cv : Value) (op oq : Nat → Option Sd) (lst : Nat → List Nat) (D : Nat → List Nat) (N : Nat) : Prop where
  fam : Fam w0.heap.size w D
  kp : Kept [] w0 w
  hp : ∀ k, k < 3 → Hp val w (pp k) (D k) (op k)
  hq : ∀ k, k < 3 → Hq code w (qq k) (D (3 + k)) (oq k)
  gp : ∀ k, k < 3 → Og L val code N (op k)
  gq : ∀ k, k < 3 → Og L val code N (oq k)
  lb : Blk w lB #[pp 0, pp 1, pp 2] 45
  d6 : D 6 = [lB]
  mb : Blk w mB #[qq 0, qq 1, qq 2] 25
  d7 : D 7 = [mB]
  cs : w.ownsRow 0 3 1 cv L (ints ((List.range L).map code))
  d8 : D 8 = cv.ownBlock.toList
  ab : Blk w aB #[rr 0, rr 1, rr 2] 30
  d9 : D 9 = [aB]
  ar : ∀ k, k < 3 → w.ownsRow 0 3 1 (rr k) (lst k).length (ints (nums (lst k)))
  d10 : ∀ k, k < 3 → D (10 + k) = (rr k).ownBlock.toList
  ll : ∀ k, k < 3 → ∀ s, oq k = some s → s.l = lst k
  lv : ∀ k, k < 3 → ∀ v ∈ lst k, v < L
  ln : ∀ k, k < 3 → (lst k).length ≤ N
/-- a step of one piece leaves all others -/
theorem RSt.quiet {L : Nat} {val : Nat → Nat} {code : Nat → Int} {w0 w w' : World} {lB mB aB : Nat} {pp qq rr : Nat → Value} {cv : Value} {op oq : Nat → Option Sd} {lst : Nat → List Nat} {D : Nat → List Nat} {N : Nat} (h : RSt L val code w0 w lB mB aB pp qq rr cv op oq lst D N) (k : Kept [] w w') : RSt L val code w0 w' lB mB aB pp qq rr cv op oq lst D N :=
  ⟨h.fam.quiet k.size, h.kp.trans k (fun _ hx => (by cases hx)), fun i hi => (h.hp i hi).kept k (fun _ _ => by simp), fun i hi => (h.hq i hi).kept k (fun _ _ => by simp), h.gp, h.gq, h.lb.kept k (by simp), h.d6, h.mb.kept k (by simp), h.d7, own_kept h.cs k (fun _ _ => by simp), h.d8, h.ab.kept k (by simp), h.d9, fun i hi => own_kept (h.ar i hi) k (fun _ _ => by simp), h.d10, h.ll, h.lv, h.ln⟩
def updO (o : Nat → Option Sd) (i : Nat) (x : Option Sd) : Nat → Option Sd := fun j => if j = i then x else o j
/-- the program's Add -/
theorem RSt.addP {L : Nat} {val : Nat → Nat} {code : Nat → Int} (hO : Ord L val code) {w0 w w' : World} {lB mB aB : Nat} {pp qq rr : Nat → Value} {cv : Value} {op oq : Nat → Option Sd} {lst : Nat → List Nat} {D : Nat → List Nat} {N : Nat} (h : RSt L val code w0 w lB mB aB pp qq rr cv op oq lst D N) {i v : Nat} (hi : i < 3) (hv : v < L) {F' : List Nat}
    (hh : Hp val w' (pp i) F' (nxtO val (op i) v)) (k : Kept (D i) w w') (hF : ∀ x ∈ F', x ∈ D i ∨ w.heap.size ≤ x) (hl : ∀ x ∈ F', x < w'.heap.size) : RSt L val code w0 w' lB mB aB pp qq rr cv (updO op i (nxtO val (op i) v)) oq lst (upd D i F') (N + 1) := by
  have hof : ∀ j, j ≠ i → ∀ x ∈ D j, x ∉ D i := fun j hj => h.fam.off hj
  refine ⟨h.fam.step i k.size hF hl h.kp.size, h.kp.trans k (fun x hx => Or.inr (h.fam.lo i x hx)), fun j hj => ?_, fun j hj => ?_, fun j hj => ?_, fun j hj s hs => ?_, ?_, ?_, ?_, ?_, ?_, ?_, ?_, ?_, fun j hj => ?_, fun j hj => ?_, h.ll, h.lv, fun j hj => Nat.le_succ_of_le (h.ln j hj)⟩
  · unfold updO
    by_cases c : j = i
    · rw [if_pos c, c, upd_same]; exact hh
    · rw [if_neg c, upd_other _ _ c]; exact (h.hp j hj).kept k (hof j c)
  · rw [upd_other _ _ (by omega)]; exact (h.hq j hj).kept k (hof (3 + j) (by omega))
  · unfold updO
    by_cases c : j = i
    · rw [if_pos c]; exact (h.gp i hi).next hO hv
    · rw [if_neg c]; intro s hs; have := h.gp j hj s hs; exact ⟨this.1, by omega⟩
  · have := h.gq j hj s hs; exact ⟨this.1, by omega⟩
  · exact h.lb.kept k (hof 6 (by omega) lB (by rw [h.d6]; simp))
  · rw [upd_other _ _ (by omega)]; exact h.d6
  · exact h.mb.kept k (hof 7 (by omega) mB (by rw [h.d7]; simp))
  · rw [upd_other _ _ (by omega)]; exact h.d7
  · exact own_kept h.cs k (fun q hq => hof 8 (by omega) q (by rw [h.d8, hq]; simp))
  · rw [upd_other _ _ (by omega)]; exact h.d8
  · exact h.ab.kept k (hof 9 (by omega) aB (by rw [h.d9]; simp))
  · rw [upd_other _ _ (by omega)]; exact h.d9
  · exact own_kept (h.ar j hj) k (fun q hq => hof (10 + j) (by omega) q (by rw [h.d10 j hj, hq]; simp))
  · rw [upd_other _ _ (by omega)]; exact h.d10 j hj
/-- the document's Add, and what was added -/
theorem RSt.addQ {L : Nat} {val : Nat → Nat} {code : Nat → Int} (hO : Ord L val code) {w0 w w' : World} {lB mB aB : Nat} {pp qq rr : Nat → Value} {cv : Value} {op oq : Nat → Option Sd} {lst : Nat → List Nat} {D : Nat → List Nat} {N : Nat} (h : RSt L val code w0 w lB mB aB pp qq rr cv op oq lst D N) {i v : Nat} (hi : i < 3) (hv : v < L) {F' : List Nat}
    (hh : Hq code w' (qq i) F' (nxtO val (oq i) v)) (k : Kept (D (3 + i)) w w') (hF : ∀ x ∈ F', x ∈ D (3 + i) ∨ w.heap.size ≤ x) (hl : ∀ x ∈ F', x < w'.heap.size) :
    Fam w0.heap.size w' (upd D (3 + i) F') ∧ Kept [] w0 w' ∧ (∀ j, j < 3 → Hp val w' (pp j) (upd D (3 + i) F' j) (op j)) ∧ (∀ j, j < 3 → Hq code w' (qq j) (upd D (3 + i) F' (3 + j)) (updO oq i (nxtO val (oq i) v) j)) ∧ (∀ j, j < 3 → Og L val code (N + 1) (updO oq i (nxtO val (oq i) v) j)) ∧ Blk w' lB #[pp 0, pp 1, pp 2] 45 ∧ Blk w' mB #[qq 0, qq 1, qq 2] 25 ∧ w'.ownsRow 0 3 1 cv L (ints ((List.range L).map code)) ∧ Blk w' aB #[rr 0, rr 1, rr 2] 30 ∧ (∀ j, j < 3 → w'.ownsRow 0 3 1 (rr j) (lst j).length (ints (nums (lst j)))) := by
  have hof : ∀ j, j ≠ 3 + i → ∀ x ∈ D j, x ∉ D (3 + i) := fun j hj => h.fam.off hj
  refine ⟨h.fam.step (3 + i) k.size hF hl h.kp.size, h.kp.trans k (fun x hx => Or.inr (h.fam.lo (3 + i) x hx)), fun j hj => ?_, fun j hj => ?_, fun j hj => ?_, ?_, ?_, ?_, ?_, fun j hj => ?_⟩
  · rw [upd_other _ _ (by omega)]; exact (h.hp j hj).kept k (hof j (by omega))
  · unfold updO
    by_cases c : j = i
    · rw [if_pos c, c, upd_same]; exact hh
    · rw [if_neg c, upd_other _ _ (by omega)]; exact (h.hq j hj).kept k (hof (3 + j) (by omega))
  · unfold updO
    by_cases c : j = i
    · rw [if_pos c]; exact (h.gq i hi).next hO hv
    · rw [if_neg c]; intro s hs; have := h.gq j hj s hs; exact ⟨this.1, by omega⟩
  · exact h.lb.kept k (hof 6 (by omega) lB (by rw [h.d6]; simp))
  · exact h.mb.kept k (hof 7 (by omega) mB (by rw [h.d7]; simp))
  · exact own_kept h.cs k (fun q hq => hof 8 (by omega) q (by rw [h.d8, hq]; simp))
  · exact h.ab.kept k (hof 9 (by omega) aB (by rw [h.d9]; simp))
  · exact own_kept (h.ar j hj) k (fun q hq => hof (10 + j) (by omega) q (by rw [h.d10 j hj, hq]; simp))
/-- what a query finds, told by the added -/
theorem RSt.query {L : Nat} {val : Nat → Nat} {code : Nat → Int} {w0 w : World} {lB mB aB : Nat} {pp qq rr : Nat → Value} {cv : Value} {oo : Nat → Option Sd} {lst : Nat → List Nat} {D : Nat → List Nat} {N : Nat} (h : RSt L val code w0 w lB mB aB pp qq rr cv oo oo lst D N) {i : Nat} (hi : i < 3) (r : Int) (hf : errQ (oo i) r = 0) :
    ∃ v, v < L ∧ (lst i)[whiQ code (oo i) r]? = some v ∧ valQ val (oo i) r = val v := by
  cases ho : oo i with
  | none => rw [ho] at hf; exact absurd hf (by simp [errQ])
  | some s =>
    rw [ho] at hf
    unfold errQ at hf
    by_cases c : 1 ≤ r ∧ r ≤ (s.l.length : Int)
    · obtain ⟨p, v, q1, q2, q3, q4⟩ := query_tie (h.gp i hi s ho).1 0 (r := r.toNat) (by omega) (by omega)
      refine ⟨v, q2, ?_, ?_⟩
      · unfold whiQ
        simp only [if_pos c]
        rw [q4, ← h.ll i hi s ho]
        exact q1
      · unfold valQ
        simp only [if_pos c]
        exact q3
    · simp only [if_neg c] at hf
      exact absurd hf (by decide)
theorem RSt.query_no {val : Nat → Nat} {o : Option Sd} {r : Int} (hf : errQ o r ≠ 0) : valQ val o r = 0 := by
  cases o with
  | none => rfl
  | some s =>
    unfold errQ at hf
    unfold valQ
    by_cases c : 1 ≤ r ∧ r ≤ (s.l.length : Int)
    · simp only [if_pos c] at hf; exact absurd rfl hf
    · simp only [if_neg c]
end Go.Proofs.Ytgiifedljebclaa.flo
