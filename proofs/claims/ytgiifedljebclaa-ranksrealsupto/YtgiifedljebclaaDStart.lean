/- The state when the script begins; codes. -/
import Derived.Test.YtgiifedljebclaaDNew
import Derived.Test.YtgiifedljebclaaRApp
namespace Go.Proofs.Ytgiifedljebclaa.flo
open Go.RowKit ref

def three (a b c : Value) : Nat → Value := fun k => if k = 0 then a else if k = 1 then b else c
def threeO (a b : Option Sd) : Nat → Option Sd := fun k => if k = 0 then a else if k = 1 then b else none
def startD (F1 F2 F3 F4 : List Nat) (lB mB cB aB : Nat) : Nat → List Nat := fun k => if k = 0 then F1 else if k = 1 then F2 else if k = 3 then F3 else if k = 4 then F4 else if k = 6 then [lB] else if k = 7 then [mB] else if k = 8 then [cB] else if k = 9 then [aB] else []
theorem startD_key {F1 F2 F3 F4 : List Nat} {s0 s1 s2 s3 s4 cB aB : Nat} (f1 : ∀ x ∈ F1, s0 ≤ x ∧ x < s1) (f2 : ∀ x ∈ F2, s1 ≤ x ∧ x < s2) (f3 : ∀ x ∈ F3, s2 + 1 ≤ x ∧ x < s3) (f4 : ∀ x ∈ F4, s3 ≤ x ∧ x < s4) (i x : Nat) (hx : x ∈ startD F1 F2 F3 F4 s2 s4 cB aB i) :
    (i = 0 ∧ s0 ≤ x ∧ x < s1) ∨ (i = 1 ∧ s1 ≤ x ∧ x < s2) ∨ (i = 3 ∧ s2 + 1 ≤ x ∧ x < s3) ∨ (i = 4 ∧ s3 ≤ x ∧ x < s4) ∨ (i = 6 ∧ x = s2) ∨ (i = 7 ∧ x = s4) ∨ (i = 8 ∧ x = cB) ∨ (i = 9 ∧ x = aB) := by
  unfold startD at hx
  by_cases a0 : i = 0
  · rw [if_pos a0] at hx; exact Or.inl ⟨a0, f1 x hx⟩
  rw [if_neg a0] at hx
  by_cases a1 : i = 1
  · rw [if_pos a1] at hx; exact Or.inr (Or.inl ⟨a1, f2 x hx⟩)
  rw [if_neg a1] at hx
  by_cases a3 : i = 3
  · rw [if_pos a3] at hx; exact Or.inr (Or.inr (Or.inl ⟨a3, f3 x hx⟩))
  rw [if_neg a3] at hx
  by_cases a4 : i = 4
  · rw [if_pos a4] at hx; exact Or.inr (Or.inr (Or.inr (Or.inl ⟨a4, f4 x hx⟩)))
  rw [if_neg a4] at hx
  by_cases a6 : i = 6
  · rw [if_pos a6] at hx; exact Or.inr (Or.inr (Or.inr (Or.inr (Or.inl ⟨a6, by simpa using hx⟩))))
  rw [if_neg a6] at hx
  by_cases a7 : i = 7
  · rw [if_pos a7] at hx; exact Or.inr (Or.inr (Or.inr (Or.inr (Or.inr (Or.inl ⟨a7, by simpa using hx⟩)))))
  rw [if_neg a7] at hx
  by_cases a8 : i = 8
  · rw [if_pos a8] at hx; exact Or.inr (Or.inr (Or.inr (Or.inr (Or.inr (Or.inr (Or.inl ⟨a8, by simpa using hx⟩))))))
  rw [if_neg a8] at hx
  by_cases a9 : i = 9
  · rw [if_pos a9] at hx; exact Or.inr (Or.inr (Or.inr (Or.inr (Or.inr (Or.inr (Or.inr (⟨a9, by simpa using hx⟩)))))))
  rw [if_neg a9] at hx
  cases hx
theorem RSt.start {L : Nat} {val : Nat → Nat} {code : Nat → Int} {w w1 w2 w3 w4 W : World} {p1 p2 p3 p4 : Value} {F1 F2 F3 F4 : List Nat} {o1 o2 : Option Sd} {A B : Array Value} (hA : A = #[p1, p2, .pointer none]) (hB : B = #[p3, p4, .pointer none])
    (h1 : Hp val w1 p1 F1 o1) (k1 : Kept [] w w1) (f1 : ∀ x ∈ F1, w.heap.size ≤ x ∧ x < w1.heap.size)
    (h2 : Hp val w2 p2 F2 o2) (k2 : Kept [] w1 w2) (f2 : ∀ x ∈ F2, w1.heap.size ≤ x ∧ x < w2.heap.size)
    (h3 : Hq code w3 p3 F3 o1) (k3 : Kept [] (w2.alloc (.cells A 45)) w3) (f3 : ∀ x ∈ F3, w2.heap.size + 1 ≤ x ∧ x < w3.heap.size)
    (h4 : Hq code w4 p4 F4 o2) (k4 : Kept [] w3 w4) (f4 : ∀ x ∈ F4, w3.heap.size ≤ x ∧ x < w4.heap.size)
    (g1 : Og L val code 0 o1) (g2 : Og L val code 0 o2) (kW : Kept [] (w4.alloc (.cells B 25)) W) {cB aB : Nat} (hc1 : w4.heap.size + 1 ≤ cB) (hcb : Blk W cB (ints ((List.range L).map code)).toArray 3) (ha1 : w4.heap.size + 1 ≤ aB) (hab : Blk W aB #[.slice none 0 0, .slice none 0 0, .slice none 0 0] 30) (hne : aB ≠ cB) (hL : L ≤ 1048576) (hO1 : o1 = none ∨ ∃ s, o1 = some s ∧ s.l = []) (hO2 : o2 = none ∨ ∃ s, o2 = some s ∧ s.l = []) :
    RSt L val code w W w2.heap.size w4.heap.size aB (three p1 p2 (.pointer none)) (three p3 p4 (.pointer none)) (fun _ => .slice none 0 0) (.slice (some ⟨cB, 0, none⟩) L L) (threeO o1 o2) (threeO o1 o2) (fun _ => []) (startD F1 F2 F3 F4 w2.heap.size w4.heap.size cB aB) 0 := by
  have s1 := k1.size
  have s2 := k2.size
  have ka : Kept [] w2 (w2.alloc (.cells A 45)) := (Kept.refl [] w2).alloc _
  have kb : Kept [] w4 (w4.alloc (.cells B 25)) := (Kept.refl [] w4).alloc _
  have s3 : w2.heap.size + 1 ≤ w3.heap.size := by have := k3.size; simpa using this
  have s4 := k4.size
  have s5 : w4.heap.size + 1 ≤ W.heap.size := by have := kW.size; simpa using this
  have K4 : Kept [] w4 W := kb.step kW
  have K3 : Kept [] w3 W := k4.step K4
  have K2 : Kept [] w2 W := (ka.step k3).step K3
  have K1 : Kept [] w1 W := k2.step K2
  have hcl := hcb.lt
  have hal := hab.lt
  refine ⟨⟨fun i x hx => ?_, fun i x hx => ?_, fun i j hij x hx hy => ?_⟩, k1.step K1, fun k hk => ?_, fun k hk => ?_, fun k hk => ?_, fun k hk => ?_, ?_, rfl, ?_, rfl, ?_, rfl, hab, rfl, fun k hk => ?_, fun k hk => ?_, fun k hk s hs => ?_, fun k hk v hv => (by cases hv), fun k hk => (by simp)⟩
  · have a := startD_key f1 f2 f3 f4 i x hx
    clear hx; omega
  · have a := startD_key f1 f2 f3 f4 i x hx
    clear hx; omega
  · have a := startD_key f1 f2 f3 f4 i x hx
    have b := startD_key f1 f2 f3 f4 j x hy
    clear hx hy; omega
  · have : k = 0 ∨ k = 1 ∨ k = 2 := by omega
    rcases this with rfl | rfl | rfl
    · exact h1.kept K1 (fun _ _ => by simp)
    · exact h2.kept K2 (fun _ _ => by simp)
    · exact ⟨rfl, rfl⟩
  · have : k = 0 ∨ k = 1 ∨ k = 2 := by omega
    rcases this with rfl | rfl | rfl
    · exact h3.kept K3 (fun _ _ => by simp)
    · exact h4.kept K4 (fun _ _ => by simp)
    · exact ⟨rfl, rfl⟩
  · have : k = 0 ∨ k = 1 ∨ k = 2 := by omega
    rcases this with rfl | rfl | rfl
    · exact g1
    · exact g2
    · intro s hs; cases hs
  · have : k = 0 ∨ k = 1 ∨ k = 2 := by omega
    rcases this with rfl | rfl | rfl
    · exact g1
    · exact g2
    · intro s hs; cases hs
  · have := ((Blk.new w2 A 45).kept k3 (by simp)).kept K3 (by simp)
    rw [hA] at this
    exact this
  · have := (Blk.new w4 B 25).kept kW (by simp)
    rw [hB] at this
    exact this
  · refine ⟨by simp [ints], Or.inr ⟨cB, L, _, rfl, Nat.zero_le _, hcb, Nat.le_refl _, by unfold maxLen; omega, by simp [ints], ?_⟩⟩
    rw [Nat.mul_one, List.take_of_length_le (by simp [ints])]
  · exact World.ownsRow_nil _ _ _ _
  · have : k = 0 ∨ k = 1 ∨ k = 2 := by omega
    rcases this with rfl | rfl | rfl <;> rfl
  · have : k = 0 ∨ k = 1 ∨ k = 2 := by omega
    rcases this with rfl | rfl | rfl
    · rcases hO1 with q | ⟨z, q1, q2⟩
      · rw [show threeO o1 o2 0 = o1 from rfl, q] at hs; cases hs
      · rw [show threeO o1 o2 0 = o1 from rfl, q1] at hs; cases hs; exact q2
    · rcases hO2 with q | ⟨z, q1, q2⟩
      · rw [show threeO o1 o2 1 = o2 from rfl, q] at hs; cases hs
      · rw [show threeO o1 o2 1 = o2 from rfl, q1] at hs; cases hs; exact q2
    · cases hs
theorem mkO_empty (inv : Int) : mkO inv = none ∨ ∃ s, mkO inv = some s ∧ s.l = [] := by
  unfold mkO
  split
  · exact Or.inr ⟨_, rfl, rfl⟩
  · exact Or.inl rfl
theorem madeI (n : Nat) : madeCells #[.int .i64 0] n = (ints (List.replicate n 0)).toArray := by
  apply Array.ext_getElem?
  intro i
  by_cases hi : i < n
  · simp [madeCells, hi, Nat.mod_one, ints]
  · rw [Array.getElem?_eq_none (by rw [size_madeCells]; omega), Array.getElem?_eq_none (by simp [ints]; omega)]
theorem wpList_make_ints (w : World) {ops : Array Oper} {rest : List Oper} {o : Oper} {a : Act} {Q : Exit → Act → World → Prop} (hg : o.guard = none) (l c : Operand) (hop : o.op = Op.makeSlice 22 l c) (n : Nat) (hn : n ≤ 1048576)
    (hl : a.eval l = .int .i64 (n : Int)) (hc : a.eval c = .int .i64 (n : Int))
    (hK : wpList Try.prog ops Q rest (a.put o.dst (.slice (some ⟨w.heap.size, 0, none⟩) n n)) (w.alloc (.cells (ints (List.replicate n 0)).toArray 3))) : wpList Try.prog ops Q (o :: rest) a w := by
  obtain ⟨i0, hi, hz0, hz1, hz2⟩ := info_parts info3p
  refine wpList_plain hg fun K hK' => ?_
  have hr := run_make (P := Try.prog) w 22 3 i0 _ Try.underlying22 hi hz0 .i64 .i64 n n (by omega) (by omega) (by rw [hz2]; omega) (by omega)
  simp only [Int.toNat_natCast, hz1, Nat.mul_one] at hr
  rw [show (Value.int .i64 0).cells = #[.int .i64 0] from rfl, madeI] at hr
  unfold Oper.wp
  simp [execOp, hop, hl, hc, hr, Result.andThen]
  exact hK' _ _ hK
/-- codes under way: those below i are done, that of i stands at x -/
def cl (L : Nat) (code : Nat → Int) (i : Nat) (x : Int) : List Int := (List.range L).map fun j => if j < i then code j else if j = i then x else 0
theorem cl_len (L : Nat) (code : Nat → Int) (i : Nat) (x : Int) : (cl L code i x).length = L := by simp [cl]
theorem cl_zero (L : Nat) (code : Nat → Int) : List.replicate L (0 : Int) = cl L code 0 0 := by
  apply List.ext_getElem
  · simp [cl]
  · intro j h1 h2; simp [cl]
theorem cl_next (L : Nat) (code : Nat → Int) (i : Nat) : cl L code i (code i) = cl L code (i + 1) 0 := by
  unfold cl
  apply List.map_congr_left
  intro j _
  by_cases a : j < i
  · rw [if_pos a, if_pos (by omega)]
  · rw [if_neg a]
    by_cases b : j = i
    · rw [if_pos b, if_pos (by omega), b]
    · rw [if_neg b, if_neg (by omega)]; split <;> rfl
theorem cl_all (L : Nat) (code : Nat → Int) (x : Int) : cl L code L x = (List.range L).map code := by
  unfold cl
  apply List.map_congr_left
  intro j hj
  rw [if_pos (by simpa using hj)]
theorem cl_set (L : Nat) (code : Nat → Int) {i : Nat} (hi : i < L) (x y : Int) : (cl L code i x).set i y = cl L code i y := by
  apply List.ext_getElem?
  intro j
  rw [List.getElem?_set]
  simp only [cl, List.getElem?_map]
  by_cases a : j < L
  · rw [List.getElem?_range a]
    by_cases b : i = j
    · subst b; simp [hi]
    · simp only [b, if_false, Option.map_some]
      simp [show ¬ j = i from fun z => b z.symm]
  · rw [List.getElem?_eq_none (by simpa using a)]
    by_cases b : i = j
    · omega
    · simp [b]
theorem cl_at (L : Nat) (code : Nat → Int) {i : Nat} (hi : i < L) (x : Int) : (ints (cl L code i x)).toArray[i]? = some (.int .i64 x) := by
  simp [ints, cl, hi]
end Go.Proofs.Ytgiifedljebclaa.flo
