/- The document's reader: its state in memory, every call. -/
import Derived.Test.YtiabhgkndejigaaReal
import Derived.Laws.FloatArith
import Derived.Test.YtiabhgkndejigaaFar
import Derived.Deep.RegionHeld3
import Derived.BigRegion
import Derived.Deep.DeepCutAuto
import Derived.Deep.RegionLaw
import Derived.Deep.AppendLies
import Derived.Test.YtiabhgkndejigaaPFq
import Derived.Test.YtiabhgkndejigaaWclose
namespace Go.Proofs.Ytiabhgkndejigaa
open Go Ieee

/-- a magnitude, as a whole number of the least places -/
def mag (r : Nat) : Nat := if r < 4503599627370496 then r else (4503599627370496 + r % 4503599627370496) * 2 ^ (r / 4503599627370496 - 1)
theorem mag_lt {r s : Nat} (h : r < s) : mag r < mag s := by
  unfold mag
  by_cases h1 : s < 4503599627370496
  · rw [if_pos (by omega), if_pos h1]; exact h
  · rw [if_neg h1]
    have hp : 0 < 2 ^ (s / 4503599627370496 - 1) := Nat.two_pow_pos _
    by_cases h2 : r < 4503599627370496
    · rw [if_pos h2]
      have : 4503599627370496 * 1 ≤ (4503599627370496 + s % 4503599627370496) * 2 ^ (s / 4503599627370496 - 1) := Nat.mul_le_mul (by omega) hp
      omega
    · rw [if_neg h2]
      by_cases h3 : r / 4503599627370496 = s / 4503599627370496
      · rw [h3]
        exact Nat.mul_lt_mul_of_pos_right (by omega) hp
      · obtain ⟨k, hk⟩ : ∃ k, s / 4503599627370496 - 1 = (r / 4503599627370496 - 1) + 1 + k := ⟨s / 4503599627370496 - 1 - (r / 4503599627370496 - 1) - 1, by omega⟩
        rw [hk, Nat.pow_add, Nat.pow_succ]
        have hq : 0 < 2 ^ (r / 4503599627370496 - 1) := Nat.two_pow_pos _
        have hk2 : 0 < 2 ^ k := Nat.two_pow_pos _
        generalize 2 ^ (r / 4503599627370496 - 1) = P at *
        generalize 2 ^ k = K at *
        have e1 : (4503599627370496 + r % 4503599627370496) * P < 9007199254740992 * P := Nat.mul_lt_mul_of_pos_right (by omega) hq
        have e2 : 4503599627370496 * (P * 2 * 1) ≤ (4503599627370496 + s % 4503599627370496) * (P * 2 * K) := Nat.mul_le_mul (by omega) (Nat.mul_le_mul_left _ hk2)
        omega
theorem mag_lt_iff {r s : Nat} : mag r < mag s ↔ r < s := by
  constructor
  · intro h
    rcases Nat.lt_trichotomy r s with h1 | h1 | h1
    · exact h1
    · subst h1; omega
    · have := mag_lt h1; omega
  · exact mag_lt
theorem mag_zero : mag 0 = 0 := by simp [mag]

/-- the number of a word, in least places -/
def sval (x : Nat) : Int := if x < 9223372036854775808 then (mag x : Int) else -(mag (x - 9223372036854775808) : Int)
def isNum (x : Nat) : Prop := x % 9223372036854775808 ≤ 9218868437227405312
instance (x : Nat) : Decidable (isNum x) := by unfold isNum; infer_instance

theorem cmp_scale (a b : Int) (k : Nat) : compare (a * (2 ^ k : Nat)) (b * (2 ^ k : Nat)) = compare a b := by
  have hp : (0 : Int) < ((2 ^ k : Nat) : Int) := by exact_mod_cast Nat.two_pow_pos k
  rcases Int.lt_trichotomy a b with h | h | h
  · rw [Int.compare_eq_lt.2 h, Int.compare_eq_lt.2 (Int.mul_lt_mul_of_pos_right h hp)]
  · subst h; rw [Int.compare_eq_eq.2 rfl, Int.compare_eq_eq.2 rfl]
  · rw [Int.compare_eq_gt.2 h, Int.compare_eq_gt.2 (Int.mul_lt_mul_of_pos_right h hp)]
def negB (x : Nat) : Bool := decide (9223372036854775808 ≤ x)
theorem sval_eq {x : Nat} (hx : x < 18446744073709551616) : sval x = if negB x then -(mag (x % 9223372036854775808) : Int) else (mag (x % 9223372036854775808) : Int) := by
  unfold sval negB
  by_cases h : x < 9223372036854775808
  · rw [if_pos h, if_neg (by simp; omega), Nat.mod_eq_of_lt h]
  · rw [if_neg h, if_pos (by simp; omega), show x % 9223372036854775808 = x - 9223372036854775808 by omega]
theorem read_word {x : Nat} (hx : x < 18446744073709551616) : double.read x = if x % 9223372036854775808 < 4503599627370496 then Datum.number (negB x) (x % 9223372036854775808) (-1074)
    else if x % 9223372036854775808 < 9218868437227405312 then .number (negB x) (4503599627370496 + x % 9223372036854775808 % 4503599627370496) (-1074 + ((x % 9223372036854775808 / 4503599627370496 - 1 : Nat) : Int))
    else if x % 9223372036854775808 = 9218868437227405312 then .infinity (negB x) else .nan (negB x) (x % 9223372036854775808 - 9218868437227405312) := by
  have c1 : double.signWeight = 9223372036854775808 := by decide
  have c2 : double.binade = 4503599627370496 := by decide
  have c3 : double.infRung = 9218868437227405312 := by decide
  have c4 : double.leastPlace = -1074 := by decide
  have hn : (x / 9223372036854775808 % 2 == 1) = negB x := by
    unfold negB
    by_cases h : 9223372036854775808 ≤ x
    · have : x / 9223372036854775808 = 1 := by omega
      rw [this]; simp [h]
    · have : x / 9223372036854775808 = 0 := by omega
      rw [this]; simp [h]
  unfold Format.read
  rw [c1, c2, c3, c4]
  simp only [hn]
theorem read_num {x : Nat} (hx : x < 18446744073709551616) (nx : isNum x) : (∃ (m e : Nat), double.read x = .number (negB x) m (-1074 + (e : Int)) ∧ m * 2 ^ e = mag (x % 9223372036854775808) ∧ x % 9223372036854775808 < 9218868437227405312) ∨ (x % 9223372036854775808 = 9218868437227405312 ∧ double.read x = .infinity (negB x)) := by
  unfold isNum at nx
  rw [read_word hx]
  by_cases h1 : x % 9223372036854775808 < 4503599627370496
  · left
    refine ⟨x % 9223372036854775808, 0, ?_, ?_, by omega⟩
    · rw [if_pos h1]; simp
    · unfold mag; rw [if_pos h1]; simp
  · rw [if_neg h1]
    by_cases h2 : x % 9223372036854775808 < 9218868437227405312
    · left
      refine ⟨_, _, by rw [if_pos h2], ?_, h2⟩
      unfold mag
      rw [if_neg h1]
    · right
      have h3 : x % 9223372036854775808 = 9218868437227405312 := by omega
      exact ⟨h3, by rw [if_neg h2, if_pos h3]⟩
theorem cmp_lt' {a b : Int} (h : a < b) : compare a b = .lt := Int.compare_eq_lt.2 h
theorem cmp_gt' {a b : Int} (h : b < a) : compare a b = .gt := Int.compare_eq_gt.2 h
theorem cmp_eq' {a b : Int} (h : a = b) : compare a b = .eq := Int.compare_eq_eq.2 h
theorem order_num {x y : Nat} (hx : x < 18446744073709551616) (hy : y < 18446744073709551616) (nx : isNum x) (ny : isNum y) : double.order x y = some (compare (sval x) (sval y)) := by
  unfold Format.order
  rw [sval_eq hx, sval_eq hy]
  rcases read_num hx nx with ⟨m, e, h1, h2, h3⟩ | ⟨h1, h2⟩
  · rcases read_num hy ny with ⟨n, f, g1, g2, g3⟩ | ⟨g1, g2⟩
    · rw [h1, g1, ← h2, ← g2]
      simp only [Datum.order]
      congr 1
      have a1 : (-1074 + (e : Int) - min (-1074 + (e : Int)) (-1074 + (f : Int))).toNat = e - min e f := by omega
      have a2 : (-1074 + (f : Int) - min (-1074 + (e : Int)) (-1074 + (f : Int))).toNat = f - min e f := by omega
      rw [a1, a2, ← cmp_scale _ _ (min e f)]
      have b1 : ∀ (s : Bool) (m e : Nat), min e f ≤ e → signed s m (e - min e f) * ((2 ^ min e f : Nat) : Int) = if s then -((m * 2 ^ e : Nat) : Int) else ((m * 2 ^ e : Nat) : Int) := by
        intro s m e he
        have : 2 ^ (e - min e f) * 2 ^ min e f = 2 ^ e := by rw [← Nat.pow_add]; congr 1; omega
        unfold signed
        rw [Nat.shiftLeft_eq, ← this, ← Nat.mul_assoc]
        cases s
        · simp
        · simp [Int.neg_mul]
      have b2 : ∀ (s : Bool) (m : Nat), signed s m (f - min e f) * ((2 ^ min e f : Nat) : Int) = if s then -((m * 2 ^ f : Nat) : Int) else ((m * 2 ^ f : Nat) : Int) := by
        intro s m
        have : 2 ^ (f - min e f) * 2 ^ min e f = 2 ^ f := by rw [← Nat.pow_add]; congr 1; omega
        unfold signed
        rw [Nat.shiftLeft_eq, ← this, ← Nat.mul_assoc]
        cases s
        · simp
        · simp [Int.neg_mul]
      rw [b1 _ _ e (by omega), b2]
    · rw [h1, g2]
      simp only [Datum.order]
      have hm := mag_lt (show x % 9223372036854775808 < y % 9223372036854775808 by omega)
      cases negB y
      · cases negB x <;> simp <;> (symm; apply cmp_lt'; omega)
      · cases negB x <;> simp <;> (symm; apply cmp_gt'; omega)
  · rcases read_num hy ny with ⟨n, f, g1, g2, g3⟩ | ⟨g1, g2⟩
    · rw [h2, g1]
      simp only [Datum.order]
      have hm := mag_lt (show y % 9223372036854775808 < x % 9223372036854775808 by omega)
      cases negB x
      · cases negB y <;> simp <;> (symm; apply cmp_gt'; omega)
      · cases negB y <;> simp <;> (symm; apply cmp_lt'; omega)
    · rw [h2, g2, h1, g1]
      simp only [Datum.order]
      have hp : 0 < mag 9218868437227405312 := by have := mag_lt (show 0 < 9218868437227405312 by omega); omega
      generalize mag 9218868437227405312 = M at *
      cases negB x
      · cases negB y
        · first | (simp; done) | (simp; symm; exact cmp_eq' rfl)
        · simp; symm; apply cmp_gt'; omega
      · cases negB y
        · simp; symm; apply cmp_lt'; omega
        · first | (simp; done) | (simp; symm; exact cmp_eq' rfl)
theorem nanB_iff {x : Nat} (hx : x < 18446744073709551616) : nanB x = true ↔ ¬ isNum x := by
  unfold nanB
  show (double.order x x != some .eq) = true ↔ _
  by_cases h : isNum x
  · rw [order_num hx hx h h, cmp_eq' rfl]; simp [h]
  · have h' := h
    unfold isNum at h'
    have : double.read x = .nan (negB x) (x % 9223372036854775808 - 9218868437227405312) := by
      rw [read_word hx, if_neg (by omega), if_neg (by omega), if_neg (by omega)]
    unfold Format.order
    rw [this]
    simp [Datum.order, h]
theorem rcanon {x : Nat} (hx : x < 18446744073709551616) : canon x = if 9218868437227405312 < x % 9223372036854775808 then oneNaN else x := by
  unfold canon
  have h := nanB_iff hx
  unfold isNum at h
  by_cases h1 : 9218868437227405312 < x % 9223372036854775808
  · rw [if_pos (h.2 (by omega)), if_pos h1]
  · rw [if_neg (fun hh => (h.1 hh) (by omega)), if_neg h1]

end Go.Proofs.Ytiabhgkndejigaa

namespace Go.Proofs.Ytiabhgkndejigaa
open Go.RowKit

/-- In w the document's reader lies at block c: its bytes ps, its place at', the ends es, its fault fa. -/
structure Qm (w : World) (c : Nat) (pv ev : Value) (ps : List Nat) (at' : Nat) (es : List Nat) (fa : Nat) : Prop where
  blk : Blk w c #[pv, .int .i64 (at' : Int), ev, .int .i64 (fa : Int)] 85
  see : Sees w pv ps
  eown : w.ownsRow 0 3 1 ev es.length (i64s es)
  n1 : pv.ownBlock ≠ some c
  n2 : ev.ownBlock ≠ some c
  n3 : ∀ k, pv.ownBlock = some k → ev.ownBlock ≠ some k
  bl : ps.length ≤ 140737488355328
  b17 : es.length ≤ 17
  bat : at' ≤ ps.length
  bes : ∀ x ∈ es, x ≤ ps.length
def qfoot (c : Nat) (pv ev : Value) : List Nat := c :: (pv.ownBlock.toList ++ ev.ownBlock.toList)

theorem Qm.kept {F : List Nat} {w w' : World} {c : Nat} {pv ev : Value} {ps : List Nat} {at' : Nat} {es : List Nat} {fa : Nat} (h : Qm w c pv ev ps at' es fa) (k : Kept F w w') (hd : ∀ x ∈ qfoot c pv ev, x ∉ F) : Qm w' c pv ev ps at' es fa :=
  ⟨h.blk.kept k (hd c (by simp [qfoot])), h.see.kept k (fun x hx => hd x (by simp [qfoot, hx])), own_kept h.eown k (fun x hx => hd x (by simp [qfoot, hx])), h.n1, h.n2, h.n3, h.bl, h.b17, h.bat, h.bes⟩
theorem Qm.lt {w : World} {c : Nat} {pv ev : Value} {ps : List Nat} {at' : Nat} {es : List Nat} {fa : Nat} (h : Qm w c pv ev ps at' es fa) : ∀ x ∈ qfoot c pv ev, x < w.heap.size := by
  intro x hx
  simp [qfoot] at hx
  rcases hx with rfl | hx | hx
  · exact h.blk.lt
  · exact h.see.lt hx
  · exact (h.eown.lt x hx).2
theorem Qm.place {w : World} {c : Nat} {pv ev : Value} {ps : List Nat} {at' : Nat} {es : List Nat} {fa : Nat} (h : Qm w c pv ev ps at' es fa) (a : Nat) (ha : a ≤ ps.length) :
    Qm (w.setCell ⟨c, 1, none⟩ (.int .i64 (a : Int))) c pv ev ps a es fa ∧ Kept [c] w (w.setCell ⟨c, 1, none⟩ (.int .i64 (a : Int))) := by
  have kk : Kept [c] w (w.setCell ⟨c, 1, none⟩ (.int .i64 (a : Int))) := (Kept.refl _ _).setCell (Or.inl (by simp)) _
  refine ⟨⟨by simpa using h.blk.set 1 (.int .i64 (a : Int)), h.see.kept kk (fun k hk => ?_), own_kept h.eown kk (fun k hk => ?_), h.n1, h.n2, h.n3, h.bl, h.b17, ha, h.bes⟩, kk⟩
  · simp; intro e; exact h.n1 (by rw [hk, e])
  · simp; intro e; exact h.n2 (by rw [hk, e])
theorem Qm.fail {w : World} {c : Nat} {pv ev : Value} {ps : List Nat} {at' : Nat} {es : List Nat} {fa : Nat} (h : Qm w c pv ev ps at' es fa) (f : Nat) :
    Qm (w.setCell ⟨c, 3, none⟩ (.int .i64 (f : Int))) c pv ev ps at' es f ∧ Kept [c] w (w.setCell ⟨c, 3, none⟩ (.int .i64 (f : Int))) := by
  have kk : Kept [c] w (w.setCell ⟨c, 3, none⟩ (.int .i64 (f : Int))) := (Kept.refl _ _).setCell (Or.inl (by simp)) _
  refine ⟨⟨by simpa using h.blk.set 3 (.int .i64 (f : Int)), h.see.kept kk (fun k hk => ?_), own_kept h.eown kk (fun k hk => ?_), h.n1, h.n2, h.n3, h.bl, h.b17, h.bat, h.bes⟩, kk⟩
  · simp; intro e; exact h.n1 (by rw [hk, e])
  · simp; intro e; exact h.n2 (by rw [hk, e])
theorem Qm.quiet {w w' : World} {c : Nat} {pv ev : Value} {ps : List Nat} {at' : Nat} {es : List Nat} {fa : Nat} (h : Qm w c pv ev ps at' es fa) (q : Quiet w w') : Qm w' c pv ev ps at' es fa := h.kept q.kept (by simp)

/-- Where it ends. -/
theorem Qm.end {w : World} {c : Nat} {pv ev : Value} {ps : List Nat} {at' : Nat} {es : List Nat} {fa : Nat} (h : Qm w c pv ev ps at' es fa) {i x : Nat} (hi : es[i]? = some x) :
    ∃ g cap, ev = .slice (some ⟨g, 0, none⟩) es.length cap ∧ w.cell? ⟨g, i, none⟩ = some (.int .i64 (x : Int)) := by
  rcases h.eown.2 with ⟨e1, e2⟩ | ⟨g, cap', cur, e1, hg, hh, r⟩
  · have hi := (List.getElem?_eq_some_iff.1 hi).1
    omega
  · have := h.eown.cells (g := g) (by rw [e1]; rfl) i (.int .i64 (x : Int)) (by simp [i64s, hi])
    have hadd : (⟨g, 0, none⟩ : Addr).add i = ⟨g, i, none⟩ := by unfold Addr.add; split <;> simp_all
    rw [hadd] at this
    exact ⟨g, cap', e1, this⟩

set_option maxRecDepth 100000 in
set_option maxHeartbeats 400000 in
theorem qdead_no {w : World} {c : Nat} {pv ev : Value} {ps : List Nat} {at' : Nat} {es : List Nat} (h : Qm w c pv ev ps at' es 0) :
    Calls Try.prog 105 #[.pointer (some ⟨c, 0, none⟩)] w fun e w' => e = .returned (.bool false) ∧ w = w' := by
  obtain ⟨c0, c1, c2, c3⟩ := blk4 h.blk
  clear h
  go_enter Try.func105, Try.ntmps105
  go_wp2
  go_ret
  exact ⟨rfl, rfl⟩
set_option maxRecDepth 100000 in
set_option maxHeartbeats 400000 in
theorem qdead_yes {w : World} {c : Nat} {pv ev : Value} {ps : List Nat} {at' : Nat} {es : List Nat} {fa : Nat} (h : Qm w c pv ev ps at' es fa) (hf : fa ≠ 0) :
    Calls Try.prog 105 #[.pointer (some ⟨c, 0, none⟩)] w fun e w' => e = .returned (.bool true) ∧ w = w' := by
  obtain ⟨c0, c1, c2, c3⟩ := blk4 h.blk
  have hn : ((fa : Int) != 0) = true := by rw [bne_iff_ne]; omega
  clear h hf
  go_enter Try.func105, Try.ntmps105
  go_wp2
  go_ret
  exact ⟨rfl, rfl⟩
set_option maxRecDepth 100000 in
set_option maxHeartbeats 400000 in
theorem qdead_nil (w : World) : Calls Try.prog 105 #[.pointer none] w fun e w' => e = .returned (.bool true) ∧ w = w' := by
  go_enter Try.func105, Try.ntmps105
  go_wp2
  go_ret
  exact ⟨rfl, rfl⟩

set_option maxRecDepth 100000 in
set_option maxHeartbeats 400000 in
theorem qleft_any {w : World} {c : Nat} {pv ev : Value} {ps : List Nat} {at' : Nat} {es : List Nat} {fa : Nat} (h : Qm w c pv ev ps at' es fa) (m x : Nat) (hm : es.length = m + 1) (hx : es[m]? = some x) :
    Calls Try.prog 114 #[.pointer (some ⟨c, 0, none⟩)] w fun e w' => e = .returned (.int .i64 ((x : Int) - (at' : Int))) ∧ Quiet w w' := by
  obtain ⟨c0, c1, c2, c3⟩ := blk4 h.blk
  obtain ⟨g, cap, rfl, ce⟩ := h.end hx
  have hb := h.bat
  have h17 := h.b17
  have hbl := h.bl
  have hxb := h.bes x (List.mem_of_getElem? hx)
  rw [hm] at c2 h17
  obtain ⟨N, hN⟩ : ∃ N, m + 1 = N := ⟨_, rfl⟩
  rw [hN] at c2 h17
  have w1 : IntKind.i64.wrap ((N : Int) - 1) = (m : Int) := by rw [IntKind.wrap_i64]; omega
  have hmN : m < N := by omega
  clear h hm hx hN
  go_enter Try.func114, Try.ntmps114
  go_wp2
  go_quiet (fail)
  go_wp2
  go_ret
  exact ⟨rfl, (Quiet.refl _).drewN _⟩
end Go.Proofs.Ytiabhgkndejigaa

namespace Go.Proofs.Ytiabhgkndejigaa
open Go.RowKit

/-- 'append' as one step of a region that draws, by its run -/
theorem step_append_runE {P : Program} {ops : Array Oper} {o : Oper} {a : Act} {w : World} {K : Act → World → Prop} {Q : Exit → Act → World → Prop} {E : Prop}
    (hg : o.guard = none) (d x : Operand) (dT sT : TypeId) (hop : o.op = Op.call { callee := Callee.builtin Builtin.append, args := #[d, x], argTypes := #[dT, sT] })
    (v u : Value) (hd : a.eval d = v) (hx : a.eval x = u) {v' : Value} {w' : World} (hr : (Builtin.append_ #[dT, sT] o.type #[v, u]).run P w = .ok v' w') (hK : K (a.put o.dst v') w') :
    if Region.wanted o (yielded ops a.tmps) = true then Oper.wp P o a w K Q else E := by
  have hw : Region.wanted o (yielded ops a.tmps) = true := by simp [Region.wanted, hg]
  rw [if_pos hw]
  unfold Oper.wp
  simp [execOp, hop, resolve, invoke, builtin, hd, hx, hr, Result.andThen]
  exact hK

/-- one more byte behind bytes of the call's own -/
theorem app_byte {w : World} {base : Nat} {a : Option Addr} {k cap : Nat} {xs : List Nat} (h : w.ownsRow base 5 1 (.slice a k cap) k (u8s xs)) (hk : xs.length = k) (x : Nat) (hl : k + 1 ≤ 140737488355328) (hb : base ≤ w.heap.size) (ty : TypeId) :
    ∃ a' cap' w', (Builtin.append_ #[25, 25] ty #[.slice a k cap, .slice (some ⟨w.heap.size, 0, none⟩) 1 1]).run Try.prog (w.alloc (.cells #[.int .u8 (x : Int)] 5)).drew = .ok (.slice a' (k + 1) cap') w' ∧ w'.ownsRow base 5 1 (.slice a' (k + 1) cap') (k + 1) (u8s (xs ++ [x])) ∧ ∀ w0, Kept [] w0 w → w0.heap.size ≤ base → Kept [] w0 w' := by
  obtain ⟨i0, hi, hz0, hz1, hz2⟩ := info_parts Try.info5
  subst hk
  have k1 : Kept [] w (w.alloc (.cells #[.int .u8 (x : Int)] 5)).drew := ((Kept.refl [] w).alloc _).drew
  have s1 : Sees (w.alloc (.cells #[.int .u8 (x : Int)] 5)).drew (.slice (some ⟨w.heap.size, 0, none⟩) 1 1) [x] := (news_one w x).kept (F := []) (Kept.refl [] _).drew (by simp)
  obtain ⟨v', w', h1, h2, h3, h4⟩ := run_append_sees (P := Try.prog) (w.alloc (.cells #[.int .u8 (x : Int)] 5)).drew base 25 ty 5 i0 (.int .u8 0) Try.underlying25 hi hz0 hz1 hz2 rfl _ xs (own_kept h k1 (by simp)) _ [x] s1 (by simp; omega) (by simp; omega)
  obtain ⟨a', cap', rfl⟩ := own_len h2
  have hl1 : (xs ++ [x]).length = xs.length + 1 := by simp
  rw [hl1] at h1 h2
  refine ⟨a', cap', w', h1, h2, fun w0 hk0 hb0 => ?_⟩
  exact (hk0.trans k1 (by simp)).grown h3 (fun q hq => Or.inr (by have := (h.lt q hq).1; omega))

theorem Sees.spot {w : World} {v : Value} {bs : List Nat} (h : Sees w v bs) {j : Nat} (hj : j < bs.length) : ∃ b off cap, v = .slice (some ⟨b, off, none⟩) bs.length cap ∧ bs.length ≤ cap ∧ cap ≤ maxLen ∧ w.cell? ⟨b, off + j, none⟩ = some (.int .u8 (bs.getD j 0 : Nat)) := by
  rcases h with ⟨_, h2⟩ | ⟨b, off, cap, hv, h1, h2, _, h4⟩
  · rw [h2] at hj; simp at hj
  · exact ⟨b, off, cap, hv, h1, h2, h4 j hj⟩
theorem take_next (ps : List Nat) (a k : Nat) (h : a + k < ps.length) : (ps.drop a).take k ++ [ps.getD (a + k) 0] = (ps.drop a).take (k + 1) := by
  rw [List.take_add_one]
  simp [h]

set_option maxRecDepth 100000 in
set_option maxHeartbeats 400000 in
theorem qbytes_short {w : World} {c : Nat} {pv ev : Value} {ps : List Nat} {at' : Nat} {es : List Nat} (h : Qm w c pv ev ps at' es 0) (m x : Nat) (hm : es.length = m + 1) (hx : es[m]? = some x) (n : Int) (hn : (x : Int) - (at' : Int) < n) :
    Calls Try.prog 106 #[.pointer (some ⟨c, 0, none⟩), .int .i64 n] w fun e w' => e = .returned (.slice none 0 0) ∧ Qm w' c pv ev ps at' es 10 ∧ Kept [c] w w' := by
  have HH := hide h
  have HL := hide (qleft_any h m x hm hx)
  have t1 : ((x : Int) - (at' : Int) < n) = True := by simp; omega
  clear h hm hx hn
  go_enter Try.func106, Try.ntmps106
  go_wp2_with (first | (go_at_call 114; refine (unhide HL).mono ?_; rintro e w1 ⟨rfl, hq⟩; have HQ := hide ((unhide HH).quiet hq); have HK := hide hq.kept; have f3 := (unhide HQ).blk.frozen 3; have c3 := (blk4 (unhide HQ).blk).2.2.2; clear hq))
  go_ret
  obtain ⟨g1, g2⟩ := (unhide HQ).fail 10
  exact ⟨rfl, g1, ((unhide HK).mono (by simp)).trans g2 (fun y hy => Or.inl hy)⟩

set_option maxRecDepth 100000 in
set_option maxHeartbeats 1000000 in
theorem qbytes_ok {w : World} {c : Nat} {pv ev : Value} {ps : List Nat} {at' : Nat} {es : List Nat} (h : Qm w c pv ev ps at' es 0) (m x : Nat) (hm : es.length = m + 1) (hx : es[m]? = some x) (n : Nat) (hn : at' + n ≤ x) :
    Calls Try.prog 106 #[.pointer (some ⟨c, 0, none⟩), .int .i64 (n : Int)] w fun e w' => ∃ a cap, e = .returned (.slice a n cap) ∧ w'.ownsRow w.heap.size 5 1 (.slice a n cap) n (u8s ((ps.drop at').take n)) ∧ Qm w' c pv ev ps (at' + n) es 0 ∧ Kept [c] w w' := by
  have HH := hide h
  have HL := hide (qleft_any h m x hm hx)
  have t1 : ((x : Int) - (at' : Int) < (n : Int)) = False := by simp; omega
  have hxl := h.bes x (List.mem_of_getElem? hx)
  have hbl := h.bl
  clear h hm hx
  go_enter Try.func106, Try.ntmps106
  go_wp2_with (first | (go_at_call 114; refine (unhide HL).mono ?_; rintro e w1 ⟨rfl, hq⟩; have HK := hide hq.kept; clear hq))
  go_loopw [5, 6] (fun v i wr => ∃ (k : Nat) (a : Option Addr) (cap : Nat), k ≤ n ∧ i = .int .i64 (k : Int) ∧ v = .slice a k cap ∧ Hid (wr.ownsRow w.heap.size 5 1 (.slice a k cap) k (u8s ((ps.drop at').take k)) ∧ Kept [] w wr)) (fun _ i _ => n - (intOf i).toNat)
  case atStart => exact ⟨0, none, 0, by omega, rfl, rfl, hide ⟨World.ownsRow_nil _ _ _ _, unhide HK⟩⟩
  case round =>
    obtain ⟨k, a, cap, hk, rfl, rfl, HR⟩ := hrel
    have HQ := hide ((unhide HH).kept (unhide HR).2 (by simp))
    obtain ⟨c0, c1, c2, c3⟩ := blk4 (unhide HQ).blk
    by_cases hlt : k < n
    · have hi : at' + k < ps.length := by omega
      obtain ⟨pb, off, pc, hpv, hpc, hpm, cx⟩ := (unhide HQ).see.spot hi
      subst hpv
      have HT := hide (take_next ps at' k hi)
      have hlen : ((ps.drop at').take k).length = k := by simp; omega
      obtain ⟨a2, d2, w2, hap, ho2, hk2⟩ := app_byte (unhide HR).1 hlen (ps.getD (at' + k) 0) (by omega) (unhide HR).2.size 25
      generalize ps.getD (at' + k) 0 = y at *
      have HAP := hide hap
      have HAP2 : Hid ((Builtin.append_ #[25, 25] 25 #[.slice a k cap, .slice (some ⟨wr.heap.size, 0, none⟩) 1 1]).run Try.prog (wr.drew.alloc (.cells #[.int .u8 (y : Int)] 5)) = .ok (.slice a2 (k + 1) d2) w2) := hap
      have HO2 := hide ho2
      have HK2 := hide (hk2 w (unhide HR).2 (Nat.le_refl _))
      have hw1 : IntKind.i64.wrap ((at' : Int) + (k : Int)) = ((at' + k : Nat) : Int) := by rw [IntKind.wrap_i64]; omega
      have hpc' : ps.length ≤ 9223372036854775807 := by omega
      have hk63 : k + 1 ≤ 140737488355328 := by omega
      have hw7 : IntKind.i64.wrap ((k : Int) + 1) = (k : Int) + 1 := by rw [IntKind.wrap_i64]; omega
      obtain ⟨q, hq⟩ : ∃ q, at' + k = q := ⟨_, rfl⟩
      rw [hq] at cx hw1 hi
      obtain ⟨L, hL⟩ : ∃ L, ps.length = L := ⟨_, rfl⟩
      rw [hL] at c0 hi hpc'
      have HX := hide hL
      have HX2 := hide hq
      clear hap ho2 hk2 hlen hpc hpm HL t1 hxl hbl hq hL hn
      go_upto_region 8 with fail
      go_region_law (first | (refine step_append_runE (by rfl) _ _ 25 25 (by rfl) _ _ (by rfl) (by rfl) (unhide HAP) ?_) | (refine step_append_runE (by rfl) _ _ 25 25 (by rfl) _ _ (by rfl) (by rfl) (unhide HAP2) ?_))
      all_goals
        clear c0 c1 c2 c3 cx HAP HAP2
        go_wp2
        refine ⟨⟨k + 1, a2, d2, by omega, by go_num, rfl, hide ⟨?_, unhide HK2⟩⟩, by simp [intOf]; omega⟩
        rw [← unhide HT]
        exact unhide HO2
    · obtain rfl : k = n := by omega
      have f1 := (unhide HQ).blk.frozen 1
      have hw1 : IntKind.i64.wrap ((at' : Int) + (k : Int)) = ((at' + k : Nat) : Int) := by rw [IntKind.wrap_i64]; omega
      clear HL t1
      go_wp2
      go_ret
      obtain ⟨g1, g2⟩ := (unhide HQ).place (at' + k) (by omega)
      refine ⟨a, cap, rfl, ?_, ?_, ?_⟩
      · exact own_kept (unhide HR).1 g2 (fun q hq => by simp; intro e; subst e; have := ((unhide HR).1.lt q hq).1; have := (unhide HH).blk.lt; omega)
      · exact g1
      · exact ((unhide HR).2.mono (by simp)).trans g2 (fun y hy => Or.inl hy)
end Go.Proofs.Ytiabhgkndejigaa

namespace Go.Proofs.Ytiabhgkndejigaa

/-- What is left and what stands behind each frame, by the place at' and the ends es. -/
structure Geo (ps : List Nat) (at' : Nat) (es : List Nat) (left : List Nat) (behind : List (List Nat)) : Prop where
  len : es.length = behind.length + 1
  hl : ∃ x, es[behind.length]? = some x ∧ at' ≤ x ∧ x ≤ ps.length ∧ left = (ps.take x).drop at'
  bh : ∀ i, i < behind.length → ∃ x y, es[i]? = some x ∧ es[i + 1]? = some y ∧ y ≤ x ∧ x ≤ ps.length ∧ behind[i]? = some ((ps.take x).drop y)

theorem Geo.new (ps : List Nat) : Geo ps 0 [ps.length] ps [] := ⟨rfl, ⟨ps.length, rfl, Nat.zero_le _, Nat.le_refl _, by simp⟩, fun i hi => by simp at hi⟩
theorem Geo.le {ps : List Nat} {at' : Nat} {es : List Nat} {l : List Nat} {bh : List (List Nat)} (h : Geo ps at' es l bh) {x : Nat} (hx : es[bh.length]? = some x) : l.length = x - at' ∧ at' ≤ x ∧ x ≤ ps.length ∧ l = (ps.take x).drop at' := by
  obtain ⟨y, h1, h2, h3, h4⟩ := h.hl
  rw [h1] at hx
  cases hx
  refine ⟨?_, h2, h3, h4⟩
  rw [h4]; simp; omega
theorem Geo.at {ps : List Nat} {at' : Nat} {es : List Nat} {l : List Nat} {bh : List (List Nat)} (h : Geo ps at' es l bh) : ∃ x, es[bh.length]? = some x ∧ l.length = x - at' ∧ at' ≤ x ∧ x ≤ ps.length := by
  obtain ⟨y, h1, h2, h3, h4⟩ := h.hl
  exact ⟨y, h1, by rw [h4]; simp; omega, h2, h3⟩
theorem Geo.take {ps : List Nat} {at' : Nat} {es : List Nat} {l : List Nat} {bh : List (List Nat)} (h : Geo ps at' es l bh) (n : Nat) (hn : n ≤ l.length) : (ps.drop at').take n = l.take n := by
  obtain ⟨y, h1, h2, h3, h4⟩ := h.hl
  rw [h4] at hn ⊢
  simp at hn
  rw [List.drop_take, List.take_take]
  congr 1; omega
theorem Geo.go {ps : List Nat} {at' : Nat} {es : List Nat} {l : List Nat} {bh : List (List Nat)} (h : Geo ps at' es l bh) (n : Nat) (hn : n ≤ l.length) : Geo ps (at' + n) es (l.drop n) bh := by
  obtain ⟨y, h1, h2, h3, h4⟩ := h.hl
  refine ⟨h.len, ⟨y, h1, ?_, h3, ?_⟩, h.bh⟩
  · rw [h4] at hn; simp at hn; omega
  · rw [h4, List.drop_drop]
theorem Geo.enter {ps : List Nat} {at' : Nat} {es : List Nat} {l : List Nat} {bh : List (List Nat)} (h : Geo ps at' es l bh) (n : Nat) (hn : n ≤ l.length) : Geo ps at' (es ++ [at' + n]) (l.take n) (bh ++ [l.drop n]) := by
  obtain ⟨y, h1, h2, h3, h4⟩ := h.hl
  have hy : at' + n ≤ y := by rw [h4] at hn; simp at hn; omega
  have hlen := h.len
  refine ⟨by simp [hlen], ⟨at' + n, ?_, by omega, by omega, ?_⟩, fun i hi => ?_⟩
  · rw [List.getElem?_append_right (by simp; omega)]; simp [hlen]
  · rw [← h.take n hn, List.drop_take]; congr 1; omega
  · simp at hi
    by_cases hb : i < bh.length
    · obtain ⟨x, z, q1, q2, q3, q4, q5⟩ := h.bh i hb
      exact ⟨x, z, by rw [List.getElem?_append_left (by omega)]; exact q1, by rw [List.getElem?_append_left (by omega)]; exact q2, q3, q4, by rw [List.getElem?_append_left hb]; exact q5⟩
    · obtain rfl : i = bh.length := by omega
      refine ⟨y, at' + n, by rw [List.getElem?_append_left (by omega)]; exact h1, by rw [List.getElem?_append_right (by omega)]; simp [hlen], hy, h3, ?_⟩
      rw [List.getElem?_append_right (by omega)]
      simp
      rw [h4, List.drop_drop]
theorem Geo.leave {ps : List Nat} {at' : Nat} {es : List Nat} {bh : List (List Nat)} (h : Geo ps at' es [] bh) (hb : bh ≠ []) : Geo ps at' es.dropLast (bh.getD (bh.length - 1) []) bh.dropLast := by
  obtain ⟨y, h1, h2, h3, h4⟩ := h.hl
  have hp := List.length_pos_iff.2 hb
  have hlen := h.len
  have hay : at' = y := by
    have := congrArg List.length h4
    simp at this; omega
  obtain ⟨x, z, q1, q2, q3, q4, q5⟩ := h.bh (bh.length - 1) (by omega)
  have e1 : bh.length - 1 + 1 = bh.length := by omega
  rw [e1, h1] at q2
  cases q2
  refine ⟨by simp; omega, ⟨x, ?_, by omega, q4, ?_⟩, fun i hi => ?_⟩
  · rw [List.length_dropLast, List.getElem?_dropLast, if_pos (by omega)]; exact q1
  · rw [List.getD, q5, hay]; rfl
  · simp at hi
    obtain ⟨x', z', r1, r2, r3, r4, r5⟩ := h.bh i (by omega)
    exact ⟨x', z', by rw [List.getElem?_dropLast, if_pos (by omega)]; exact r1, by rw [List.getElem?_dropLast, if_pos (by omega)]; exact r2, r3, r4, by rw [List.getElem?_dropLast, if_pos (by omega)]; exact r5⟩

/-- The number that bytes are, from behind. -/
theorem leV_snoc (l : List Nat) (x : Nat) : leV (l ++ [x]) = leV l + 256 ^ l.length * x := by
  induction l with
  | nil => simp [leV]
  | cons y l ih => simp only [List.cons_append, leV, ih, List.length_cons, Nat.pow_succ]; rw [Nat.mul_add, Nat.add_assoc, Nat.mul_comm (256 ^ l.length) 256, Nat.mul_assoc]
theorem leV_rev (l : List Nat) : ∀ a, l.foldl (fun n b => n * 256 + b) a = a * 256 ^ l.length + leV l.reverse := by
  induction l with
  | nil => intro a; simp [leV]
  | cons x l ih =>
    intro a
    rw [List.foldl_cons, ih, List.reverse_cons, leV_snoc, List.length_cons, List.length_reverse, Nat.pow_succ, Nat.add_mul, Nat.mul_assoc, Nat.mul_comm 256, Nat.mul_comm x]
    omega
theorem leV_of8 (l : List Nat) : leV l.reverse = of8 l := by
  unfold of8; rw [leV_rev]; simp
end Go.Proofs.Ytiabhgkndejigaa

namespace Go.Proofs.Ytiabhgkndejigaa
open Go.RowKit

theorem leV_drop (l : List Nat) (j : Nat) (hj : j < l.length) : leV (l.drop j) = l.getD j 0 + 256 * leV (l.drop (j + 1)) := by
  rw [List.drop_eq_getElem_cons hj, leV]
  simp [hj]
theorem pow_le7 {n : Nat} (h : n ≤ 7) : 256 ^ n ≤ 72057594037927936 := by
  have : 256 ^ n ≤ 256 ^ 7 := Nat.pow_le_pow_right (by omega) h
  exact this

set_option maxRecDepth 100000 in
set_option maxHeartbeats 400000 in
theorem qvalue_any {w : World} {v : Value} {l : List Nat} (h : Sees w v l) (hb : ∀ x ∈ l, x < 256) (hl : l.length ≤ 8) :
    Calls Try.prog 107 #[v] w fun e w' => e = .returned (.int .u64 (leV l : Nat)) ∧ w = w' := by
  have HS := hide h
  have HB := hide hb
  obtain ⟨a, cap, rfl⟩ := sees_len h
  obtain ⟨L, hL⟩ : ∃ L, l.length = L := ⟨_, rfl⟩
  have HL := hide hL
  rw [hL] at hl ⊢
  clear h hb hL
  go_enter Try.func107, Try.ntmps107
  go_wp2
  go_loop [3, 4] (fun n i => ∃ k : Nat, k ≤ L ∧ i = .int .i64 ((k : Int) - 1) ∧ n = .int .u64 (leV (l.drop k) : Nat)) (fun _ i => (intOf i + 1).toNat)
  case atStart => exact ⟨L, Nat.le_refl _, rfl, by rw [List.drop_eq_nil_of_le (by rw [unhide HL]; exact Nat.le_refl _)]; rfl⟩
  case round =>
    obtain ⟨k, hk, rfl, rfl⟩ := hrel
    by_cases h0 : k = 0
    · subst h0
      go_wp2
      go_ret
      exact ⟨by simp, rfl⟩
    · obtain ⟨j, rfl⟩ : ∃ j, k = j + 1 := ⟨k - 1, by omega⟩
      have hj : j < l.length := by rw [unhide HL]; omega
      obtain ⟨b, off, cap', hv, hc1, hc2, cx⟩ := (unhide HS).spot hj
      rw [unhide HL] at hv hc1
      cases hv
      have HD := hide (leV_drop l j hj)
      have hx : l.getD j 0 < 256 := unhide HB _ (by rw [List.getD, List.getElem?_eq_getElem hj]; exact List.getElem_mem _)
      have hlv : leV (l.drop (j + 1)) < 72057594037927936 := by
        have h1 := leV_lt (l.drop (j + 1)) (fun x hx => unhide HB x (List.mem_of_mem_drop hx))
        have h2 := pow_le7 (n := (l.drop (j + 1)).length) (by simp [unhide HL]; omega)
        omega
      generalize l.getD j 0 = y at *
      generalize leV (l.drop (j + 1)) = n at *
      rw [show (((j + 1 : Nat) : Int) - 1) = (j : Int) by omega]
      have hw1 : IntKind.u64.wrap (256 * (n : Int)) = 256 * (n : Int) := by rw [IntKind.wrap_u64]; omega
      have hw2 : IntKind.u64.wrap (256 * (n : Int) + (y : Int)) = 256 * (n : Int) + (y : Int) := by rw [IntKind.wrap_u64]; omega
      have hjL : j < L := by omega
      have hm : L ≤ 9223372036854775807 := by omega
      clear hc1 hc2 hj hl
      go_wp2
      exact ⟨⟨j, by omega, rfl, by rw [unhide HD]; congr 1; push_cast; try omega⟩, by simp [intOf] <;> omega⟩

set_option maxRecDepth 100000 in
set_option maxHeartbeats 400000 in
theorem qturned_any {w : World} {v : Value} {l : List Nat} (h : Sees w v l) (hl : l.length ≤ 8) :
    Calls Try.prog 100 #[v] w fun e w' => ∃ a cap, e = .returned (.slice a l.length cap) ∧ w'.ownsRow w.heap.size 5 1 (.slice a l.length cap) l.length (u8s l.reverse) ∧ Kept [] w w' := by
  obtain ⟨i0, hi, hz0, hz1, hz2⟩ := info_parts Try.info5
  have HI := hide (⟨hi, hz0, hz1, hz2⟩ : _ ∧ _ ∧ _ ∧ _)
  have HS := hide h
  obtain ⟨a, cap, rfl⟩ := sees_len h
  obtain ⟨L, hL⟩ : ∃ L, l.length = L := ⟨_, rfl⟩
  have HL := hide hL
  rw [hL] at hl ⊢
  clear h hL hi hz0 hz1 hz2
  go_enter Try.func100, Try.ntmps100
  go_wp2
  go_loopw [3, 4] (fun v i wr => ∃ (k : Nat) (a' : Option Addr) (cap' : Nat), k ≤ L ∧ i = .int .i64 ((k : Int) - 1) ∧ v = .slice a' (L - k) cap' ∧ Hid (wr.ownsRow w.heap.size 5 1 (.slice a' (L - k) cap') (L - k) (u8s (l.drop k).reverse) ∧ Kept [] w wr)) (fun _ i _ => (intOf i + 1).toNat)
  case atStart => exact ⟨L, none, 0, Nat.le_refl _, rfl, by rw [Nat.sub_self], hide ⟨by rw [Nat.sub_self, List.drop_eq_nil_of_le (by rw [unhide HL]; exact Nat.le_refl _)]; exact World.ownsRow_nil _ _ _ _, Kept.refl _ _⟩⟩
  case round =>
    obtain ⟨k, a', cap', hk, rfl, rfl, HR⟩ := hrel
    by_cases h0 : k = 0
    · subst h0
      go_wp2
      go_ret
      exact ⟨a', cap', rfl, (unhide HR).1, (unhide HR).2⟩
    · obtain ⟨j, rfl⟩ : ∃ j, k = j + 1 := ⟨k - 1, by omega⟩
      have hj : j < l.length := by rw [unhide HL]; omega
      obtain ⟨b, off, cap2, hv, hc1, hc2, cx0⟩ := (unhide HS).spot hj
      have cx := (((unhide HS).kept (unhide HR).2 (by simp)).spot hj)
      obtain ⟨b', off', cap3, hv', _, _, cx⟩ := cx
      rw [hv] at hv'
      cases hv'
      rw [unhide HL] at hv hc1
      cases hv
      have HD : Hid (l.drop j = l.getD j 0 :: l.drop (j + 1)) := by unfold Hid; rw [List.drop_eq_getElem_cons hj]; simp [hj]
      generalize l.getD j 0 = y at *
      rw [show (((j + 1 : Nat) : Int) - 1) = (j : Int) by omega]
      have hjL : j < L := by omega
      have hm : L ≤ 9223372036854775807 := by omega
      have hrl : (l.drop (j + 1)).reverse.length = L - (j + 1) := by simp [unhide HL]
      have HO : Hid ((wr.alloc (.cells #[.int .u8 (y : Int)] 5)).ownsRow w.heap.size 5 1 (.slice a' (L - (j + 1)) cap') (l.drop (j + 1)).reverse.length (u8s (l.drop (j + 1)).reverse)) := by rw [hrl]; exact (unhide HR).1.alloc _
      have HRL := hide hrl
      have HSZ := hide (unhide HR).2.size
      clear hc1 hc2 hj cx0 hrl
      go_wp2_with (at_builtin; refine wpList_append_sees _ rfl _ _ 25 rfl w.heap.size 5 i0 (.int .u8 0) Try.underlying25 (unhide HI).1 (unhide HI).2.1 (unhide HI).2.2.1 (unhide HI).2.2.2 rfl _ (l.drop (j + 1)).reverse rfl (unhide HO) _ [y] rfl (news_one _ _) ?c1 ?c2 ?_)
      case c1 => rw [unhide HRL]; simp; omega
      case c2 => have := unhide HSZ; simp; omega
      intro v' w1 hown1 hg hat
      obtain ⟨a2, d2, rfl⟩ := own_len hown1
      have hl2 : l.length - (j + 1) + 1 = L - j := by rw [unhide HL]; omega
      rw [hl2] at hown1 ⊢
      have HO1 := hide hown1
      have HG := hide hg
      clear hown1 hg hat hl2
      go_wp2
      refine ⟨⟨j, a2, d2, by omega, rfl, rfl, hide ⟨?_, ?_⟩⟩, by simp [intOf] <;> omega⟩
      · rw [unhide HD, List.reverse_cons]; exact unhide HO1
      · exact ((unhide HR).2.alloc _).grown (unhide HG) (fun q hq => Or.inr ((unhide HR).1.lt q hq).1)

set_option maxRecDepth 100000 in
set_option maxHeartbeats 400000 in
theorem qunfold_any (n : Nat) (w : World) (h1 : n < 18446744073709551616) :
    Calls Try.prog 111 #[.int .u64 n] w fun e w' => e = .returned (.int .i64 (unfoldN n)) ∧ w = w' := by
  by_cases h2 : n % 2 = 0
  · have HU : Hid (unfoldN n = ((n / 2 : Nat) : Int)) := by unfold Hid unfoldN; rw [if_neg (by omega)]; omega
    have t1 : (((n : Int) % 2) == 0) = true := by rw [beq_iff_eq]; omega
    have hw1 : IntKind.i64.wrap ((n : Int) / 2) = ((n / 2 : Nat) : Int) := by rw [IntKind.wrap_i64]; omega
    clear h2
    go_enter Try.func111, Try.ntmps111
    go_wp2
    go_ret
    exact ⟨by rw [unhide HU]; first | rfl | (congr 2; omega), rfl⟩
  · have HU : Hid (unfoldN n = -((n / 2 : Nat) : Int) - 1) := by unfold Hid unfoldN; rw [if_pos (by omega)]; omega
    have t1 : (((n : Int) % 2) == 0) = false := by rw [beq_eq_false_iff_ne]; omega
    have hw1 : IntKind.i64.wrap ((n : Int) / 2) = ((n / 2 : Nat) : Int) := by rw [IntKind.wrap_i64]; omega
    clear h2
    go_enter Try.func111, Try.ntmps111
    go_wp2
    go_ret
    exact ⟨by rw [unhide HU]; first | rfl | (congr 2; omega), rfl⟩

set_option maxRecDepth 100000 in
set_option maxHeartbeats 400000 in
theorem qclean_any (x : Nat) (hx : x < 18446744073709551616) (w : World) : Calls Try.prog 101 #[.int .u64 (x : Int)] w fun e w' => e = .returned (.int .u64 (canon x : Nat)) ∧ w = w' := by
  have hc := rcanon hx
  have HO : Hid (∀ w, Calls Try.prog 124 #[.int .u64 (x : Int)] w fun e w' => e = .returned (.bool (decide (9218868437227405312 < x % 9223372036854775808))) ∧ w = w') := by
    intro w
    go_enter Try.func124, Try.ntmps124
    go_wp2
    go_ret
    exact ⟨by congr 2; simp; omega, rfl⟩
  by_cases h1 : 9218868437227405312 < x % 9223372036854775808
  · rw [if_pos h1] at hc
    have HC := hide hc
    rw [show decide (9218868437227405312 < x % 9223372036854775808) = true by simpa using h1] at HO
    clear hc h1
    go_enter Try.func101, Try.ntmps101
    go_wp2_with (first | (go_at_call 124; refine (unhide HO _).mono ?_; rintro e w1 ⟨rfl, rfl⟩))
    go_ret
    exact ⟨by rw [unhide HC]; rfl, rfl⟩
  · rw [if_neg h1] at hc
    have HC := hide hc
    rw [show decide (9218868437227405312 < x % 9223372036854775808) = false by simpa using h1] at HO
    clear hc h1
    go_enter Try.func101, Try.ntmps101
    go_wp2_with (first | (go_at_call 124; refine (unhide HO _).mono ?_; rintro e w1 ⟨rfl, rfl⟩))
    go_ret
    exact ⟨by rw [unhide HC]; rfl, rfl⟩
end Go.Proofs.Ytiabhgkndejigaa

namespace Go.Proofs.Ytiabhgkndejigaa
open Go.RowKit

theorem own1 {w : World} {base : Nat} {a : Option Addr} {cap y : Nat} (h : w.ownsRow base 5 1 (.slice a 1 cap) 1 (u8s [y])) : ∃ g, a = some ⟨g, 0, none⟩ ∧ 1 ≤ cap ∧ cap ≤ 9223372036854775807 ∧ w.cell? ⟨g, 0, none⟩ = some (.int .u8 (y : Int)) := by
  have hs : Sees w (.slice a 1 cap) [y] := Sees.of_own h
  obtain ⟨g, off, cap', hv, h1, h2, hc⟩ := hs.spot (j := 0) (by simp)
  rcases h.2 with ⟨e1, e2⟩ | ⟨g', cap'', cur, e1, _⟩
  · simp at e2
  · cases e1
    cases hv
    unfold maxLen at h2
    exact ⟨_, rfl, by simpa using h1, h2, by simpa using hc⟩

/-- What a number's reading makes of the document's reader. -/
def NumQ (w : World) (c : Nat) (pv ev : Value) (ps : List Nat) (at' : Nat) (es l : List Nat) (e : Ending) (w' : World) : Prop :=
  (∀ n r, readNum 0 0 l = .inr (n, r) → e = .returned (.int .u64 (n : Nat)) ∧ ∃ k, k ≤ l.length ∧ r = l.drop k ∧ Qm w' c pv ev ps (at' + k) es 0) ∧
  (∀ cd, readNum 0 0 l = .inl cd → e = .returned (.int .u64 0) ∧ ∃ at2, Qm w' c pv ev ps at2 es cd) ∧ Kept [c] w w'

set_option maxRecDepth 100000 in
set_option maxHeartbeats 2000000 in
theorem qnumber_any {w : World} {c : Nat} {pv ev : Value} {ps : List Nat} {at' : Nat} {es : List Nat} (h : Qm w c pv ev ps at' es 0) (m x : Nat) (hm : es.length = m + 1) (hx : es[m]? = some x) (hat : at' ≤ x) (hb : ∀ y ∈ ps, y < 256) (l : List Nat) (hl : l = (ps.take x).drop at') :
    Calls Try.prog 110 #[.pointer (some ⟨c, 0, none⟩)] w (NumQ w c pv ev ps at' es l) := by
  have HH := hide h
  have HM := hide hm
  have HX := hide hx
  have hxl := h.bes x (List.mem_of_getElem? hx)
  have hll : l.length = x - at' := by rw [hl]; simp; omega
  have HB := hide hb
  have HLL := hide hll
  have HL := hide hl
  clear h hm hx hb hl hll
  go_enter Try.func110, Try.ntmps110
  go_wp2
  go_loopw [3, 4, 5] (fun n sc i wr => ∃ (k acc : Nat), k ≤ 9 ∧ Hid (k ≤ l.length) ∧ i = .int .i64 k ∧ n = .int .u64 acc ∧ sc = .int .u64 ((128 ^ k : Nat) : Int) ∧ Hid (acc < 128 ^ k) ∧ Hid (readNum k acc (l.drop k) = readNum 0 0 l) ∧ Hid (Qm wr c pv ev ps (at' + k) es 0 ∧ Kept [c] w wr)) (fun _ _ i _ => 10 - (intOf i).toNat)
  case atStart => exact ⟨0, 0, by omega, hide (Nat.zero_le _), rfl, rfl, by simp, hide (by simp), hide rfl, hide ⟨unhide HH, Kept.refl _ _⟩⟩
  case round =>
    obtain ⟨k, acc, hk, HKL, rfl, rfl, rfl, HA, HE, HR⟩ := hrel
    by_cases hkl : k = l.length
    · have HBS := hide (qbytes_short (unhide HR).1 m x (unhide HM) (unhide HX) 1 (by have := unhide HLL; omega))
      have HN : Hid (readNum 0 0 l = .inl 10) := by unfold Hid; rw [← unhide HE, hkl, List.drop_eq_nil_of_le (Nat.le_refl _), readNum]
      have hk10 : (k : Int) < 10 := by omega
      clear hkl
      go_wp2_with (first | (go_at_call 106; refine (unhide HBS).mono ?_; rintro e w1 ⟨rfl, hq, hk1⟩; have HQ1 := hide hq; have HK1 := hide hk1; obtain ⟨d0, d1, d2, d3⟩ := blk4 hq.blk; clear hq hk1 HBS))
      go_ret
      refine ⟨fun n r hr => ?_, fun cd hr => ?_, ?_⟩
      · rw [unhide HN] at hr; cases hr
      · rw [unhide HN] at hr; cases hr
        exact ⟨rfl, _, unhide HQ1⟩
      · exact (unhide HR).2.trans (unhide HK1) (fun y hy => Or.inl hy)
    · have hk2 : k < l.length := by have := unhide HKL; omega
      have hox : at' + k + 1 ≤ x := by have := unhide HLL; omega
      have HBS := hide (qbytes_ok (unhide HR).1 m x (unhide HM) (unhide HX) 1 hox)
      have hee : l.getD k 0 = ps.getD (at' + k) 0 := by
        rw [unhide HL]
        simp [show at' + k < x by omega]
      have hy1 : (ps.drop (at' + k)).take 1 = [l.getD k 0] := by
        rw [hee]
        exact (take_next ps (at' + k) 0 (by omega)).symm
      have hd1 : l.drop k = l.getD k 0 :: l.drop (k + 1) := by rw [List.drop_eq_getElem_cons hk2]; simp [hk2]
      have hy : l.getD k 0 < 256 := by
        have h1 : l.getD k 0 ∈ l := by rw [List.getD, List.getElem?_eq_getElem hk2]; exact List.getElem_mem _
        have h2 : ∀ z ∈ l, z ∈ ps := by
          intro z hz
          rw [unhide HL] at hz
          exact List.mem_of_mem_take (List.mem_of_mem_drop hz)
        exact unhide HB _ (h2 _ h1)
      rw [hy1] at HBS
      rw [hd1] at HE
      have HK2 := hide (show k + 1 ≤ l.length from hk2)
      generalize l.getD k 0 = y at *
      have hS : 128 ^ k ≤ 9223372036854775808 := by
        have : 128 ^ k ≤ 128 ^ 9 := Nat.pow_le_pow_right (by omega) hk
        exact this
      have HS2 : Hid (k ≤ 8 → 128 ^ (k + 1) = 128 * 128 ^ k ∧ 128 ^ k ≤ 72057594037927936) := by
        intro h8
        have : 128 ^ k ≤ 128 ^ 8 := Nat.pow_le_pow_right (by omega) h8
        exact ⟨by rw [Nat.pow_succ]; omega, this⟩
      obtain ⟨S, hSS⟩ : ∃ S, 128 ^ k = S := ⟨_, rfl⟩
      have HSS := hide hSS
      rw [hSS] at HA HS2 hS ⊢
      have hk10 : (k : Int) < 10 := by omega
      clear hkl hk2 hy1 hd1 hox hSS hee
      by_cases hA : k = 9 ∧ 1 < y
      · have b1 : ((k : Int) == 9) = true := by rw [beq_iff_eq]; omega
        have b2 : decide (1 < (y : Int)) = true := by simp; omega
        have HN : Hid (readNum 0 0 l = .inl 11) := by unfold Hid; rw [← unhide HE, readNum, if_pos hA]
        clear hA
        go_wp2_with (first | (go_at_call 106; refine (unhide HBS).mono ?_; rintro e w1 ⟨a, cap, rfl, ho, hq, hk1⟩; obtain ⟨g, hga, hc1, hc2, cx⟩ := own1 ho; subst hga; have HQ1 := hide hq; have HK1 := hide hk1; obtain ⟨d0, d1, d2, d3⟩ := blk4 hq.blk; have f3 := hq.blk.frozen 3; clear ho hq hk1 HBS))
        go_ret
        obtain ⟨g1, g2⟩ := (unhide HQ1).fail 11
        refine ⟨fun n r hr => ?_, fun cd hr => ?_, ?_⟩
        · rw [unhide HN] at hr; cases hr
        · rw [unhide HN] at hr; cases hr
          exact ⟨rfl, _, g1⟩
        · exact ((unhide HR).2.trans (unhide HK1) (fun y hy => Or.inl hy)).trans g2 (fun y hy => Or.inl hy)
      · by_cases h0 : y = 0 ∧ 0 < k
        · have b3 : ((y : Int) == 0) = true := by rw [beq_iff_eq]; omega
          have b4 : decide (0 < k) = true := by simp; omega
          have HN : Hid (readNum 0 0 l = .inl 11) := by unfold Hid; rw [← unhide HE, readNum, if_neg hA, if_pos (by omega), if_pos h0]
          have hB : ((k : Int) == 9) = false ∨ (((k : Int) == 9) = true ∧ decide (1 < (y : Int)) = false) := by
            by_cases h9 : k = 9
            · right; exact ⟨by rw [beq_iff_eq]; omega, by simp; omega⟩
            · left; rw [beq_eq_false_iff_ne]; omega
          clear hA h0
          rcases hB with b1 | ⟨b1, b2⟩
          all_goals
            go_wp2_with (first | (go_at_call 106; refine (unhide HBS).mono ?_; rintro e w1 ⟨a, cap, rfl, ho, hq, hk1⟩; obtain ⟨g, hga, hc1, hc2, cx⟩ := own1 ho; subst hga; have HQ1 := hide hq; have HK1 := hide hk1; obtain ⟨d0, d1, d2, d3⟩ := blk4 hq.blk; have f3 := hq.blk.frozen 3; clear ho hq hk1 HBS))
            go_ret
            obtain ⟨g1, g2⟩ := (unhide HQ1).fail 11
            refine ⟨fun n r hr => ?_, fun cd hr => ?_, ?_⟩
            · rw [unhide HN] at hr; cases hr
            · rw [unhide HN] at hr; cases hr
              exact ⟨rfl, _, g1⟩
            · exact ((unhide HR).2.trans (unhide HK1) (fun y hy => Or.inl hy)).trans g2 (fun y hy => Or.inl hy)
        · have hB : ((k : Int) == 9) = false ∨ (((k : Int) == 9) = true ∧ decide (1 < (y : Int)) = false) := by
            by_cases h9 : k = 9
            · right; exact ⟨by rw [beq_iff_eq]; omega, by simp; omega⟩
            · left; rw [beq_eq_false_iff_ne]; omega
          have hC : ((y : Int) == 0) = false ∨ (((y : Int) == 0) = true ∧ decide (0 < k) = false) := by
            by_cases h9 : y = 0
            · right; exact ⟨by rw [beq_iff_eq]; omega, by simp; omega⟩
            · left; rw [beq_eq_false_iff_ne]; omega
          have hm1 : S * (y % 128) ≤ 9223372036854775808 * 127 ∧ (k = 9 → S * (y % 128) ≤ 9223372036854775808) ∧ (k ≤ 8 → S * (y % 128) ≤ 72057594037927936 * 127) := by
            refine ⟨Nat.mul_le_mul hS (by omega), fun h9 => ?_, fun h8 => ?_⟩
            · have := Nat.mul_le_mul hS (show y % 128 ≤ 1 by omega); omega
            · exact Nat.mul_le_mul (unhide HS2 h8).2 (by omega)
          have ha1 := unhide HA
          have hm2 : S * (y % 128) + acc < 18446744073709551616 := by
            by_cases h9 : k = 9
            · have := hm1.2.1 h9; omega
            · have := hm1.2.2 (by omega); omega
          have hw1 : IntKind.u64.wrap ((S : Int) * ((y : Int) % 128)) = ((S * (y % 128) : Nat) : Int) := by
            rw [show (S : Int) * ((y : Int) % 128) = ((S * (y % 128) : Nat) : Int) by push_cast; rfl]
            generalize S * (y % 128) = q at *
            rw [IntKind.wrap_u64]; omega
          have hw2 : IntKind.u64.wrap ((acc : Int) + ((S * (y % 128) : Nat) : Int)) = ((acc + S * (y % 128) : Nat) : Int) := by
            generalize S * (y % 128) = q at *
            rw [IntKind.wrap_u64]; omega
          have HM1 := hide hm1
          have HM2 := hide hm2
          have HNA := hide hA
          have HN0 := hide h0
          obtain ⟨q, hq0⟩ : ∃ q, S * (y % 128) = q := ⟨_, rfl⟩
          have HQ0 := hide hq0
          rw [hq0] at hw1 hw2
          clear hm1 hm2 ha1 hA h0 hq0
          by_cases hy8 : y < 128
          · have HN : Hid (readNum 0 0 l = .inr (acc + q, l.drop (k + 1))) := by
              unfold Hid; rw [← unhide HE, readNum, if_neg (unhide HNA), if_pos hy8, if_neg (unhide HN0), unhide HSS, ← unhide HQ0, Nat.mod_eq_of_lt hy8, Nat.mul_comm]
            have t8 : ((y : Int) < 128) = True := by simp; omega
            rcases hB with b1 | ⟨b1, b2⟩ <;> rcases hC with b3 | ⟨b3, b4⟩
            all_goals
              go_wp2_with (first | (go_at_call 106; refine (unhide HBS).mono ?_; rintro e w1 ⟨a, cap, rfl, ho, hq, hk1⟩; obtain ⟨g, hga, hc1, hc2, cx⟩ := own1 ho; subst hga; have HQ1 := hide hq; have HK1 := hide hk1; obtain ⟨d0, d1, d2, d3⟩ := blk4 hq.blk; clear ho hq hk1 HBS))
              go_ret
              refine ⟨fun n r hr => ?_, fun cd hr => ?_, ?_⟩
              · rw [unhide HN] at hr; cases hr
                exact ⟨rfl, k + 1, unhide HK2, rfl, unhide HQ1⟩
              · rw [unhide HN] at hr; cases hr
              · exact (unhide HR).2.trans (unhide HK1) (fun y hy => Or.inl hy)
          · have hk8 : k ≤ 8 := by have := unhide HNA; omega
            have b1 : ((k : Int) == 9) = false := by rw [beq_eq_false_iff_ne]; omega
            have b3 : ((y : Int) == 0) = false := by rw [beq_eq_false_iff_ne]; omega
            have t8 : ((y : Int) < 128) = False := by simp; omega
            have hs8 := unhide HS2 hk8
            have hw3 : IntKind.u64.wrap (128 * (S : Int)) = ((128 * S : Nat) : Int) := by have := hs8.2; rw [IntKind.wrap_u64]; omega
            have HS8 := hide hs8
            clear hB hC hs8
            go_wp2_with (first | (go_at_call 106; refine (unhide HBS).mono ?_; rintro e w1 ⟨a, cap, rfl, ho, hq, hk1⟩; obtain ⟨g, hga, hc1, hc2, cx⟩ := own1 ho; subst hga; have HQ1 := hide hq; have HK1 := hide hk1; obtain ⟨d0, d1, d2, d3⟩ := blk4 hq.blk; clear ho hq hk1 HBS))
            refine ⟨⟨k + 1, acc + q, by omega, HK2, by go_num, rfl, (by rw [(unhide HS8).1]; simp), hide ?_, hide ?_, hide ⟨unhide HQ1, (unhide HR).2.trans (unhide HK1) (fun y hy => Or.inl hy)⟩⟩, by simp [intOf]; omega⟩
            · rw [(unhide HS8).1]
              have h1 := unhide HQ0
              have h2 := unhide HA
              have h3 : S * (y % 128) ≤ S * 127 := Nat.mul_le_mul (Nat.le_refl _) (by omega)
              omega
            · rw [← unhide HE, readNum, if_neg (unhide HNA), if_neg hy8, unhide HSS, ← unhide HQ0, Nat.mul_comm]
end Go.Proofs.Ytiabhgkndejigaa

namespace Go.Proofs.Ytiabhgkndejigaa
open Go.RowKit

theorem sees_own {w : World} {base : Nat} {a : Option Addr} {n cap : Nat} {l : List Nat} (hl : l.length = n) (h : w.ownsRow base 5 1 (.slice a n cap) n (u8s l)) : Sees w (.slice a n cap) l := by
  subst hl; exact Sees.of_own h
/-- In w the document's reader at block c is in the state s; F: its blocks. -/
def Qs (w : World) (c : Nat) (F : List Nat) (s : RS) : Prop :=
  ∃ pv ev ps at' es, Qm w c pv ev ps at' es s.fault ∧ F = qfoot c pv ev ∧ (∀ x ∈ ps, x < 256) ∧ (s.fault = 0 → Geo ps at' es s.left s.behind) ∧ (s.fault ≠ 0 → s.left = [] ∧ s.behind = [])
/-- Behind a call on it. -/
def QsP (w : World) (c : Nat) (F : List Nat) (s' : RS) (w' : World) : Prop := ∃ F', Qs w' c F' s' ∧ Kept F w w' ∧ ∀ x ∈ F', x ∈ F ∨ w.heap.size ≤ x

theorem Qs.lt {w : World} {c : Nat} {F : List Nat} {s : RS} (h : Qs w c F s) : ∀ x ∈ F, x < w.heap.size := by
  obtain ⟨pv, ev, ps, at', es, h1, rfl, _⟩ := h; exact h1.lt
theorem Qs.mem {w : World} {c : Nat} {F : List Nat} {s : RS} (h : Qs w c F s) : c ∈ F := by
  obtain ⟨pv, ev, ps, at', es, h1, rfl, _⟩ := h; simp [qfoot]
theorem Qs.kept {G : List Nat} {w w' : World} {c : Nat} {F : List Nat} {s : RS} (h : Qs w c F s) (k : Kept G w w') (hF : ∀ x ∈ F, x ∉ G) : Qs w' c F s := by
  obtain ⟨pv, ev, ps, at', es, h1, rfl, h2⟩ := h
  exact ⟨pv, ev, ps, at', es, h1.kept k hF, rfl, h2⟩
theorem QsP.same {w w' : World} {c : Nat} {F : List Nat} {s : RS} (h : Qs w c F s) (k : Kept [] w w') : QsP w c F s w' := ⟨F, h.kept k (by simp), k.mono (by simp), fun _ hx => Or.inl hx⟩
theorem QsP.err {w w' : World} {c : Nat} {pv ev : Value} {ps : List Nat} {at2 : Nat} {es : List Nat} {cd : Nat} (hc : cd ≠ 0) (h : Qm w' c pv ev ps at2 es cd) (hb : ∀ x ∈ ps, x < 256) (k : Kept [c] w w') : QsP w c (qfoot c pv ev) (rF cd) w' :=
  ⟨qfoot c pv ev, ⟨pv, ev, ps, at2, es, h, rfl, hb, fun h0 => absurd h0 hc, fun _ => ⟨rfl, rfl⟩⟩, k.mono (fun x hx => Or.inl (by simp at hx; subst hx; simp [qfoot])), fun _ hx => Or.inl hx⟩
theorem QsP.ok {w w' : World} {c : Nat} {pv ev : Value} {ps : List Nat} {at2 : Nat} {es l : List Nat} {bh : List (List Nat)} (h : Qm w' c pv ev ps at2 es 0) (hb : ∀ x ∈ ps, x < 256) (g : Geo ps at2 es l bh) (k : Kept [c] w w') : QsP w c (qfoot c pv ev) ⟨0, l, bh⟩ w' :=
  ⟨qfoot c pv ev, ⟨pv, ev, ps, at2, es, h, rfl, hb, fun _ => g, fun h0 => absurd rfl h0⟩, k.mono (fun x hx => Or.inl (by simp at hx; subst hx; simp [qfoot])), fun _ hx => Or.inl hx⟩
theorem QsP.from {w W w' : World} {c : Nat} {F : List Nat} {s' : RS} (k : Kept [] w W) (h : QsP W c F s' w') : QsP w c F s' w' := by
  obtain ⟨F', h1, h2, h3⟩ := h
  refine ⟨F', h1, (k.mono (by simp)).trans h2 (fun x hx => Or.inl hx), fun x hx => ?_⟩
  rcases h3 x hx with h | h
  · exact Or.inl h
  · right; have := k.size; omega
theorem QsP.behind {w W w' : World} {c : Nat} {F : List Nat} {s' : RS} (h : QsP w c F s' W) (k : Kept [] W w') : QsP w c F s' w' := by
  obtain ⟨F', h1, h2, h3⟩ := h
  exact ⟨F', h1.kept k (by simp), h2.trans k (by simp), h3⟩

/-- A reader with no fault, opened. -/
theorem Qs.open {w : World} {c : Nat} {F : List Nat} {s : RS} (h : Qs w c F s) (hf : s.fault = 0) :
    ∃ pv ev ps at' es x, Qm w c pv ev ps at' es 0 ∧ F = qfoot c pv ev ∧ (∀ x ∈ ps, x < 256) ∧ Geo ps at' es s.left s.behind ∧ es.length = s.behind.length + 1 ∧ es[s.behind.length]? = some x ∧ s.left.length = x - at' ∧ at' ≤ x ∧ x ≤ ps.length ∧ s.left = (ps.take x).drop at' := by
  obtain ⟨pv, ev, ps, at', es, h1, h2, h3, h4, _⟩ := h
  have g := h4 hf
  obtain ⟨x, g1, g2, g3, g4⟩ := g.at
  rw [hf] at h1
  exact ⟨pv, ev, ps, at', es, x, h1, h2, h3, g, g.len, g1, g2, g3, g4, (g.le g1).2.2.2⟩
theorem Qs.dead {w : World} {c : Nat} {F : List Nat} {s : RS} (h : Qs w c F s) (hf : s.fault ≠ 0) :
    Calls Try.prog 105 #[.pointer (some ⟨c, 0, none⟩)] w fun e w' => e = .returned (.bool true) ∧ w = w' := by
  obtain ⟨pv, ev, ps, at', es, h1, _⟩ := h
  exact qdead_yes h1 hf
set_option maxRecDepth 100000 in
set_option maxHeartbeats 1000000 in
theorem qbyte_s {w : World} {c : Nat} {F : List Nat} {s : RS} (h : Qs w c F s) :
    Calls Try.prog 57 #[.pointer (some ⟨c, 0, none⟩)] w fun e w' => e = .returned (.int .i64 ((rByte s).2 : Nat)) ∧ QsP w c F (rByte s).1 w' := by
  by_cases hf : s.fault = 0
  · obtain ⟨pv, ev, ps, at', es, x, h1, rfl, hb, g, hm, hx, hl, hat, hxl, hle⟩ := h.open hf
    have HD := hide (qdead_no h1)
    have HG := hide g
    have HBy := hide hb
    cases hs : s.left with
    | nil =>
      have hr : rByte s = (rF 10, 0) := by unfold rByte; rw [if_neg (by omega), hs]
      have HB := hide (qbytes_short h1 _ x hm hx 1 (by rw [hs] at hl; simp at hl; omega))
      rw [hr]
      clear h h1 g hm hx hl hat hxl hle hb
      clear hr hs hf
      go_enter Try.func57, Try.ntmps57
      go_wp2_with (first | (go_at_call 105; refine (unhide HD).mono ?_; rintro e w1 ⟨rfl, rfl⟩) | (go_at_call 106; refine (unhide HB).mono ?_; rintro e w1 ⟨rfl, hq, hk⟩; have HQ := hide hq; have HK := hide hk; obtain ⟨d0, d1, d2, d3⟩ := blk4 hq.blk; have f3 := hq.blk.frozen 3; clear hq hk HB))
      go_ret
      exact ⟨rfl, QsP.err (by omega) (unhide HQ) (unhide HBy) (unhide HK)⟩
    | cons y l =>
      have hr : rByte s = (⟨0, l, s.behind⟩, y) := by unfold rByte; rw [if_neg (by omega), hs]
      have HB := hide (qbytes_ok h1 _ x hm hx 1 (by rw [hs] at hl; simp at hl; omega))
      have ht : (ps.drop at').take 1 = [y] := by rw [g.take 1 (by rw [hs]; simp), hs]; rfl
      have hy : y < 256 := hb y (by
        have : y ∈ s.left := by rw [hs]; simp
        rw [hle] at this
        exact List.mem_of_mem_take (List.mem_of_mem_drop this))
      have HG1 : Hid (Geo ps (at' + 1) es l s.behind) := by have := g.go 1 (by rw [hs]; simp); rw [hs] at this; exact this
      rw [ht] at HB
      rw [hr]
      clear h h1 g hm hx hl hat hxl hle hb
      clear hr hs hf ht HG
      go_enter Try.func57, Try.ntmps57
      go_wp2_with (first | (go_at_call 105; refine (unhide HD).mono ?_; rintro e w1 ⟨rfl, rfl⟩) | (go_at_call 106; refine (unhide HB).mono ?_; rintro e w1 ⟨a1, cap1, rfl, ho, hq, hk⟩; obtain ⟨g1, hga, hc1, hc2, cx⟩ := own1 ho; subst hga; have HQ := hide hq; have HK := hide hk; obtain ⟨d0, d1, d2, d3⟩ := blk4 hq.blk; clear ho hq hk HB))
      go_ret
      exact ⟨rfl, QsP.ok (unhide HQ) (unhide HBy) (unhide HG1) (unhide HK)⟩
  · have HD := hide (h.dead hf)
    have HH := hide h
    have hr : rByte s = (s, 0) := by unfold rByte; rw [if_pos hf]
    rw [hr]
    clear hr h hf
    go_enter Try.func57, Try.ntmps57
    go_wp2_with (first | (go_at_call 105; refine (unhide HD).mono ?_; rintro e w1 ⟨rfl, rfl⟩))
    go_ret
    exact ⟨rfl, QsP.same (unhide HH) (Kept.refl _ _)⟩

set_option maxRecDepth 100000 in
set_option maxHeartbeats 1000000 in
theorem qfixed_s {w : World} {c : Nat} {F : List Nat} {s : RS} (h : Qs w c F s) (size : Int) :
    Calls Try.prog 58 #[.pointer (some ⟨c, 0, none⟩), .int .i64 size] w fun e w' => e = .returned (.int .u64 ((rFixed s size).2 : Nat)) ∧ QsP w c F (rFixed s size).1 w' := by
  by_cases hf : s.fault = 0
  · obtain ⟨pv, ev, ps, at', es, x, h1, rfl, hb, g, hm, hx, hl, hat, hxl, hle⟩ := h.open hf
    have HD := hide (qdead_no h1)
    have HBy := hide hb
    by_cases ha : size < 1 ∨ 8 < size
    · have hr : rFixed s size = (rF 2, 0) := by unfold rFixed; rw [if_neg (by omega), if_pos ha]
      rw [hr]
      have HQ := hide h1
      have f3 := h1.blk.frozen 3
      have c3 := (blk4 h1.blk).2.2.2
      clear h h1 g hm hx hl hat hxl hle hb
      clear hr hf
      by_cases hs1 : size < 1
      · have b1 : decide (size < 1) = true := by simpa using hs1
        clear ha hs1
        go_enter Try.func58, Try.ntmps58
        go_wp2_with (first | (go_at_call 105; refine (unhide HD).mono ?_; rintro e w1 ⟨rfl, rfl⟩))
        go_ret
        obtain ⟨q1, q2⟩ := (unhide HQ).fail 2
        exact ⟨rfl, QsP.err (by omega) q1 (unhide HBy) q2⟩
      · have b1 : decide (size < 1) = false := by simpa using hs1
        have b2 : decide (8 < size) = true := by simp; omega
        clear ha hs1
        go_enter Try.func58, Try.ntmps58
        go_wp2_with (first | (go_at_call 105; refine (unhide HD).mono ?_; rintro e w1 ⟨rfl, rfl⟩))
        go_ret
        obtain ⟨q1, q2⟩ := (unhide HQ).fail 2
        exact ⟨rfl, QsP.err (by omega) q1 (unhide HBy) q2⟩
    · have b1 : decide (size < 1) = false := by simp; omega
      have b2 : decide (8 < size) = false := by simp; omega
      by_cases hsh : (s.left.length : Int) < size
      · have hr : rFixed s size = (rF 10, 0) := by unfold rFixed; rw [if_neg (by omega), if_neg ha, if_pos hsh]
        have HB := hide (qbytes_short h1 _ x hm hx size (by omega))
        rw [hr]
        have HV := fun W => hide (qvalue_any (w := W) (v := .slice none 0 0) (l := []) (Or.inl ⟨rfl, rfl⟩) (by simp) (by simp))
        clear h h1 g hm hx hl hat hxl hle hb
        clear hr hf ha hsh
        go_enter Try.func58, Try.ntmps58
        go_wp2_with (first | (go_at_call 105; refine (unhide HD).mono ?_; rintro e w1 ⟨rfl, rfl⟩) | (go_at_call 106; refine (unhide HB).mono ?_; rintro e w1 ⟨rfl, hq, hk⟩; have HQ := hide hq; have HK := hide hk; obtain ⟨d0, d1, d2, d3⟩ := blk4 hq.blk; have f3 := hq.blk.frozen 3; clear hq hk HB) | (go_at_call 107; refine (unhide (HV _)).mono ?_; rintro e w2 ⟨rfl, rfl⟩))
        go_ret
        exact ⟨rfl, QsP.err (by omega) (unhide HQ) (unhide HBy) (unhide HK)⟩
      · obtain ⟨n, rfl⟩ := Int.eq_ofNat_of_zero_le (show 0 ≤ size by omega)
        have hr : rFixed s (n : Int) = (⟨0, s.left.drop n, s.behind⟩, leV (s.left.take n)) := by unfold rFixed; rw [if_neg (by omega), if_neg ha, if_neg hsh]; rfl
        have HB := hide (qbytes_ok h1 _ x hm hx n (by omega))
        have HT := hide (g.take n (by omega))
        have HG1 := hide (g.go n (by omega))
        have HTL : Hid ((s.left.take n).length = n) := by unfold Hid; simp; omega
        have HTB : Hid (∀ x ∈ s.left.take n, x < 256) := by
          intro y hy
          have := List.mem_of_mem_take hy
          rw [hle] at this
          exact hb y (List.mem_of_mem_take (List.mem_of_mem_drop this))
        have hn8 : n ≤ 8 := by omega
        rw [hr]
        clear h h1 g hm hx hl hat hxl hle hb
        clear hr hf ha hsh
        go_enter Try.func58, Try.ntmps58
        go_wp2_with (first | (go_at_call 105; refine (unhide HD).mono ?_; rintro e w1 ⟨rfl, rfl⟩) | (go_at_call 106; refine (unhide HB).mono ?_; rintro e w1 ⟨a1, cap1, rfl, ho, hq, hk⟩; rw [unhide HT] at ho; have HS1 := hide (sees_own (unhide HTL) ho); have HQ := hide hq; have HK := hide hk; clear ho hq hk HB) | (go_at_call 107; refine (qvalue_any (unhide HS1) (unhide HTB) (by rw [unhide HTL]; exact hn8)).mono ?_; rintro e w2 ⟨rfl, rfl⟩))
        go_ret
        exact ⟨rfl, QsP.ok (unhide HQ) (unhide HBy) (unhide HG1) (unhide HK)⟩
  · have HD := hide (h.dead hf)
    have HH := hide h
    have hr : rFixed s size = (s, 0) := by unfold rFixed; rw [if_pos hf]
    rw [hr]
    clear hr h hf
    go_enter Try.func58, Try.ntmps58
    go_wp2_with (first | (go_at_call 105; refine (unhide HD).mono ?_; rintro e w1 ⟨rfl, rfl⟩))
    go_ret
    exact ⟨rfl, QsP.same (unhide HH) (Kept.refl _ _)⟩

set_option maxRecDepth 100000 in
set_option maxHeartbeats 1000000 in
theorem qnum_s {w : World} {c : Nat} {F : List Nat} {s : RS} (h : Qs w c F s) :
    Calls Try.prog 60 #[.pointer (some ⟨c, 0, none⟩)] w fun e w' => e = .returned (.int .u64 ((rNum s).2 : Nat)) ∧ QsP w c F (rNum s).1 w' := by
  by_cases hf : s.fault = 0
  · obtain ⟨pv, ev, ps, at', es, x, h1, rfl, hb, g, hm, hx, hl, hat, hxl, hle⟩ := h.open hf
    have HD := hide (qdead_no h1)
    have HBy := hide hb
    have HG := hide g
    have HN := hide (qnumber_any h1 _ x hm hx hat hb s.left hle)
    have hlb : ∀ y ∈ s.left, y < 256 := by
      intro y hy
      rw [hle] at hy
      exact hb y (List.mem_of_mem_take (List.mem_of_mem_drop hy))
    cases hrd : readNum 0 0 s.left with
    | inl cd =>
      have hr : rNum s = (rF cd, 0) := by unfold rNum; rw [if_neg (by omega), hrd]
      have HC : Hid (cd ≠ 0) := by rcases readNum_code _ _ _ hrd with rfl | rfl <;> simp [Hid]
      have HRD := hide hrd
      rw [hr]
      clear h h1 g hm hx hl hat hxl hle hb
      clear hr hrd hf hlb
      go_enter Try.func60, Try.ntmps60
      go_wp2_with (first | (go_at_call 105; refine (unhide HD).mono ?_; rintro e w1 ⟨rfl, rfl⟩) | (go_at_call 110; refine (unhide HN).mono ?_; rintro e w1 ⟨-, hq, hk⟩; obtain ⟨rfl, at2, hq⟩ := hq cd (unhide HRD); have HQ := hide hq; have HK := hide hk; obtain ⟨d0, d1, d2, d3⟩ := blk4 hq.blk; clear hq hk HN))
      go_ret
      exact ⟨rfl, QsP.err (unhide HC) (unhide HQ) (unhide HBy) (unhide HK)⟩
    | inr p =>
      obtain ⟨n, r⟩ := p
      have hr : rNum s = (⟨0, r, s.behind⟩, n) := by unfold rNum; rw [if_neg (by omega), hrd]
      have HRD := hide hrd
      rw [hr]
      clear h h1 g hm hx hl hat hxl hle hb
      clear hr hrd hf hlb
      go_enter Try.func60, Try.ntmps60
      go_wp2_with (first | (go_at_call 105; refine (unhide HD).mono ?_; rintro e w1 ⟨rfl, rfl⟩) | (go_at_call 110; refine (unhide HN).mono ?_; rintro e w1 ⟨hq, -, hk⟩; obtain ⟨rfl, k, hkl, hrk, hq⟩ := hq n r (unhide HRD); have HQ := hide hq; have HK := hide hk; have HKL := hide hkl; have HRK := hide hrk; obtain ⟨d0, d1, d2, d3⟩ := blk4 hq.blk; have f3 := hq.blk.frozen 3; clear hq hk HN hkl hrk))
      go_ret
      refine ⟨rfl, QsP.ok (unhide HQ) (unhide HBy) ?_ (unhide HK)⟩
      rw [unhide HRK]
      exact (unhide HG).go _ (unhide HKL)
  · have HD := hide (h.dead hf)
    have HH := hide h
    have hr : rNum s = (s, 0) := by unfold rNum; rw [if_pos hf]
    rw [hr]
    clear hr h hf
    go_enter Try.func60, Try.ntmps60
    go_wp2_with (first | (go_at_call 105; refine (unhide HD).mono ?_; rintro e w1 ⟨rfl, rfl⟩))
    go_ret
    exact ⟨rfl, QsP.same (unhide HH) (Kept.refl _ _)⟩

set_option maxRecDepth 100000 in
set_option maxHeartbeats 1000000 in
theorem qint_s {w : World} {c : Nat} {F : List Nat} {s : RS} (h : Qs w c F s) :
    Calls Try.prog 61 #[.pointer (some ⟨c, 0, none⟩)] w fun e w' => e = .returned (.int .i64 (rInt s).2) ∧ QsP w c F (rInt s).1 w' := by
  unfold rInt
  by_cases hf : s.fault = 0
  · obtain ⟨pv, ev, ps, at', es, x, h1, rfl, hb, g, hm, hx, hl, hat, hxl, hle⟩ := h.open hf
    have HD := hide (qdead_no h1)
    have HBy := hide hb
    have HG := hide g
    have HN := hide (qnumber_any h1 _ x hm hx hat hb s.left hle)
    have hlb : ∀ y ∈ s.left, y < 256 := by
      intro y hy
      rw [hle] at hy
      exact hb y (List.mem_of_mem_take (List.mem_of_mem_drop hy))
    cases hrd : readNum 0 0 s.left with
    | inl cd =>
      have hr : rNum s = (rF cd, 0) := by unfold rNum; rw [if_neg (by omega), hrd]
      have HC : Hid (cd ≠ 0) := by rcases readNum_code _ _ _ hrd with rfl | rfl <;> simp [Hid]
      have HRD := hide hrd
      have HU := fun W => hide (qunfold_any 0 W (by omega))
      rw [hr]
      clear h h1 g hm hx hl hat hxl hle hb
      clear hr hrd hf hlb
      go_enter Try.func61, Try.ntmps61
      go_wp2_with (first | (go_at_call 105; refine (unhide HD).mono ?_; rintro e w1 ⟨rfl, rfl⟩) | (go_at_call 110; refine (unhide HN).mono ?_; rintro e w1 ⟨-, hq, hk⟩; obtain ⟨rfl, at2, hq⟩ := hq cd (unhide HRD); have HQ := hide hq; have HK := hide hk; obtain ⟨d0, d1, d2, d3⟩ := blk4 hq.blk; clear hq hk HN) | (go_at_call 111; refine (unhide (HU _)).mono ?_; rintro e w2 ⟨rfl, rfl⟩))
      go_ret
      exact ⟨rfl, QsP.err (unhide HC) (unhide HQ) (unhide HBy) (unhide HK)⟩
    | inr p =>
      obtain ⟨n, r⟩ := p
      have hr : rNum s = (⟨0, r, s.behind⟩, n) := by unfold rNum; rw [if_neg (by omega), hrd]
      have hn := (readNum_lt _ 0 0 (by omega) (by simp) hlb hrd)
      have HU := fun W => hide (qunfold_any n W (by omega))
      have HRD := hide hrd
      rw [hr]
      clear h h1 g hm hx hl hat hxl hle hb
      clear hr hrd hf hlb hn
      go_enter Try.func61, Try.ntmps61
      go_wp2_with (first | (go_at_call 105; refine (unhide HD).mono ?_; rintro e w1 ⟨rfl, rfl⟩) | (go_at_call 110; refine (unhide HN).mono ?_; rintro e w1 ⟨hq, -, hk⟩; obtain ⟨rfl, k, hkl, hrk, hq⟩ := hq n r (unhide HRD); have HQ := hide hq; have HK := hide hk; have HKL := hide hkl; have HRK := hide hrk; obtain ⟨d0, d1, d2, d3⟩ := blk4 hq.blk; have f3 := hq.blk.frozen 3; clear hq hk HN hkl hrk) | (go_at_call 111; refine (unhide (HU _)).mono ?_; rintro e w2 ⟨rfl, rfl⟩))
      go_ret
      refine ⟨rfl, QsP.ok (unhide HQ) (unhide HBy) ?_ (unhide HK)⟩
      rw [unhide HRK]
      exact (unhide HG).go _ (unhide HKL)
  · have HD := hide (h.dead hf)
    have HH := hide h
    have hr : rNum s = (s, 0) := by unfold rNum; rw [if_pos hf]
    rw [hr]
    clear hr h hf
    go_enter Try.func61, Try.ntmps61
    go_wp2_with (first | (go_at_call 105; refine (unhide HD).mono ?_; rintro e w1 ⟨rfl, rfl⟩))
    go_ret
    exact ⟨ret_int (show (0 : Int) = unfoldN 0 by decide), QsP.same (unhide HH) (Kept.refl _ _)⟩
end Go.Proofs.Ytiabhgkndejigaa

namespace Go.Proofs.Ytiabhgkndejigaa
open Go.RowKit

set_option maxRecDepth 100000 in
set_option maxHeartbeats 1000000 in
theorem qraw_s {w : World} {c : Nat} {F : List Nat} {s : RS} (h : Qs w c F s) (n : Int) :
    Calls Try.prog 63 #[.pointer (some ⟨c, 0, none⟩), .int .i64 n] w fun e w' => NewB w (rRaw s n).2 e w' ∧ QsP w c F (rRaw s n).1 w' := by
  by_cases hf : s.fault = 0
  · obtain ⟨pv, ev, ps, at', es, x, h1, rfl, hb, g, hm, hx, hl, hat, hxl, hle⟩ := h.open hf
    have HD := hide (qdead_no h1)
    have HBy := hide hb
    by_cases ha : n < 0
    · have hr : rRaw s n = (rF 2, []) := by unfold rRaw; rw [if_neg (by omega), if_pos ha]
      rw [hr]
      have HQ := hide h1
      have f3 := h1.blk.frozen 3
      have c3 := (blk4 h1.blk).2.2.2
      have t1 : (n < 0) = True := by simpa using ha
      clear h h1 g hm hx hl hat hxl hle hb
      clear hr hf ha
      go_enter Try.func63, Try.ntmps63
      go_wp2_with (first | (go_at_call 105; refine (unhide HD).mono ?_; rintro e w1 ⟨rfl, rfl⟩))
      go_ret
      obtain ⟨q1, q2⟩ := (unhide HQ).fail 2
      exact ⟨NewB.nil _ _, QsP.err (by omega) q1 (unhide HBy) q2⟩
    · have t1 : (n < 0) = False := by simpa using ha
      by_cases hsh : (s.left.length : Int) < n
      · have hr : rRaw s n = (rF 10, []) := by unfold rRaw; rw [if_neg (by omega), if_neg ha, if_pos hsh]
        have HB := hide (qbytes_short h1 _ x hm hx n (by omega))
        rw [hr]
        clear h h1 g hm hx hl hat hxl hle hb
        clear hr hf ha hsh
        go_enter Try.func63, Try.ntmps63
        go_wp2_with (first | (go_at_call 105; refine (unhide HD).mono ?_; rintro e w1 ⟨rfl, rfl⟩) | (go_at_call 106; refine (unhide HB).mono ?_; rintro e w1 ⟨rfl, hq, hk⟩; have HQ := hide hq; have HK := hide hk; obtain ⟨d0, d1, d2, d3⟩ := blk4 hq.blk; have f3 := hq.blk.frozen 3; clear hq hk HB))
        go_ret
        exact ⟨NewB.nil _ _, QsP.err (by omega) (unhide HQ) (unhide HBy) (unhide HK)⟩
      · obtain ⟨m, rfl⟩ := Int.eq_ofNat_of_zero_le (show 0 ≤ n by omega)
        have hr : rRaw s (m : Int) = (⟨0, s.left.drop m, s.behind⟩, s.left.take m) := by unfold rRaw; rw [if_neg (by omega), if_neg ha, if_neg hsh]; rfl
        have HB := hide (qbytes_ok h1 _ x hm hx m (by omega))
        have HT := hide (g.take m (by omega))
        have HG1 := hide (g.go m (by omega))
        have HTL : Hid ((s.left.take m).length = m) := by unfold Hid; simp; omega
        have t2 : ((m : Int) < 0) = False := by simp
        rw [hr]
        clear h h1 g hm hx hl hat hxl hle hb
        clear hr hf ha hsh t1
        go_enter Try.func63, Try.ntmps63
        go_wp2_with (first | (go_at_call 105; refine (unhide HD).mono ?_; rintro e w1 ⟨rfl, rfl⟩) | (go_at_call 106; refine (unhide HB).mono ?_; rintro e w1 ⟨a1, cap1, rfl, ho, hq, hk⟩; rw [unhide HT] at ho; have HO := hide ho; have HQ := hide hq; have HK := hide hk; clear ho hq hk HB))
        go_ret
        refine ⟨⟨a1, cap1, ?_, ?_⟩, QsP.ok (unhide HQ) (unhide HBy) (unhide HG1) (unhide HK)⟩
        · show Ending.returned (.slice a1 m cap1) = .returned (.slice a1 (s.left.take m).length cap1)
          rw [unhide HTL]
        · show w1.ownsRow w.heap.size 5 1 (.slice a1 (s.left.take m).length cap1) (s.left.take m).length (u8s (s.left.take m))
          rw [unhide HTL]
          exact unhide HO
  · have HD := hide (h.dead hf)
    have HH := hide h
    have hr : rRaw s n = (s, []) := by unfold rRaw; rw [if_pos hf]
    rw [hr]
    clear hr h hf
    go_enter Try.func63, Try.ntmps63
    go_wp2_with (first | (go_at_call 105; refine (unhide HD).mono ?_; rintro e w1 ⟨rfl, rfl⟩))
    go_ret
    exact ⟨NewB.nil _ _, QsP.same (unhide HH) (Kept.refl _ _)⟩

set_option maxRecDepth 100000 in
set_option maxHeartbeats 1000000 in
theorem qtext_s {w : World} {c : Nat} {F : List Nat} {s : RS} (h : Qs w c F s) (most : Int) (hm9 : most ≤ 9223372036854775807) :
    Calls Try.prog 65 #[.pointer (some ⟨c, 0, none⟩), .int .i64 most] w fun e w' => NewB w (rText s most).2 e w' ∧ QsP w c F (rText s most).1 w' := by
  by_cases hf : s.fault = 0
  · obtain ⟨pv, ev, ps, at', es, x, h1, rfl, hb, g, hm, hx, hl, hat, hxl, hle⟩ := h.open hf
    have HD := hide (qdead_no h1)
    have HBy := hide hb
    have HG := hide g
    have HN := hide (qnumber_any h1 _ x hm hx hat hb s.left hle)
    have hlb : ∀ y ∈ s.left, y < 256 := by
      intro y hy
      rw [hle] at hy
      exact hb y (List.mem_of_mem_take (List.mem_of_mem_drop hy))
    have hmn : most.toNat < 9223372036854775808 := by omega
    obtain ⟨M, hM⟩ : ∃ M : Nat, most.toNat = M := ⟨_, rfl⟩
    have hw0 : (if most < 0 then (0 : Int) else most) = (M : Int) := by rw [← hM]; split <;> omega
    cases hrd : readNum 0 0 s.left with
    | inl cd =>
      have hr : rText s most = (rF cd, []) := by unfold rText; rw [if_neg (by omega), hrd]
      have HC : Hid (cd ≠ 0) := by rcases readNum_code _ _ _ hrd with rfl | rfl <;> simp [Hid]
      have hcd : ((cd : Int) != 0) = true := by have := unhide HC; rw [bne_iff_ne]; omega
      have HRD := hide hrd
      rw [hr]
      clear h h1 g hm hx hl hat hxl hle hb
      clear hr hrd hf hlb hM hw0
      by_cases hs0 : most < 0
      · have t1 : (most < 0) = True := by simpa using hs0
        clear hs0
        go_enter Try.func65, Try.ntmps65
        go_wp2_with (first | (go_at_call 105; refine (unhide HD).mono ?_; rintro e w1 ⟨rfl, rfl⟩) | (go_at_call 110; refine (unhide HN).mono ?_; rintro e w1 ⟨-, hq, hk⟩; obtain ⟨rfl, at2, hq⟩ := hq _ (unhide HRD); have HQ := hide hq; have HK := hide hk; obtain ⟨d0, d1, d2, d3⟩ := blk4 hq.blk; clear hq hk HN))
        go_ret
        exact ⟨NewB.nil _ _, QsP.err (unhide HC) (unhide HQ) (unhide HBy) (unhide HK)⟩
      · have t1 : (most < 0) = False := by simpa using hs0
        clear hs0
        go_enter Try.func65, Try.ntmps65
        go_wp2_with (first | (go_at_call 105; refine (unhide HD).mono ?_; rintro e w1 ⟨rfl, rfl⟩) | (go_at_call 110; refine (unhide HN).mono ?_; rintro e w1 ⟨-, hq, hk⟩; obtain ⟨rfl, at2, hq⟩ := hq _ (unhide HRD); have HQ := hide hq; have HK := hide hk; obtain ⟨d0, d1, d2, d3⟩ := blk4 hq.blk; clear hq hk HN))
        go_ret
        exact ⟨NewB.nil _ _, QsP.err (unhide HC) (unhide HQ) (unhide HBy) (unhide HK)⟩
    | inr p =>
      obtain ⟨n, r⟩ := p
      have hn := (readNum_lt _ 0 0 (by omega) (by simp) hlb hrd)
      have hn64 : n < 18446744073709551616 := by omega
      have HRD := hide hrd
      by_cases hbig : M < n
      · have hr : rText s most = (rF 11, []) := by unfold rText; rw [if_neg (by omega), hrd]; simp only; rw [hM, if_pos hbig]
        rw [hr]
        clear h h1 g hm hx hl hat hxl hle hb
        clear hr hrd hf hlb hn
        by_cases hs0 : most < 0
        · have t1 : (most < 0) = True := by simpa using hs0
          obtain rfl : M = 0 := by omega
          have t2 : ((0 : Int) < (n : Int)) = True := by simp; omega
          clear hs0 hM hw0
          go_enter Try.func65, Try.ntmps65
          go_wp2_with (first | (go_at_call 105; refine (unhide HD).mono ?_; rintro e w1 ⟨rfl, rfl⟩) | (go_at_call 110; refine (unhide HN).mono ?_; rintro e w1 ⟨hq, -, hk⟩; obtain ⟨rfl, k, hkl, hrk, hq⟩ := hq _ _ (unhide HRD); have HQ := hide hq; have HK := hide hk; have HKL := hide hkl; have HRK := hide hrk; obtain ⟨d0, d1, d2, d3⟩ := blk4 hq.blk; have f3 := hq.blk.frozen 3; clear hq hk HN hkl hrk))
          go_ret
          obtain ⟨q1, q2⟩ := (unhide HQ).fail 11
          exact ⟨NewB.nil _ _, QsP.err (by omega) q1 (unhide HBy) ((unhide HK).trans q2 (fun y hy => Or.inl hy))⟩
        · have t1 : (most < 0) = False := by simpa using hs0
          obtain ⟨mm, rfl⟩ := Int.eq_ofNat_of_zero_le (show 0 ≤ most by omega)
          obtain rfl : mm = M := by omega
          have t2 : ((mm : Int) < (n : Int)) = True := by simp; omega
          have t3 : ((mm : Int) < 0) = False := by simp
          have hw5 : IntKind.u64.wrap (mm : Int) = (mm : Int) := by rw [IntKind.wrap_u64]; omega
          clear hs0 hM hw0 t1
          go_enter Try.func65, Try.ntmps65
          go_wp2_with (first | (go_at_call 105; refine (unhide HD).mono ?_; rintro e w1 ⟨rfl, rfl⟩) | (go_at_call 110; refine (unhide HN).mono ?_; rintro e w1 ⟨hq, -, hk⟩; obtain ⟨rfl, k, hkl, hrk, hq⟩ := hq _ _ (unhide HRD); have HQ := hide hq; have HK := hide hk; have HKL := hide hkl; have HRK := hide hrk; obtain ⟨d0, d1, d2, d3⟩ := blk4 hq.blk; have f3 := hq.blk.frozen 3; clear hq hk HN hkl hrk))
          go_ret
          obtain ⟨q1, q2⟩ := (unhide HQ).fail 11
          exact ⟨NewB.nil _ _, QsP.err (by omega) q1 (unhide HBy) ((unhide HK).trans q2 (fun y hy => Or.inl hy))⟩
      · have hwn : IntKind.i64.wrap (n : Int) = (n : Int) := by rw [IntKind.wrap_i64]; omega
        have HPS := hide hxl
        have HAT := hide hat
        have HM := hide hm
        have HX := hide hx
        by_cases hsh : r.length < n
        · have hr : rText s most = (rF 10, []) := by unfold rText; rw [if_neg (by omega), hrd]; simp only; rw [hM, if_neg hbig, if_pos hsh]
          rw [hr]
          have HLL := hide hl
          have HSH := hide hsh
          clear h h1 g hm hx hl hat hxl hle hb
          clear hr hrd hf hlb hn
          by_cases hs0 : most < 0
          · exfalso; omega
          · obtain ⟨mm, rfl⟩ := Int.eq_ofNat_of_zero_le (show 0 ≤ most by omega)
            obtain rfl : mm = M := by omega
            have t2 : ((mm : Int) < (n : Int)) = False := by simp; omega
            have t3 : ((mm : Int) < 0) = False := by simp
            have hw5 : IntKind.u64.wrap (mm : Int) = (mm : Int) := by rw [IntKind.wrap_u64]; omega
            clear hs0 hM hw0
            go_enter Try.func65, Try.ntmps65
            go_wp2_with (first | (go_at_call 105; refine (unhide HD).mono ?_; rintro e w1 ⟨rfl, rfl⟩) | (go_at_call 110; refine (unhide HN).mono ?_; rintro e w1 ⟨hq, -, hk⟩; obtain ⟨rfl, k, hkl, hrk, hq⟩ := hq _ _ (unhide HRD); have HQ := hide hq; have HK := hide hk; have HKL := hide hkl; have HRK := hide hrk; obtain ⟨d0, d1, d2, d3⟩ := blk4 hq.blk; have f3 := hq.blk.frozen 3; clear hq hk HN hkl hrk) | (go_at_call 106; refine (qbytes_short (unhide HQ) _ x (unhide HM) (unhide HX) (n : Int) (by have h1 := unhide HLL; have h2 := unhide HSH; have h3 := unhide HKL; have h4 := congrArg List.length (unhide HRK); simp only [List.length_drop] at h4; omega)).mono ?_; rintro e w3 ⟨rfl, hq, hk⟩; have HQ3 := hide hq; have HK3 := hide hk; clear hq hk))
            go_ret
            exact ⟨NewB.nil _ _, QsP.err (by omega) (unhide HQ3) (unhide HBy) ((unhide HK).trans (unhide HK3) (fun y hy => Or.inl hy))⟩
        · have hr : rText s most = (⟨0, r.drop n, s.behind⟩, r.take n) := by unfold rText; rw [if_neg (by omega), hrd]; simp only; rw [hM, if_neg hbig, if_neg hsh]
          rw [hr]
          have HLL := hide hl
          have HSH := hide hsh
          have HTL : Hid ((r.take n).length = n) := by unfold Hid; simp; omega
          clear h h1 g hm hx hl hat hxl hle hb
          clear hr hrd hf hlb hn
          by_cases hs0 : most < 0
          · have t1 : (most < 0) = True := by simpa using hs0
            obtain rfl : M = 0 := by omega
            obtain rfl : n = 0 := by omega
            clear hs0 hM hw0
            go_enter Try.func65, Try.ntmps65
            go_wp2_with (first | (go_at_call 105; refine (unhide HD).mono ?_; rintro e w1 ⟨rfl, rfl⟩) | (go_at_call 110; refine (unhide HN).mono ?_; rintro e w1 ⟨hq, -, hk⟩; obtain ⟨rfl, k, hkl, hrk, hq⟩ := hq _ _ (unhide HRD); have HQ := hide hq; have HK := hide hk; have HKL := hide hkl; have HRK := hide hrk; obtain ⟨d0, d1, d2, d3⟩ := blk4 hq.blk; have f3 := hq.blk.frozen 3; clear hq hk HN hkl hrk) | (go_at_call 106; refine (qbytes_ok (unhide HQ) _ x (unhide HM) (unhide HX) 0 (by have h1 := unhide HLL; have h2 := unhide HKL; have h5 := unhide HAT; omega)).mono ?_; rintro e w3 ⟨a3, cap3, rfl, ho, hq, hk⟩; have HO3 := hide ho; have HQ3 := hide hq; have HK3 := hide hk; clear ho hq hk))
            go_ret
            refine ⟨⟨a3, cap3, rfl, own_base (unhide HO3) (fun q hq => by have := ((unhide HO3).lt q hq).1; have := (unhide HK).size; omega)⟩, QsP.ok (unhide HQ3) (unhide HBy) ?_ ((unhide HK).trans (unhide HK3) (fun y hy => Or.inl hy))⟩
            rw [List.drop_zero, unhide HRK]
            exact (unhide HG).go _ (unhide HKL)
          · obtain ⟨mm, rfl⟩ := Int.eq_ofNat_of_zero_le (show 0 ≤ most by omega)
            obtain rfl : mm = M := by omega
            have t2 : ((mm : Int) < (n : Int)) = False := by simp; omega
            have t3 : ((mm : Int) < 0) = False := by simp
            have hw5 : IntKind.u64.wrap (mm : Int) = (mm : Int) := by rw [IntKind.wrap_u64]; omega
            clear hs0 hM hw0
            go_enter Try.func65, Try.ntmps65
            go_wp2_with (first | (go_at_call 105; refine (unhide HD).mono ?_; rintro e w1 ⟨rfl, rfl⟩) | (go_at_call 110; refine (unhide HN).mono ?_; rintro e w1 ⟨hq, -, hk⟩; obtain ⟨rfl, k, hkl, hrk, hq⟩ := hq _ _ (unhide HRD); have HQ := hide hq; have HK := hide hk; have HKL := hide hkl; have HRK := hide hrk; obtain ⟨d0, d1, d2, d3⟩ := blk4 hq.blk; have f3 := hq.blk.frozen 3; clear hq hk HN hkl hrk) | (go_at_call 106; refine (qbytes_ok (unhide HQ) _ x (unhide HM) (unhide HX) n (by have h5 := unhide HAT; have h1 := unhide HLL; have h2 := unhide HSH; have h3 := unhide HKL; have h4 := congrArg List.length (unhide HRK); simp only [List.length_drop] at h4; omega)).mono ?_; rintro e w3 ⟨a3, cap3, rfl, ho, hq, hk⟩; have HO3 := hide ho; have HQ3 := hide hq; have HK3 := hide hk; clear ho hq hk))
            go_ret
            have gk := (unhide HG).go _ (unhide HKL)
            rw [← unhide HRK] at gk
            have hnl : n ≤ r.length := by have := unhide HSH; omega
            refine ⟨⟨a3, cap3, ?_, ?_⟩, QsP.ok (unhide HQ3) (unhide HBy) (gk.go n hnl) ((unhide HK).trans (unhide HK3) (fun y hy => Or.inl hy))⟩
            · show Ending.returned (.slice a3 n cap3) = .returned (.slice a3 (r.take n).length cap3)
              rw [unhide HTL]
            · show w3.ownsRow w.heap.size 5 1 (.slice a3 (r.take n).length cap3) (r.take n).length (u8s (r.take n))
              rw [unhide HTL]
              have ho := unhide HO3
              rw [gk.take n hnl] at ho
              exact own_base ho (fun q hq => by have := (ho.lt q hq).1; have := (unhide HK).size; omega)
  · have HD := hide (h.dead hf)
    have HH := hide h
    have hr : rText s most = (s, []) := by unfold rText; rw [if_pos hf]
    rw [hr]
    clear hr h hf
    go_enter Try.func65, Try.ntmps65
    go_wp2_with (first | (go_at_call 105; refine (unhide HD).mono ?_; rintro e w1 ⟨rfl, rfl⟩))
    go_ret
    exact ⟨NewB.nil _ _, QsP.same (unhide HH) (Kept.refl _ _)⟩

set_option maxRecDepth 100000 in
set_option maxHeartbeats 1000000 in
theorem qrest_s {w : World} {c : Nat} {F : List Nat} {s : RS} (h : Qs w c F s) :
    Calls Try.prog 71 #[.pointer (some ⟨c, 0, none⟩)] w fun e w' => e = .returned (.int .i64 (rRest s : Nat)) ∧ Kept [] w w' := by
  by_cases hf : s.fault = 0
  · obtain ⟨pv, ev, ps, at', es, x, h1, rfl, hb, g, hm, hx, hl, hat, hxl, hle⟩ := h.open hf
    have HD := hide (qdead_no h1)
    have HL := hide (qleft_any h1 _ x hm hx)
    have hr : rRest s = x - at' := by unfold rRest; rw [if_neg (by omega), hl]
    rw [hr]
    have HX : Hid (((x - at' : Nat) : Int) = (x : Int) - (at' : Int)) := by unfold Hid; omega
    clear h h1 g hm hx hl hat hxl hle hb
    clear hr hf
    go_enter Try.func71, Try.ntmps71
    go_wp2_with (first | (go_at_call 105; refine (unhide HD).mono ?_; rintro e w1 ⟨rfl, rfl⟩) | (go_at_call 114; refine (unhide HL).mono ?_; rintro e w1 ⟨rfl, hq⟩; have HK := hide hq.kept; clear hq HL))
    go_ret
    exact ⟨by rw [unhide HX]; rfl, unhide HK⟩
  · have HD := hide (h.dead hf)
    have HH := hide h
    have hr : rRest s = 0 := by unfold rRest; rw [if_pos hf]
    rw [hr]
    clear hr h hf
    go_enter Try.func71, Try.ntmps71
    go_wp2_with (first | (go_at_call 105; refine (unhide HD).mono ?_; rintro e w1 ⟨rfl, rfl⟩))
    go_ret
    exact ⟨rfl, Kept.refl _ _⟩

set_option maxRecDepth 100000 in
set_option maxHeartbeats 1000000 in
theorem qdone_s {w : World} {c : Nat} {F : List Nat} {s : RS} (h : Qs w c F s) :
    Calls Try.prog 72 #[.pointer (some ⟨c, 0, none⟩)] w fun e w' => e = .returned (.int .i64 (rDone s : Nat)) ∧ Kept [] w w' := by
  by_cases hf : s.fault = 0
  · obtain ⟨pv, ev, ps, at', es, x, h1, rfl, hb, g, hm, hx, hl, hat, hxl, hle⟩ := h.open hf
    have HL := hide (qleft_any h1 _ x hm hx)
    have HH1 := hide h1
    obtain ⟨c0, c1, c2, c3⟩ := blk4 h1.blk
    obtain ⟨g', ecap, hev, -⟩ := h1.end hx
    rw [hev, hm] at c2
    have HEV := hide hev
    have h17 := h1.b17
    by_cases hz : s.left = []
    · have hz0 : x = at' := by rw [hz] at hl; simp at hl; omega
      by_cases hz2 : s.behind = []
      · have hr : rDone s = 0 := by unfold rDone; rw [if_neg (by omega), if_pos ⟨hz, hz2⟩]
        rw [hr]
        have HN : Hid (es.length = 1) := by unfold Hid; rw [hm, hz2]; rfl
        have t1 : ((0 : Int) < (x : Int) - (at' : Int)) = False := by simp; omega
        have t1' : decide (at' < x) = false := by simp; omega
        clear h h1 g hm hx hl hat hxl hle hb hr hf hz hz2 hz0 hev h17
        go_enter Try.func72, Try.ntmps72
        go_wp2_with (first | (go_at_call 114; refine (unhide HL).mono ?_; rintro e w1 ⟨rfl, hq⟩; have HQ := hide ((unhide HH1).quiet hq); have HK := hide hq.kept; obtain ⟨d0, d1, d2, d3⟩ := blk4 (unhide HQ).blk; rw [unhide HEV, unhide HN] at d2; clear hq HL))
        all_goals (go_ret; exact ⟨rfl, unhide HK⟩)
      · have hp := List.length_pos_iff.2 hz2
        have hr : rDone s = 12 := by unfold rDone; rw [if_neg (by omega), if_neg (fun hh => hz2 hh.2)]
        rw [hr]
        obtain ⟨N, hN⟩ : ∃ N, s.behind.length + 1 = N := ⟨_, rfl⟩
        rw [hN] at c2
        have t1 : ((0 : Int) < (x : Int) - (at' : Int)) = False := by simp; omega
        have t1' : decide (at' < x) = false := by simp; omega
        have t2 : ((1 : Int) < (N : Int)) = True := by simp; omega
        have t2' : decide (1 < N) = true := by simp; omega
        have HN : Hid (es.length = N) := by unfold Hid; omega
        clear h h1 g hm hx hl hat hxl hle hb hr hf hz hz2 hz0 hp hN hev
        go_enter Try.func72, Try.ntmps72
        go_wp2_with (first | (go_at_call 114; refine (unhide HL).mono ?_; rintro e w1 ⟨rfl, hq⟩; have HQ := hide ((unhide HH1).quiet hq); have HK := hide hq.kept; obtain ⟨d0, d1, d2, d3⟩ := blk4 (unhide HQ).blk; rw [unhide HEV, unhide HN] at d2; clear hq HL))
        all_goals (go_ret; exact ⟨rfl, unhide HK⟩)
    · have hp := List.length_pos_iff.2 hz
      have hr : rDone s = 12 := by unfold rDone; rw [if_neg (by omega), if_neg (fun hh => hz hh.1)]
      rw [hr]
      have t1 : ((0 : Int) < (x : Int) - (at' : Int)) = True := by simp; omega
      have t1' : decide (at' < x) = true := by simp; omega
      clear h h1 g hm hx hl hat hxl hle hb hr hf hz hp hev h17
      go_enter Try.func72, Try.ntmps72
      go_wp2_with (first | (go_at_call 114; refine (unhide HL).mono ?_; rintro e w1 ⟨rfl, hq⟩; have HQ := hide ((unhide HH1).quiet hq); have HK := hide hq.kept; obtain ⟨d0, d1, d2, d3⟩ := blk4 (unhide HQ).blk; have f3 := (unhide HQ).blk.frozen 3; clear hq HL))
      all_goals (go_ret; exact ⟨rfl, unhide HK⟩)
  · obtain ⟨pv, ev, ps, at', es, h1, _⟩ := h
    have hr : rDone s = s.fault := by unfold rDone; rw [if_pos hf]
    rw [hr]
    obtain ⟨c0, c1, c2, c3⟩ := blk4 h1.blk
    have t1 : ((s.fault : Int) != 0) = true := by rw [bne_iff_ne]; omega
    generalize s.fault = fa at *
    clear hr hf h1
    go_enter Try.func72, Try.ntmps72
    go_wp2
    go_ret
    exact ⟨rfl, Kept.refl _ _⟩
end Go.Proofs.Ytiabhgkndejigaa

namespace Go.Proofs.Ytiabhgkndejigaa
open Go.RowKit

theorem infoI : (Try.prog.info? 3).map (fun i => (i.zero, i.size, i.bytes)) = some (some (.int .i64 0), 1, 8) := by kernel_rfl
/-- one more number behind numbers of its own -/
theorem app_int {w : World} {a : Option Addr} {k cap : Nat} {xs : List Nat} (h : w.ownsRow 0 3 1 (.slice a k cap) k (i64s xs)) (hk : xs.length = k) (x : Nat) (hl : k ≤ 1000000) (ty : TypeId) :
    ∃ a' cap' w', (Builtin.append_ #[22, 22] ty #[.slice a k cap, .slice (some ⟨w.heap.size, 0, none⟩) 1 1]).run Try.prog (w.alloc (.cells #[.int .i64 (x : Int)] 3)).drew = .ok (.slice a' (k + 1) cap') w' ∧ w'.ownsRow 0 3 1 (.slice a' (k + 1) cap') (k + 1) (i64s (xs ++ [x])) ∧ Kept (Value.slice a k cap).ownBlock.toList w w' ∧ ((Value.slice a' (k + 1) cap').ownBlock = (Value.slice a k cap).ownBlock ∨ ∀ q, (Value.slice a' (k + 1) cap').ownBlock = some q → w.heap.size ≤ q) := by
  obtain ⟨i0, hi, hz0, hz1, hz2⟩ := info_parts infoI
  have k1 : Kept [] w (w.alloc (.cells #[.int .i64 (x : Int)] 3)).drew := ((Kept.refl [] w).alloc _).drew
  obtain ⟨v', w', h1, h2, h3, _, h5⟩ := run_append_own_at (P := Try.prog) (w.alloc (.cells #[.int .i64 (x : Int)] 3)).drew 0 22 ty 3 i0 (.int .i64 0) 1 8 Try.underlying22 hi hz0 hz1 hz2 rfl (by decide) (.slice a k cap) k (i64s xs) (own_kept h k1 (by simp)) ⟨w.heap.size, 0, none⟩ 1 1 [.int .i64 (x : Int)] rfl (news_i64 w x) (by intro u hu; simp at hu; subst hu; rfl) (by unfold maxLen; omega) (by omega) (by simp)
  obtain ⟨a', cap', rfl⟩ := own_len h2
  have hl1 : i64s (xs ++ [x]) = i64s xs ++ [.int .i64 (x : Int)] := by simp [i64s]
  refine ⟨a', cap', w', h1, by rw [hl1]; exact h2, (k1.mono (by simp)).grown h3 (fun q hq => Or.inl (by simp [hq])), ?_⟩
  rcases h5 with h5 | h5
  · exact Or.inl h5
  · right; intro q hq; rw [h5] at hq; simp at hq; omega

/-- The ends are written anew. -/
theorem Qm.ends {w w1 : World} {c : Nat} {pv ev ev' : Value} {ps : List Nat} {at' : Nat} {es : List Nat} {fa : Nat} (h : Qm w c pv ev ps at' es fa) (ts : List Nat)
    (hown : w1.ownsRow 0 3 1 ev' ts.length (i64s ts)) (hk : Kept ev.ownBlock.toList w w1) (hat : ev'.ownBlock = ev.ownBlock ∨ ∀ x, ev'.ownBlock = some x → w.heap.size ≤ x)
    (hl : ts.length ≤ 17) (ht : ∀ x ∈ ts, x ≤ ps.length) :
    Qm (w1.setCell ⟨c, 2, none⟩ ev') c pv ev' ps at' ts fa ∧ Kept (qfoot c pv ev) w (w1.setCell ⟨c, 2, none⟩ ev') ∧ ∀ x, x ∈ qfoot c pv ev' → x ∈ qfoot c pv ev ∨ w.heap.size ≤ x := by
  have hb := h.blk.lt
  have k2 : Kept (qfoot c pv ev) w (w1.setCell ⟨c, 2, none⟩ ev') := (hk.mono (fun x hx => Or.inl (by simp [qfoot]; simp at hx; simp [hx]))).setCell (Or.inl (by simp [qfoot])) ev'
  have n2' : ev'.ownBlock ≠ some c := by
    rcases hat with e | e
    · rw [e]; exact h.n2
    · intro hx; have := e c hx; omega
  have n3' : ∀ k, pv.ownBlock = some k → ev'.ownBlock ≠ some k := by
    intro k hk' hs
    rcases hat with e | e
    · exact h.n3 k hk' (by rw [← e]; exact hs)
    · have := e k hs; have := h.see.lt hk'; omega
  refine ⟨⟨?_, ?_, ?_, h.n1, n2', n3', h.bl, hl, h.bat, ht⟩, k2, ?_⟩
  · have b1 := h.blk.kept hk (by simp; exact h.n2)
    simpa using b1.set 2 ev'
  · have o1 := h.see.kept hk (fun k hk' => by simp; exact h.n3 k hk')
    exact o1.kept ((Kept.refl [c] _).setCell (Or.inl (by simp)) ev') (fun k hk' => by simp; intro e; exact h.n1 (by rw [hk', e]))
  · exact own_kept hown ((Kept.refl [c] _).setCell (Or.inl (by simp)) ev') (fun k hk' => by simp; intro e; exact n2' (by rw [hk', e]))
  · intro x hx
    simp [qfoot] at hx ⊢
    rcases hx with hx | hx | hx
    · exact Or.inl (Or.inl hx)
    · exact Or.inl (Or.inr (Or.inl hx))
    · rcases hat with e | e
      · exact Or.inl (Or.inr (Or.inr (by rw [← e]; exact hx)))
      · exact Or.inr (e x hx)

theorem of8_64 (l : List Nat) (h : ∀ x ∈ l, x < 256) (hl : l.length = 8) : of8 l < 18446744073709551616 := by
  rw [← leV_of8]
  have := leV_lt l.reverse (fun x hx => h x (by simpa using hx))
  rw [List.length_reverse, hl] at this
  exact this

set_option maxRecDepth 100000 in
set_option maxHeartbeats 1000000 in
theorem qreal_s {w : World} {c : Nat} {F : List Nat} {s : RS} (h : Qs w c F s) :
    Calls Try.prog 62 #[.pointer (some ⟨c, 0, none⟩)] w fun e w' => e = .returned (.int .u64 ((rReal s).2 : Nat)) ∧ QsP w c F (rReal s).1 w' := by
  by_cases hf : s.fault = 0
  · obtain ⟨pv, ev, ps, at', es, x, h1, rfl, hb, g, hm, hx, hl, hat, hxl, hle⟩ := h.open hf
    have HD := hide (qdead_no h1)
    have HBy := hide hb
    by_cases hsh : s.left.length < 8
    · have hr : rReal s = (rF 10, 0) := by unfold rReal; rw [if_neg (by omega), if_pos hsh]
      have HB := hide (qbytes_short h1 _ x hm hx 8 (by omega))
      have HV := fun W => hide (qvalue_any (w := W) (v := .slice none 0 0) (l := []) (Or.inl ⟨rfl, rfl⟩) (by simp) (by simp))
      have HU := fun W => hide (qturned_any (w := W) (v := .slice none 0 0) (l := []) (Or.inl ⟨rfl, rfl⟩) (by simp))
      rw [hr]
      clear h h1 g hm hx hl hat hxl hle hb
      clear hr hf hsh
      go_enter Try.func62, Try.ntmps62
      go_wp2_with (first | (go_at_call 105; refine (unhide HD).mono ?_; rintro e w1 ⟨rfl, rfl⟩) | (go_at_call 106; refine (unhide HB).mono ?_; rintro e w1 ⟨rfl, hq, hk⟩; have HQ := hide hq; have HK := hide hk; obtain ⟨d0, d1, d2, d3⟩ := blk4 hq.blk; have f3 := hq.blk.frozen 3; clear hq hk HB) | (go_at_call 100; refine (unhide (HU _)).mono ?_; rintro e w2 ⟨a2, cap2, rfl, ho, hk2⟩; have hs2 := sees_own (l := []) rfl ho; have HS2 := hide hs2; have HQ2 := hide ((unhide HQ).kept hk2 (by simp)); have HK2 := hide hk2; obtain ⟨d0, d1, d2, d3⟩ := blk4 (unhide HQ2).blk; clear ho hk2 hs2) | (go_at_call 107; refine (qvalue_any (unhide HS2) (by simp) (by simp)).mono ?_; rintro e w3 ⟨rfl, rfl⟩))
      go_ret
      exact ⟨rfl, QsP.err (by omega) (unhide HQ2) (unhide HBy) ((unhide HK).trans (unhide HK2) (by simp))⟩
    · have HB := hide (qbytes_ok h1 _ x hm hx 8 (by omega))
      have HT := hide (g.take 8 (by omega))
      have HG1 := hide (g.go 8 (by omega))
      have htl : (s.left.take 8).length = 8 := by simp; omega
      have htb : ∀ x ∈ s.left.take 8, x < 256 := by
        intro y hy
        have := List.mem_of_mem_take hy
        rw [hle] at this
        exact hb y (List.mem_of_mem_take (List.mem_of_mem_drop this))
      have HTL := hide htl
      have HTR : Hid ((s.left.take 8).reverse.length = 8) := by unfold Hid; rw [List.length_reverse]; exact htl
      have HTB : Hid (∀ x ∈ (s.left.take 8).reverse, x < 256) := fun y hy => htb y (by simpa using hy)
      have HLV := hide (leV_of8 (s.left.take 8))
      have hB64 := of8_64 _ htb htl
      have HCL := fun W => hide (qclean_any (of8 (s.left.take 8)) hB64 W)
      by_cases ho : nanB (of8 (s.left.take 8)) = true ∧ of8 (s.left.take 8) ≠ oneNaN
      · have hr : rReal s = (rF 11, 0) := by unfold rReal; rw [if_neg (by omega), if_neg hsh, if_pos ho]
        have hcn : canon (of8 (s.left.take 8)) = oneNaN := by unfold canon; rw [if_pos ho.1]
        rw [hr]
        rw [hcn] at HCL
        obtain ⟨B, hB⟩ : ∃ B, of8 (s.left.take 8) = B := ⟨_, rfl⟩
        rw [hB] at HCL HLV ho hB64
        obtain ⟨NN, hNN⟩ : ∃ NN, oneNaN = NN := ⟨_, rfl⟩
        rw [hNN] at HCL ho
        have t1 : ((B : Int) != (NN : Int)) = true := by rw [bne_iff_ne]; omega
        clear h h1 g hm hx hl hat hxl hle hb
        clear hr hf hsh ho hcn htl htb hB hNN hB64
        go_enter Try.func62, Try.ntmps62
        go_wp2_with (first | (go_at_call 105; refine (unhide HD).mono ?_; rintro e w1 ⟨rfl, rfl⟩) | (go_at_call 106; refine (unhide HB).mono ?_; rintro e w1 ⟨a1, cap1, rfl, ho, hq, hk⟩; rw [unhide HT] at ho; have HS1 := hide (sees_own (unhide HTL) ho); have HQ := hide hq; have HK := hide hk; clear ho hq hk HB) | (go_at_call 100; refine (qturned_any (unhide HS1) (by rw [unhide HTL]; omega)).mono ?_; rintro e w2 ⟨a2, cap2, rfl, ho, hk⟩; rw [unhide HTL] at ho ⊢; have HS2 := hide (sees_own (unhide HTR) ho); have HQ2 := hide ((unhide HQ).kept hk (by simp)); have HK2 := hide hk; obtain ⟨d0, d1, d2, d3⟩ := blk4 (unhide HQ2).blk; have f3 := (unhide HQ2).blk.frozen 3; clear ho hk) | (go_at_call 107; refine (qvalue_any (unhide HS2) (unhide HTB) (by rw [unhide HTR]; omega)).mono ?_; rintro e w3 ⟨rfl, rfl⟩; rw [unhide HLV]) | (go_at_call 101; refine (unhide (HCL _)).mono ?_; rintro e w4 ⟨rfl, rfl⟩))
        go_ret
        obtain ⟨q1, q2⟩ := (unhide HQ2).fail 11
        exact ⟨rfl, QsP.err (by omega) q1 (unhide HBy) (((unhide HK).trans (unhide HK2) (by simp)).trans q2 (fun y hy => Or.inl hy))⟩
      · have hr : rReal s = (⟨0, s.left.drop 8, s.behind⟩, of8 (s.left.take 8)) := by unfold rReal; rw [if_neg (by omega), if_neg hsh, if_neg ho]
        have hcn : canon (of8 (s.left.take 8)) = of8 (s.left.take 8) := by
          unfold canon
          split
          · rename_i hn; exact (Classical.byContradiction fun hne => ho ⟨hn, fun e => hne e.symm⟩)
          · rfl
        rw [hr]
        rw [hcn] at HCL
        obtain ⟨B, hB⟩ : ∃ B, of8 (s.left.take 8) = B := ⟨_, rfl⟩
        rw [hB] at HCL HLV ho hB64 ⊢
        have t1 : ((B : Int) != (B : Int)) = false := by simp
        clear h h1 g hm hx hl hat hxl hle hb
        clear hr hf hsh ho hcn htl htb hB hB64
        go_enter Try.func62, Try.ntmps62
        go_wp2_with (first | (go_at_call 105; refine (unhide HD).mono ?_; rintro e w1 ⟨rfl, rfl⟩) | (go_at_call 106; refine (unhide HB).mono ?_; rintro e w1 ⟨a1, cap1, rfl, ho, hq, hk⟩; rw [unhide HT] at ho; have HS1 := hide (sees_own (unhide HTL) ho); have HQ := hide hq; have HK := hide hk; clear ho hq hk HB) | (go_at_call 100; refine (qturned_any (unhide HS1) (by rw [unhide HTL]; omega)).mono ?_; rintro e w2 ⟨a2, cap2, rfl, ho, hk⟩; rw [unhide HTL] at ho ⊢; have HS2 := hide (sees_own (unhide HTR) ho); have HQ2 := hide ((unhide HQ).kept hk (by simp)); have HK2 := hide hk; obtain ⟨d0, d1, d2, d3⟩ := blk4 (unhide HQ2).blk; have f3 := (unhide HQ2).blk.frozen 3; clear ho hk) | (go_at_call 107; refine (qvalue_any (unhide HS2) (unhide HTB) (by rw [unhide HTR]; omega)).mono ?_; rintro e w3 ⟨rfl, rfl⟩; rw [unhide HLV]) | (go_at_call 101; refine (unhide (HCL _)).mono ?_; rintro e w4 ⟨rfl, rfl⟩))
        go_ret
        exact ⟨rfl, QsP.ok (unhide HQ2) (unhide HBy) (unhide HG1) ((unhide HK).trans (unhide HK2) (by simp))⟩
  · have HD := hide (h.dead hf)
    have HH := hide h
    have hr : rReal s = (s, 0) := by unfold rReal; rw [if_pos hf]
    rw [hr]
    clear hr h hf
    go_enter Try.func62, Try.ntmps62
    go_wp2_with (first | (go_at_call 105; refine (unhide HD).mono ?_; rintro e w1 ⟨rfl, rfl⟩))
    go_ret
    exact ⟨rfl, QsP.same (unhide HH) (Kept.refl _ _)⟩
end Go.Proofs.Ytiabhgkndejigaa

namespace Go.Proofs.Ytiabhgkndejigaa
open Go.RowKit

set_option maxRecDepth 100000 in
set_option maxHeartbeats 1000000 in
theorem qenter_s {w : World} {c : Nat} {F : List Nat} {s : RS} (h : Qs w c F s) :
    Calls Try.prog 67 #[.pointer (some ⟨c, 0, none⟩)] w fun e w' => e = .returned (.int .i64 ((rEnter s).2 : Nat)) ∧ QsP w c F (rEnter s).1 w' := by
  by_cases hf : s.fault = 0
  · obtain ⟨pv, ev, ps, at', es, x, h1, rfl, hb, g, hm, hx, hl, hat, hxl, hle⟩ := h.open hf
    have HD := hide (qdead_no h1)
    have HBy := hide hb
    have HG := hide g
    have HN := hide (qnumber_any h1 _ x hm hx hat hb s.left hle)
    have hlb : ∀ y ∈ s.left, y < 256 := by
      intro y hy
      rw [hle] at hy
      exact hb y (List.mem_of_mem_take (List.mem_of_mem_drop hy))
    obtain ⟨eb, ecap, hev, -⟩ := h1.end hx
    subst hev
    have h17 := h1.b17
    obtain ⟨c0, c1, c2, c3⟩ := blk4 h1.blk
    by_cases h16 : s.behind.length = 16
    · have hr : rEnter s = (rF 11, 0) := by unfold rEnter; rw [if_neg (by omega), if_pos h16]
      rw [hr]
      have HQ := hide h1
      have f3 := h1.blk.frozen 3
      have hes : es.length = 17 := by omega
      rw [hes] at c2
      clear h h1 g hm hx hl hat hxl hle hb
      clear hr hf hlb h16 hes h17 HN
      go_enter Try.func67, Try.ntmps67
      go_wp2_with (first | (go_at_call 105; refine (unhide HD).mono ?_; rintro e w1 ⟨rfl, rfl⟩))
      go_ret
      obtain ⟨q1, q2⟩ := (unhide HQ).fail 11
      exact ⟨rfl, QsP.err (by omega) q1 (unhide HBy) q2⟩
    · have hes : es.length ≤ 16 := by omega
      obtain ⟨EL, hEL⟩ : ∃ EL, es.length = EL := ⟨_, rfl⟩
      rw [hEL] at c2 hes
      have t16 : ((16 : Int) < (EL : Int)) = False := by simp; omega
      cases hrd : readNum 0 0 s.left with
      | inl cd =>
        have hr : rEnter s = (rF cd, 0) := by unfold rEnter; rw [if_neg (by omega), if_neg h16, hrd]
        have HC : Hid (cd ≠ 0) := by rcases readNum_code _ _ _ hrd with rfl | rfl <;> simp [Hid]
        have hcd : ((cd : Int) != 0) = true := by have := unhide HC; rw [bne_iff_ne]; omega
        have HRD := hide hrd
        rw [hr]
        clear h h1 g hm hx hl hat hxl hle hb
        clear hr hrd hf hlb h16 h17 hEL
        go_enter Try.func67, Try.ntmps67
        go_wp2_with (first | (go_at_call 105; refine (unhide HD).mono ?_; rintro e w1 ⟨rfl, rfl⟩) | (go_at_call 110; refine (unhide HN).mono ?_; rintro e w1 ⟨-, hq, hk⟩; obtain ⟨rfl, at2, hq⟩ := hq _ (unhide HRD); have HQ := hide hq; have HK := hide hk; obtain ⟨d0, d1, d2, d3⟩ := blk4 hq.blk; clear hq hk HN))
        go_ret
        exact ⟨rfl, QsP.err (unhide HC) (unhide HQ) (unhide HBy) (unhide HK)⟩
      | inr p =>
        obtain ⟨n, r⟩ := p
        have hn := (readNum_lt _ 0 0 (by omega) (by simp) hlb hrd)
        have hn64 : n < 18446744073709551616 := by omega
        have HRD := hide hrd
        have HM := hide hm
        have HX := hide hx
        have HAT := hide hat
        have HLL := hide hl
        have hxb : x ≤ 140737488355328 := by have := h1.bl; omega
        have HBE := hide h1.bes
        by_cases hsh : r.length < n
        · have hr : rEnter s = (rF 10, 0) := by unfold rEnter; rw [if_neg (by omega), if_neg h16, hrd]; simp only; rw [if_pos hsh]
          rw [hr]
          have HSH := hide hsh
          clear h h1 g hm hx hl hat hxl hle hb
          clear hr hrd hf hlb h16 h17 hEL hn hsh
          go_enter Try.func67, Try.ntmps67
          go_wp2_with (first | (go_at_call 105; refine (unhide HD).mono ?_; rintro e w1 ⟨rfl, rfl⟩) | (go_at_call 110; refine (unhide HN).mono ?_; rintro e w1 ⟨hq, -, hk⟩; obtain ⟨rfl, k, hkl, hrk, hq⟩ := hq _ _ (unhide HRD); have HQ := hide hq; have HK := hide hk; obtain ⟨d0, d1, d2, d3⟩ := blk4 hq.blk; have f3 := hq.blk.frozen 3; have h4 := congrArg List.length hrk; simp only [List.length_drop] at h4; have h5 := unhide HLL; have h6 := unhide HSH; have h7 := unhide HAT; have hw8 : IntKind.u64.wrap ((x : Int) - ((at' : Int) + (k : Int))) = (x : Int) - ((at' : Int) + (k : Int)) := (by rw [IntKind.wrap_u64]; omega); have t8 : ((x : Int) - ((at' : Int) + (k : Int)) < (n : Int)) = True := (by simp; omega); clear hq hk HN hkl hrk h4 h5 h6 h7) | (go_at_call 114; refine (qleft_any (unhide HQ) _ x (unhide HM) (unhide HX)).mono ?_; rintro e w2 ⟨rfl, hq⟩; have HQ2 := hide ((unhide HQ).quiet hq); have HK2 := hide hq.kept; obtain ⟨d0, d1, d2, d3⟩ := blk4 (unhide HQ2).blk; have f2 := (unhide HQ2).blk.frozen 2; have f3 := (unhide HQ2).blk.frozen 3; clear hq))
          go_ret
          obtain ⟨q1, q2⟩ := (unhide HQ2).fail 10
          exact ⟨rfl, QsP.err (by omega) q1 (unhide HBy) (((unhide HK).trans (unhide HK2) (by simp)).trans q2 (fun y hy => Or.inl hy))⟩
        · have hr : rEnter s = (⟨0, r.take n, s.behind ++ [r.drop n]⟩, n) := by unfold rEnter; rw [if_neg (by omega), if_neg h16, hrd]; simp only; rw [if_neg hsh]
          rw [hr]
          have HSH := hide hsh
          have hrl : r.length ≤ s.left.length := by have := hn; omega
          have hn9 : n ≤ 140737488355328 := by omega
          have HEL := hide hEL
          clear h h1 g hm hx hl hat hxl hle hb
          clear hr hrd hf hlb h16 h17 hEL hn hsh hrl
          go_enter Try.func67, Try.ntmps67
          go_upto_region 12 with (first | (go_at_call 105; refine (unhide HD).mono ?_; rintro e w1 ⟨rfl, rfl⟩) | (go_at_call 110; refine (unhide HN).mono ?_; rintro e w1 ⟨hq, -, hk⟩; obtain ⟨rfl, k, hkl, hrk, hq⟩ := hq _ _ (unhide HRD); have HQ := hide hq; have HK := hide hk; have HKL := hide hkl; have HRK := hide hrk; obtain ⟨d0, d1, d2, d3⟩ := blk4 hq.blk; have f3 := hq.blk.frozen 3; have h4 := congrArg List.length hrk; simp only [List.length_drop] at h4; have h5 := unhide HLL; have h6 := unhide HSH; have h7 := unhide HAT; have hok : at' + k + n ≤ x := (by omega); have hw8 : IntKind.u64.wrap ((x : Int) - ((at' : Int) + (k : Int))) = (x : Int) - ((at' : Int) + (k : Int)) := (by rw [IntKind.wrap_u64]; omega); have t8 : ((x : Int) - ((at' : Int) + (k : Int)) < (n : Int)) = False := (by simp; omega); clear hq hk HN hkl hrk h4 h5 h6 h7) | (go_at_call 114; refine (qleft_any (unhide HQ) _ x (unhide HM) (unhide HX)).mono ?_; rintro e w2 ⟨rfl, hq⟩; have HQ2 := hide ((unhide HQ).quiet hq); have HK2 := hide hq.kept; obtain ⟨d0, d1, d2, d3⟩ := blk4 (unhide HQ2).blk; have f2 := (unhide HQ2).blk.frozen 2; have f3 := (unhide HQ2).blk.frozen 3; clear hq))
          have hso := (unhide HQ2).eown
          obtain ⟨a2, cp2, w3, hap, ho3, hk3, hat3⟩ := app_int hso rfl (at' + k + n) (by rw [unhide HEL]; omega) 22
          rw [unhide HEL] at hap d2 ho3
          have HAP := hide hap
          have HAP2 : Hid ((Builtin.append_ #[22, 22] 22 #[.slice (some ⟨eb, 0, none⟩) EL ecap, .slice (some ⟨w2.heap.size, 0, none⟩) 1 1]).run Try.prog (w2.drew.alloc (.cells #[.int .i64 ((at' + k + n : Nat) : Int)] 3)) = .ok (.slice a2 (EL + 1) cp2) w3) := hap
          have hw1 : IntKind.i64.wrap (n : Int) = (n : Int) := by rw [IntKind.wrap_i64]; omega
          have hw2 : IntKind.i64.wrap (((at' + k : Nat) : Int) + (n : Int)) = ((at' + k + n : Nat) : Int) := by rw [IntKind.wrap_i64]; omega
          have hb3 := (unhide HQ2).blk.kept hk3 (fun hm => (unhide HQ2).n2 (Option.mem_toList.1 hm))
          have g2 : w3.cell? ⟨c, 2, none⟩ = some (.slice (some ⟨eb, 0, none⟩) EL ecap) := by rw [← unhide HEL]; exact (blk4 hb3).2.2.1
          have f2' := hb3.frozen 2
          have HO3 := hide ho3
          have HK3 := hide hk3
          have HAT3 : Hid ((Value.slice a2 (EL + 1) cp2).ownBlock = (Value.slice (some ⟨eb, 0, none⟩) es.length ecap).ownBlock ∨ ∀ q, (Value.slice a2 (EL + 1) cp2).ownBlock = some q → w2.heap.size ≤ q) := by unfold Hid; rw [← unhide HEL]; exact hat3
          obtain ⟨A, hA⟩ : ∃ A, at' + k = A := ⟨_, rfl⟩
          rw [hA, show ((A + n : Nat) : Int) = (A : Int) + (n : Int) by push_cast; rfl] at hw2 HAP HAP2
          rw [hA] at d1
          have hcA : (w2.alloc (.cells #[.int .i64 ((A : Int) + (n : Int))] 3)).cell? ⟨c, 2, none⟩ = some (.slice (some ⟨eb, 0, none⟩) EL ecap) := by rw [← unhide HEL]; exact (blk4 ((unhide HQ2).blk.alloc _)).2.2.1
          have HA := hide hA
          clear hap ho3 hk3 hat3 hso hb3 hA hw8 t8
          go_region_law (first | (refine step_append_runE (by rfl) _ _ 22 22 (by rfl) _ _ (by rfl) (by rfl) (unhide HAP) ?_) | (refine step_append_runE (by rfl) _ _ 22 22 (by rfl) _ _ (by rfl) (by rfl) (unhide HAP2) ?_))
          all_goals
            go_wp2
            go_ret
            have gk := (unhide HG).go _ (unhide HKL)
            rw [← unhide HRK] at gk
            have hnr : n ≤ r.length := by have := unhide HSH; omega
            have hl1 : (es ++ [at' + k + n]).length = EL + 1 := by simp [unhide HEL]
            obtain ⟨q1, q2, q3⟩ := (unhide HQ2).ends (ev' := .slice a2 (EL + 1) cp2) (es ++ [at' + k + n]) (by rw [hl1]; exact unhide HO3) (unhide HK3) (unhide HAT3) (by rw [hl1]; omega) (by intro y hy; simp at hy; rcases hy with hy | rfl; exact unhide HBE y hy; have := (unhide HBE) x (List.mem_of_getElem? (unhide HX)); omega)
            refine ⟨rfl, qfoot c pv (.slice a2 (EL + 1) cp2), ⟨pv, _, ps, at' + k, _, q1, rfl, unhide HBy, fun _ => gk.enter n hnr, fun h0 => absurd rfl h0⟩, ?_, fun y hy => ?_⟩
            · exact (((unhide HK).trans (unhide HK2) (by simp)).mono (fun y hy => Or.inl (by simp at hy; subst hy; simp [qfoot]))).trans q2 (fun y hy => Or.inl hy)
            · rcases q3 y hy with h | h
              · exact Or.inl h
              · right; have := (unhide HK).size; have := (unhide HK2).size; omega
  · have HD := hide (h.dead hf)
    have HH := hide h
    have hr : rEnter s = (s, 0) := by unfold rEnter; rw [if_pos hf]
    rw [hr]
    clear hr h hf
    go_enter Try.func67, Try.ntmps67
    go_wp2_with (first | (go_at_call 105; refine (unhide HD).mono ?_; rintro e w1 ⟨rfl, rfl⟩))
    go_ret
    exact ⟨rfl, QsP.same (unhide HH) (Kept.refl _ _)⟩
end Go.Proofs.Ytiabhgkndejigaa

namespace Go.Proofs.Ytiabhgkndejigaa
open Go.RowKit

set_option maxRecDepth 100000 in
set_option maxHeartbeats 1000000 in
theorem qleave_s {w : World} {c : Nat} {F : List Nat} {s : RS} (h : Qs w c F s) :
    Calls Try.prog 69 #[.pointer (some ⟨c, 0, none⟩)] w fun e w' => e = .returned (.tuple #[]) ∧ QsP w c F (rLeave s) w' := by
  by_cases hf : s.fault = 0
  · obtain ⟨pv, ev, ps, at', es, x, h1, rfl, hb, g, hm, hx, hl, hat, hxl, hle⟩ := h.open hf
    have HD := hide (qdead_no h1)
    have HBy := hide hb
    have HG := hide g
    have HM := hide hm
    have HX := hide hx
    have HL := hide (qleft_any h1 _ x hm hx)
    obtain ⟨eb, ecap, hev, -⟩ := h1.end hx
    subst hev
    have h17 := h1.b17
    have HH1 := hide h1
    obtain ⟨c0, c1, c2, c3⟩ := blk4 h1.blk
    have f3 := h1.blk.frozen 3
    by_cases ha : s.behind = []
    · have hr : rLeave s = rF 2 := by unfold rLeave; rw [if_neg (by omega), if_pos ha]
      rw [hr]
      have hes : es.length = 1 := by rw [hm, ha]; rfl
      rw [hes] at c2
      clear h h1 g hm hx hl hat hxl hle hb
      clear hr hf ha hes h17 HL
      go_enter Try.func69, Try.ntmps69
      go_wp2_with (first | (go_at_call 105; refine (unhide HD).mono ?_; rintro e w1 ⟨rfl, rfl⟩))
      refine bodyPost_ret (results_none rfl _ _ _) rfl ?_
      obtain ⟨q1, q2⟩ := (unhide HH1).fail 2
      exact ⟨rfl, QsP.err (by omega) q1 (unhide HBy) q2⟩
    · have hp := List.length_pos_iff.2 ha
      obtain ⟨EL, hEL⟩ : ∃ EL, es.length = EL := ⟨_, rfl⟩
      have HEL := hide hEL
      rw [hEL] at c2
      have b1 : ((EL : Int) == 1) = false := by rw [beq_eq_false_iff_ne]; omega
      have HEP : Hid (EL = s.behind.length + 1) := by unfold Hid; omega
      by_cases hz : s.left = []
      · have hr : rLeave s = ⟨0, s.behind.getD (s.behind.length - 1) [], s.behind.dropLast⟩ := by unfold rLeave; rw [if_neg (by omega), if_neg ha, if_neg (by simpa using hz)]
        rw [hr]
        have hz0 : x = at' := by rw [hz] at hl; simp at hl; omega
        have t1' : decide (at' < x) = false := by simp; omega
        have t1 : ((0 : Int) < (x : Int) - (at' : Int)) = False := by simp; omega
        rw [hz] at HG
        have HA := hide ha
        have hEL17 : EL ≤ 17 := by omega
        have HE1 : Hid (1 ≤ EL) := by unfold Hid; omega
        have HBE := hide h1.bes
        have hcc : EL ≤ ecap ∧ ecap ≤ 9223372036854775807 := by
          have := h1.eown
          rcases this.2 with ⟨e1, e2⟩ | ⟨g', cap', cur, e1, _, _, q1, q2, _⟩
          · cases e1
          · cases e1; unfold maxLen at q2; omega
        clear h h1 g hm hx hl hat hxl hle hb
        clear hr hf ha hz hz0 hp h17 hEL f3
        go_enter Try.func69, Try.ntmps69
        go_upto_region 5 with (first | (go_at_call 105; refine (unhide HD).mono ?_; rintro e w1 ⟨rfl, rfl⟩) | (go_at_call 114; refine (unhide HL).mono ?_; rintro e w1 ⟨rfl, hq⟩; have HQ := hide ((unhide HH1).quiet hq); have HK := hide hq.kept; obtain ⟨d0, d1, d2, d3⟩ := blk4 (unhide HQ).blk; rw [unhide HEL] at d2; have f2 := (unhide HQ).blk.frozen 2; clear hq HL))
        obtain ⟨m, hmE⟩ : ∃ m, EL = m + 1 := ⟨EL - 1, by have := unhide HE1; omega⟩
        have hw1 : IntKind.i64.wrap ((EL : Int) - 1) = (m : Int) := by rw [IntKind.wrap_i64]; omega
        have hmE' : m ≤ ecap := by omega
        have hmN : m ≤ EL := by omega
        have HME := hide hmE
        clear hmE c0 c1 c2 c3
        go_region
        all_goals
          go_wp2
          go_end0
          have hot := own_take (k := m) (unhide HQ).eown (by rw [unhide HEL]; omega)
          have hdl : es.dropLast.length = m := by rw [List.length_dropLast, unhide HEL, unhide HME]; rfl
          have hte : (i64s es).take m = i64s es.dropLast := by
            rw [List.dropLast_eq_take, unhide HEL, unhide HME]
            simp [i64s, List.map_take]
          obtain ⟨q1, q2, q3⟩ := (unhide HQ).ends (ev' := .slice (some ⟨eb, 0, none⟩) m ecap) es.dropLast (by rw [hdl, ← hte]; exact hot) (Kept.refl _ _) (Or.inl rfl) (by rw [hdl]; omega) (fun y hy => unhide HBE y (List.dropLast_subset _ hy))
          refine ⟨rfl, qfoot c pv (.slice (some ⟨eb, 0, none⟩) m ecap), ⟨pv, _, ps, at', _, q1.kept (F := []) (Kept.refl [] _).drew (by simp), rfl, unhide HBy, fun _ => (unhide HG).leave (unhide HA), fun h0 => absurd rfl h0⟩, ?_, fun y hy => ?_⟩
          · exact ((unhide HK).mono (by simp)).trans q2.drew (fun y hy => Or.inl hy)
          · exact Or.inl hy
      · have hr : rLeave s = rF 12 := by unfold rLeave; rw [if_neg (by omega), if_neg ha, if_pos (by simpa using hz)]
        have hpl := List.length_pos_iff.2 hz
        rw [hr]
        have t1' : decide (at' < x) = true := by simp; omega
        have t1 : ((0 : Int) < (x : Int) - (at' : Int)) = True := by simp; omega
        clear h h1 g hm hx hl hat hxl hle hb
        clear hr hf ha hz hp h17 hEL hpl f3
        go_enter Try.func69, Try.ntmps69
        go_wp2_with (first | (go_at_call 105; refine (unhide HD).mono ?_; rintro e w1 ⟨rfl, rfl⟩) | (go_at_call 114; refine (unhide HL).mono ?_; rintro e w1 ⟨rfl, hq⟩; have HQ := hide ((unhide HH1).quiet hq); have HK := hide hq.kept; obtain ⟨d0, d1, d2, d3⟩ := blk4 (unhide HQ).blk; have f3 := (unhide HQ).blk.frozen 3; clear hq HL))
        refine bodyPost_ret (results_none rfl _ _ _) rfl ?_
        obtain ⟨q1, q2⟩ := (unhide HQ).fail 12
        exact ⟨rfl, QsP.err (by omega) q1 (unhide HBy) (((unhide HK).mono (by simp)).trans q2 (fun y hy => Or.inl hy))⟩
  · have HD := hide (h.dead hf)
    have HH := hide h
    have hr : rLeave s = s := by unfold rLeave; rw [if_pos hf]
    rw [hr]
    clear hr h hf
    go_enter Try.func69, Try.ntmps69
    go_wp2_with (first | (go_at_call 105; refine (unhide HD).mono ?_; rintro e w1 ⟨rfl, rfl⟩))
    refine bodyPost_ret (results_none rfl _ _ _) rfl ?_
    exact ⟨rfl, QsP.same (unhide HH) (Kept.refl _ _)⟩

set_option maxRecDepth 100000 in
set_option maxHeartbeats 1000000 in
theorem qbyte_nil (w : World) : Calls Try.prog 57 #[.pointer none] w fun e w' => e = .returned (.int .i64 0) ∧ w = w' := by
  have HD := hide (qdead_nil w)
  go_enter Try.func57, Try.ntmps57
  go_wp2_with (first | (go_at_call 105; refine (unhide HD).mono ?_; rintro e w1 ⟨rfl, rfl⟩))
  go_ret
  exact ⟨rfl, rfl⟩

set_option maxRecDepth 100000 in
set_option maxHeartbeats 1000000 in
theorem qfixed_nil (w : World) (n : Int) : Calls Try.prog 58 #[.pointer none, .int .i64 n] w fun e w' => e = .returned (.int .u64 0) ∧ w = w' := by
  have HD := hide (qdead_nil w)
  go_enter Try.func58, Try.ntmps58
  go_wp2_with (first | (go_at_call 105; refine (unhide HD).mono ?_; rintro e w1 ⟨rfl, rfl⟩))
  go_ret
  exact ⟨rfl, rfl⟩

set_option maxRecDepth 100000 in
set_option maxHeartbeats 1000000 in
theorem qnum_nil (w : World) : Calls Try.prog 60 #[.pointer none] w fun e w' => e = .returned (.int .u64 0) ∧ w = w' := by
  have HD := hide (qdead_nil w)
  go_enter Try.func60, Try.ntmps60
  go_wp2_with (first | (go_at_call 105; refine (unhide HD).mono ?_; rintro e w1 ⟨rfl, rfl⟩))
  go_ret
  exact ⟨rfl, rfl⟩

set_option maxRecDepth 100000 in
set_option maxHeartbeats 1000000 in
theorem qint_nil (w : World) : Calls Try.prog 61 #[.pointer none] w fun e w' => e = .returned (.int .i64 0) ∧ w = w' := by
  have HD := hide (qdead_nil w)
  go_enter Try.func61, Try.ntmps61
  go_wp2_with (first | (go_at_call 105; refine (unhide HD).mono ?_; rintro e w1 ⟨rfl, rfl⟩))
  go_ret
  exact ⟨rfl, rfl⟩

set_option maxRecDepth 100000 in
set_option maxHeartbeats 1000000 in
theorem qreal_nil (w : World) : Calls Try.prog 62 #[.pointer none] w fun e w' => e = .returned (.int .u64 0) ∧ w = w' := by
  have HD := hide (qdead_nil w)
  go_enter Try.func62, Try.ntmps62
  go_wp2_with (first | (go_at_call 105; refine (unhide HD).mono ?_; rintro e w1 ⟨rfl, rfl⟩))
  go_ret
  exact ⟨rfl, rfl⟩

set_option maxRecDepth 100000 in
set_option maxHeartbeats 1000000 in
theorem qraw_nil (w : World) (n : Int) : Calls Try.prog 63 #[.pointer none, .int .i64 n] w fun e w' => e = .returned (.slice none 0 0) ∧ w = w' := by
  have HD := hide (qdead_nil w)
  go_enter Try.func63, Try.ntmps63
  go_wp2_with (first | (go_at_call 105; refine (unhide HD).mono ?_; rintro e w1 ⟨rfl, rfl⟩))
  go_ret
  exact ⟨rfl, rfl⟩

set_option maxRecDepth 100000 in
set_option maxHeartbeats 1000000 in
theorem qtext_nil (w : World) (n : Int) : Calls Try.prog 65 #[.pointer none, .int .i64 n] w fun e w' => e = .returned (.slice none 0 0) ∧ w = w' := by
  have HD := hide (qdead_nil w)
  go_enter Try.func65, Try.ntmps65
  go_wp2_with (first | (go_at_call 105; refine (unhide HD).mono ?_; rintro e w1 ⟨rfl, rfl⟩))
  go_ret
  exact ⟨rfl, rfl⟩

set_option maxRecDepth 100000 in
set_option maxHeartbeats 1000000 in
theorem qenter_nil (w : World) : Calls Try.prog 67 #[.pointer none] w fun e w' => e = .returned (.int .i64 0) ∧ w = w' := by
  have HD := hide (qdead_nil w)
  go_enter Try.func67, Try.ntmps67
  go_wp2_with (first | (go_at_call 105; refine (unhide HD).mono ?_; rintro e w1 ⟨rfl, rfl⟩))
  go_ret
  exact ⟨rfl, rfl⟩

set_option maxRecDepth 100000 in
set_option maxHeartbeats 1000000 in
theorem qrest_nil (w : World) : Calls Try.prog 71 #[.pointer none] w fun e w' => e = .returned (.int .i64 0) ∧ w = w' := by
  have HD := hide (qdead_nil w)
  go_enter Try.func71, Try.ntmps71
  go_wp2_with (first | (go_at_call 105; refine (unhide HD).mono ?_; rintro e w1 ⟨rfl, rfl⟩))
  go_ret
  exact ⟨rfl, rfl⟩

set_option maxRecDepth 100000 in
set_option maxHeartbeats 1000000 in
theorem qleave_nil (w : World) : Calls Try.prog 69 #[.pointer none] w fun e w' => e = .returned (.tuple #[]) ∧ w = w' := by
  have HD := hide (qdead_nil w)
  go_enter Try.func69, Try.ntmps69
  go_wp2_with (first | (go_at_call 105; refine (unhide HD).mono ?_; rintro e w1 ⟨rfl, rfl⟩))
  refine bodyPost_ret (results_none rfl _ _ _) rfl ?_
  exact ⟨rfl, rfl⟩

set_option maxRecDepth 100000 in
set_option maxHeartbeats 1000000 in
theorem qdone_nil (w : World) : Calls Try.prog 72 #[.pointer none] w fun e w' => e = .returned (.int .i64 1) ∧ w = w' := by
  go_enter Try.func72, Try.ntmps72
  go_wp2
  go_ret
  exact ⟨rfl, rfl⟩
end Go.Proofs.Ytiabhgkndejigaa

namespace Go.Proofs.Ytiabhgkndejigaa
open Go.RowKit

/-- one more byte behind bytes of its own: what is kept -/
theorem app_byteK {w : World} {base : Nat} {a : Option Addr} {k cap : Nat} {xs : List Nat} (h : w.ownsRow base 5 1 (.slice a k cap) k (u8s xs)) (hk : xs.length = k) (x : Nat) (hl : k + 1 ≤ 140737488355328) (hb : base ≤ w.heap.size) (ty : TypeId) :
    ∃ a' cap' w', (Builtin.append_ #[25, 25] ty #[.slice a k cap, .slice (some ⟨w.heap.size, 0, none⟩) 1 1]).run Try.prog (w.alloc (.cells #[.int .u8 (x : Int)] 5)).drew = .ok (.slice a' (k + 1) cap') w' ∧ w'.ownsRow base 5 1 (.slice a' (k + 1) cap') (k + 1) (u8s (xs ++ [x])) ∧ Kept (Value.slice a k cap).ownBlock.toList w w' ∧ ((Value.slice a' (k + 1) cap').ownBlock = (Value.slice a k cap).ownBlock ∨ ∀ q, (Value.slice a' (k + 1) cap').ownBlock = some q → w.heap.size ≤ q) := by
  obtain ⟨i0, hi, hz0, hz1, hz2⟩ := info_parts Try.info5
  subst hk
  have k1 : Kept [] w (w.alloc (.cells #[.int .u8 (x : Int)] 5)).drew := ((Kept.refl [] w).alloc _).drew
  have s1 : Sees (w.alloc (.cells #[.int .u8 (x : Int)] 5)).drew (.slice (some ⟨w.heap.size, 0, none⟩) 1 1) [x] := (news_one w x).kept (F := []) (Kept.refl [] _).drew (by simp)
  obtain ⟨v', w', h1, h2, h3, h4⟩ := run_append_sees (P := Try.prog) (w.alloc (.cells #[.int .u8 (x : Int)] 5)).drew base 25 ty 5 i0 (.int .u8 0) Try.underlying25 hi hz0 hz1 hz2 rfl _ xs (own_kept h k1 (by simp)) _ [x] s1 (by simp; omega) (by simp; omega)
  obtain ⟨a', cap', rfl⟩ := own_len h2
  have hl1 : (xs ++ [x]).length = xs.length + 1 := by simp
  rw [hl1] at h1 h2 h4
  refine ⟨a', cap', w', h1, h2, (k1.mono (by simp)).grown h3 (fun q hq => Or.inl (by simp [hq])), ?_⟩
  rcases h4 with h5 | h5
  · exact Or.inl h5
  · right; intro q hq; rw [h5] at hq; simp at hq; omega

theorem take_snoc (ps : List Nat) (k : Nat) (h : k < ps.length) : ps.take k ++ [ps.getD k 0] = ps.take (k + 1) := by
  have := take_next ps 0 k (by omega)
  simpa using this

set_option maxRecDepth 100000 in
set_option maxHeartbeats 1000000 in
theorem qread_any {w : World} {v : Value} {ps : List Nat} (h : Wide w v ps) (hb : ∀ x ∈ ps, x < 256) (hl : ps.length ≤ 140737488355328) :
    Calls Try.prog 18 #[v] w fun e w' => ∃ c F, e = .returned (.pointer (some ⟨c, 0, none⟩)) ∧ Qs w' c F ⟨0, ps, []⟩ ∧ (∀ x ∈ F, w.heap.size ≤ x) ∧ Kept [] w w' := by
  have HW := hide h
  have HB := hide hb
  obtain ⟨va, vc, rfl⟩ := wide_len h
  obtain ⟨L, hL⟩ : ∃ L, ps.length = L := ⟨_, rfl⟩
  have HL := hide hL
  rw [hL] at hl ⊢
  clear h hb hL
  go_enter Try.func18, Try.ntmps18
  go_wp2
  go_loopw [4] (fun i wr => ∃ (k : Nat) (a : Option Addr) (cap : Nat), k ≤ L ∧ i = .int .i64 (k : Int) ∧ Hid (Blk wr (w.heap.size + 1) #[.slice a k cap, .int .i64 0, .slice (some ⟨w.heap.size, 0, none⟩) 1 1, .int .i64 0] 85 ∧ wr.ownsRow (w.heap.size + 2) 5 1 (.slice a k cap) k (u8s (ps.take k)) ∧ wr.ownsRow 0 3 1 (.slice (some ⟨w.heap.size, 0, none⟩) 1 1) 1 (i64s [L]) ∧ Kept [] w wr ∧ w.heap.size + 2 ≤ wr.heap.size)) (fun i _ => L - (intOf i).toNat)
  case atStart =>
    refine ⟨0, none, 0, by omega, rfl, hide ⟨?_, ?_, ?_, ?_, ?_⟩⟩
    · have := Blk.new (w.alloc (.cells #[.int .i64 (L : Int)] 3)) #[.slice none 0 0, .int .i64 0, .slice (some ⟨w.heap.size, 0, none⟩) 1 1, .int .i64 0] 85
      simpa using this
    · exact World.ownsRow_nil _ _ _ _
    · refine ⟨rfl, Or.inr ⟨w.heap.size, 1, #[.int .i64 (L : Int)], rfl, Nat.zero_le _, ?_, by omega, by unfold maxLen; omega, rfl, rfl⟩⟩
      exact (Blk.new w #[.int .i64 (L : Int)] 3).alloc _
    · exact ((Kept.refl [] w).alloc _).alloc _
    · simp
  case round =>
    obtain ⟨k, a, cap, hk, rfl, HR⟩ := hrel
    obtain ⟨hbk, hro, hre, hkp, hsz⟩ := unhide HR
    by_cases hlt : k < L
    · have hi : k < ps.length := by rw [unhide HL]; exact hlt
      obtain ⟨b, off, hva, cx⟩ := ((unhide HW).kept hkp).at k hi
      subst hva
      obtain ⟨c0, c1, c2, c3⟩ := blk4 hbk
      have HT := hide (take_snoc ps k hi)
      have hlen : (ps.take k).length = k := by simp; omega
      obtain ⟨a2, d2, w2, hap, ho2, hk2, hat2⟩ := app_byteK hro hlen (ps.getD k 0) (by omega) hsz 25
      generalize ps.getD k 0 = y at *
      have HAP := hide hap
      have HAP2 : Hid ((Builtin.append_ #[25, 25] 25 #[.slice a k cap, .slice (some ⟨wr.heap.size, 0, none⟩) 1 1]).run Try.prog (wr.drew.alloc (.cells #[.int .u8 (y : Int)] 5)) = .ok (.slice a2 (k + 1) d2) w2) := hap
      have hcA : (wr.alloc (.cells #[.int .u8 (y : Int)] 5)).cell? ⟨w.heap.size + 1, 0, none⟩ = some (.slice a k cap) := (blk4 (hbk.alloc _)).1
      have hnb : ∀ q, q < w.heap.size + 2 → q ∉ (Value.slice a k cap).ownBlock.toList := fun q hq hm => by have := (hro.lt q (Option.mem_toList.1 hm)).1; omega
      have hb2 := hbk.kept hk2 (hnb _ (by omega))
      have he2 := own_kept hre hk2 (fun q hq => hnb q (by have e0 : (some w.heap.size : Option Nat) = some q := hq; simp at e0; omega))
      have g0 : w2.cell? ⟨w.heap.size + 1, 0, none⟩ = some (.slice a k cap) := (blk4 hb2).1
      have f0 := hb2.frozen 0
      have HFIN : Hid (Blk (w2.setCell ⟨w.heap.size + 1, 0, none⟩ (.slice a2 (k + 1) d2)) (w.heap.size + 1) #[.slice a2 (k + 1) d2, .int .i64 0, .slice (some ⟨w.heap.size, 0, none⟩) 1 1, .int .i64 0] 85 ∧ (w2.setCell ⟨w.heap.size + 1, 0, none⟩ (.slice a2 (k + 1) d2)).ownsRow (w.heap.size + 2) 5 1 (.slice a2 (k + 1) d2) (k + 1) (u8s (ps.take (k + 1))) ∧ (w2.setCell ⟨w.heap.size + 1, 0, none⟩ (.slice a2 (k + 1) d2)).ownsRow 0 3 1 (.slice (some ⟨w.heap.size, 0, none⟩) 1 1) 1 (i64s [L]) ∧ Kept [] w (w2.setCell ⟨w.heap.size + 1, 0, none⟩ (.slice a2 (k + 1) d2)) ∧ w.heap.size + 2 ≤ (w2.setCell ⟨w.heap.size + 1, 0, none⟩ (.slice a2 (k + 1) d2)).heap.size) := by
        have ks : Kept [w.heap.size + 1] w2 (w2.setCell ⟨w.heap.size + 1, 0, none⟩ (.slice a2 (k + 1) d2)) := (Kept.refl _ _).setCell (Or.inl (by simp)) _
        refine hide ⟨by simpa using hb2.set 0 (.slice a2 (k + 1) d2), ?_, ?_, ?_, ?_⟩
        · rw [← unhide HT]
          exact own_kept ho2 ks (fun q hq => by have := (ho2.lt q hq).1; simp; omega)
        · exact own_kept he2 ks (fun q hq => by have e0 : (some w.heap.size : Option Nat) = some q := hq; simp at e0; simp; omega)
        · exact (hkp.trans hk2 (fun q hq => Or.inr (by have := (hro.lt q (Option.mem_toList.1 hq)).1; omega))).setCell (Or.inr (by simp)) _
        · have := hk2.size; have := ks.size; omega
      have hw7 : IntKind.i64.wrap ((k : Int) + 1) = (k : Int) + 1 := by rw [IntKind.wrap_i64]; omega
      have hm : L ≤ 9223372036854775807 := by omega
      have HHL := hide hl
      clear hap ho2 hk2 hat2 hlen hbk hro hre hkp hsz hnb hb2 he2 hi hl HR
      go_upto_region 5 with fail
      go_region_law (first | (refine step_append_runE (by rfl) _ _ 25 25 (by rfl) _ _ (by rfl) (by rfl) (unhide HAP) ?_) | (refine step_append_runE (by rfl) _ _ 25 25 (by rfl) _ _ (by rfl) (by rfl) (unhide HAP2) ?_))
      all_goals
        clear c0 c1 c2 c3 cx HAP HAP2 hcA g0 f0
        go_wp2
        exact ⟨⟨k + 1, a2, d2, by omega, by go_num, HFIN⟩, by simp [intOf]; omega⟩
    · obtain rfl : k = L := by omega
      clear hbk hro hre hkp hsz
      go_wp2
      go_ret
      obtain ⟨hbk, hro, hre, hkp, hsz⟩ := unhide HR
      have hlp := unhide HL
      subst hlp
      rw [List.take_length] at hro
      refine ⟨w.heap.size + 1, _, rfl, ⟨.slice a ps.length cap, .slice (some ⟨w.heap.size, 0, none⟩) 1 1, ps, 0, [ps.length], ⟨hbk, Sees.of_own hro, hre, ?_, ?_, ?_, hl, by simp, by omega, by simp⟩, rfl, unhide HB, fun _ => Geo.new ps, fun h0 => absurd rfl h0⟩, ?_, hkp⟩
      · intro e; have := (hro.lt _ e).1; omega
      · intro e; have e0 : (some w.heap.size : Option Nat) = some (w.heap.size + 1) := e; simp at e0
      · intro q hq e; have e0 : (some w.heap.size : Option Nat) = some q := e; simp at e0; have := (hro.lt _ hq).1; omega
      · intro q hq
        simp only [qfoot, List.mem_cons, List.mem_append, Option.mem_toList] at hq
        rcases hq with rfl | hq | hq
        · omega
        · have := (hro.lt _ hq).1; omega
        · have e0 : (some w.heap.size : Option Nat) = some q := hq; simp at e0; omega
end Go.Proofs.Ytiabhgkndejigaa
