/- Readers on both sides: none at all, the law's step, the script, what came in. -/
import Derived.Test.YtiabhgkndejigaaPF
import Derived.Test.YtiabhgkndejigaaAwake
import Derived.Test.YtiabhgkndejigaaPMa
import Derived.Test.YtiabhgkndejigaaThing
import Derived.Test.YtiabhgkndejigaaRows
import Derived.Deep.Slices
import Derived.Deep.Strs
import Derived.SizedLaws
import Derived.ProofKit
import Derived.OpenShut
namespace Go.Proofs.Ytiabhgkndejigaa
open Go.RowKit

set_option maxRecDepth 100000 in
set_option maxHeartbeats 400000 in
theorem take_nil (w : World) (fv : Value) :
    Calls Try.prog 73 #[.pointer none, fv] w fun e w' => e = .returned (.tuple #[]) ∧ Kept [] w w' := by
  go_enter_defers Try.func73, Try.ntmps73
  go_wp2
  simp [bodyPostD, Leaves, results, Try.results73, go_sem]
  exact (Kept.refl [] w).alloc _

set_option maxRecDepth 100000 in
set_option maxHeartbeats 400000 in
theorem rbyte_nil (w : World) :
    Calls Try.prog 25 #[.pointer none] w fun e w' => e = .returned (.int .i64 0) ∧ Kept [] w w' := by
  have hmf : ∀ (fn : Fn) (first cap : Array Value) (w : World), (Instr.makeFunc fn first cap).run Try.prog w = .ok (.func fn first cap) w := fun _ _ _ _ => rfl
  have hq : Blk ((w.alloc (.cells #[.pointer none] 45)).alloc (.cells #[.int .i64 0] 3)) (w.heap.size + 1) #[.int .i64 0] 3 := by
    have := Blk.new (w.alloc (.cells #[.pointer none] 45)) #[.int .i64 0] 3
    simpa using this
  have HF : Hid (∀ fv, Calls Try.prog 73 #[.pointer none, fv] ((w.alloc (.cells #[.pointer none] 45)).alloc (.cells #[.int .i64 0] 3)) fun e w' => e = .returned (.tuple #[]) ∧ Kept [] ((w.alloc (.cells #[.pointer none] 45)).alloc (.cells #[.int .i64 0] 3)) w') := hide fun fv => take_nil _ fv
  have HK : Hid (Kept [] w ((w.alloc (.cells #[.pointer none] 45)).alloc (.cells #[.int .i64 0] 3))) := hide (((Kept.refl [] w).alloc _).alloc _)
  have HQ := hide hq
  clear hq
  go_enter Try.func25, Try.ntmps25
  go_wp2_with fail
  refine (unhide HF _).mono ?_
  rintro e w1 ⟨rfl, hk⟩
  have hcq := blk1 ((unhide HQ).kept hk (by simp))
  have HK1 := hide hk
  clear hk
  go_wp2
  go_ret
  exact ⟨rfl, (unhide HK).trans (unhide HK1) (by simp)⟩

set_option maxRecDepth 100000 in
set_option maxHeartbeats 400000 in
theorem rnum_nil (w : World) :
    Calls Try.prog 23 #[.pointer none] w fun e w' => e = .returned (.int .u64 0) ∧ Kept [] w w' := by
  have hmf : ∀ (fn : Fn) (first cap : Array Value) (w : World), (Instr.makeFunc fn first cap).run Try.prog w = .ok (.func fn first cap) w := fun _ _ _ _ => rfl
  have hq : Blk ((w.alloc (.cells #[.pointer none] 45)).alloc (.cells #[.int .u64 0] 24)) (w.heap.size + 1) #[.int .u64 0] 24 := by
    have := Blk.new (w.alloc (.cells #[.pointer none] 45)) #[.int .u64 0] 24
    simpa using this
  have HF : Hid (∀ fv, Calls Try.prog 73 #[.pointer none, fv] ((w.alloc (.cells #[.pointer none] 45)).alloc (.cells #[.int .u64 0] 24)) fun e w' => e = .returned (.tuple #[]) ∧ Kept [] ((w.alloc (.cells #[.pointer none] 45)).alloc (.cells #[.int .u64 0] 24)) w') := hide fun fv => take_nil _ fv
  have HK : Hid (Kept [] w ((w.alloc (.cells #[.pointer none] 45)).alloc (.cells #[.int .u64 0] 24))) := hide (((Kept.refl [] w).alloc _).alloc _)
  have HQ := hide hq
  clear hq
  go_enter Try.func23, Try.ntmps23
  go_wp2_with fail
  refine (unhide HF _).mono ?_
  rintro e w1 ⟨rfl, hk⟩
  have hcq := blk1 ((unhide HQ).kept hk (by simp))
  have HK1 := hide hk
  clear hk
  go_wp2
  go_ret
  exact ⟨rfl, (unhide HK).trans (unhide HK1) (by simp)⟩

set_option maxRecDepth 100000 in
set_option maxHeartbeats 400000 in
theorem rint_nil (w : World) :
    Calls Try.prog 28 #[.pointer none] w fun e w' => e = .returned (.int .i64 0) ∧ Kept [] w w' := by
  have hmf : ∀ (fn : Fn) (first cap : Array Value) (w : World), (Instr.makeFunc fn first cap).run Try.prog w = .ok (.func fn first cap) w := fun _ _ _ _ => rfl
  have hq : Blk ((w.alloc (.cells #[.pointer none] 45)).alloc (.cells #[.int .i64 0] 3)) (w.heap.size + 1) #[.int .i64 0] 3 := by
    have := Blk.new (w.alloc (.cells #[.pointer none] 45)) #[.int .i64 0] 3
    simpa using this
  have HF : Hid (∀ fv, Calls Try.prog 73 #[.pointer none, fv] ((w.alloc (.cells #[.pointer none] 45)).alloc (.cells #[.int .i64 0] 3)) fun e w' => e = .returned (.tuple #[]) ∧ Kept [] ((w.alloc (.cells #[.pointer none] 45)).alloc (.cells #[.int .i64 0] 3)) w') := hide fun fv => take_nil _ fv
  have HK : Hid (Kept [] w ((w.alloc (.cells #[.pointer none] 45)).alloc (.cells #[.int .i64 0] 3))) := hide (((Kept.refl [] w).alloc _).alloc _)
  have HQ := hide hq
  clear hq
  go_enter Try.func28, Try.ntmps28
  go_wp2_with fail
  refine (unhide HF _).mono ?_
  rintro e w1 ⟨rfl, hk⟩
  have hcq := blk1 ((unhide HQ).kept hk (by simp))
  have HK1 := hide hk
  clear hk
  go_wp2
  go_ret
  exact ⟨rfl, (unhide HK).trans (unhide HK1) (by simp)⟩

set_option maxRecDepth 100000 in
set_option maxHeartbeats 400000 in
theorem rreal_nil (w : World) :
    Calls Try.prog 31 #[.pointer none] w fun e w' => e = .returned (.float .f64 0) ∧ Kept [] w w' := by
  have hmf : ∀ (fn : Fn) (first cap : Array Value) (w : World), (Instr.makeFunc fn first cap).run Try.prog w = .ok (.func fn first cap) w := fun _ _ _ _ => rfl
  have hq : Blk ((w.alloc (.cells #[.pointer none] 45)).alloc (.cells #[.float .f64 0] 62)) (w.heap.size + 1) #[.float .f64 0] 62 := by
    have := Blk.new (w.alloc (.cells #[.pointer none] 45)) #[.float .f64 0] 62
    simpa using this
  have HF : Hid (∀ fv, Calls Try.prog 73 #[.pointer none, fv] ((w.alloc (.cells #[.pointer none] 45)).alloc (.cells #[.float .f64 0] 62)) fun e w' => e = .returned (.tuple #[]) ∧ Kept [] ((w.alloc (.cells #[.pointer none] 45)).alloc (.cells #[.float .f64 0] 62)) w') := hide fun fv => take_nil _ fv
  have HK : Hid (Kept [] w ((w.alloc (.cells #[.pointer none] 45)).alloc (.cells #[.float .f64 0] 62))) := hide (((Kept.refl [] w).alloc _).alloc _)
  have HQ := hide hq
  clear hq
  go_enter Try.func31, Try.ntmps31
  go_wp2_with fail
  refine (unhide HF _).mono ?_
  rintro e w1 ⟨rfl, hk⟩
  have hcq := blk1 ((unhide HQ).kept hk (by simp))
  have HK1 := hide hk
  clear hk
  go_wp2
  go_ret
  exact ⟨rfl, (unhide HK).trans (unhide HK1) (by simp)⟩

set_option maxRecDepth 100000 in
set_option maxHeartbeats 400000 in
theorem renter_nil (w : World) :
    Calls Try.prog 68 #[.pointer none] w fun e w' => e = .returned (.int .i64 0) ∧ Kept [] w w' := by
  have hmf : ∀ (fn : Fn) (first cap : Array Value) (w : World), (Instr.makeFunc fn first cap).run Try.prog w = .ok (.func fn first cap) w := fun _ _ _ _ => rfl
  have hq : Blk ((w.alloc (.cells #[.pointer none] 45)).alloc (.cells #[.int .i64 0] 3)) (w.heap.size + 1) #[.int .i64 0] 3 := by
    have := Blk.new (w.alloc (.cells #[.pointer none] 45)) #[.int .i64 0] 3
    simpa using this
  have HF : Hid (∀ fv, Calls Try.prog 73 #[.pointer none, fv] ((w.alloc (.cells #[.pointer none] 45)).alloc (.cells #[.int .i64 0] 3)) fun e w' => e = .returned (.tuple #[]) ∧ Kept [] ((w.alloc (.cells #[.pointer none] 45)).alloc (.cells #[.int .i64 0] 3)) w') := hide fun fv => take_nil _ fv
  have HK : Hid (Kept [] w ((w.alloc (.cells #[.pointer none] 45)).alloc (.cells #[.int .i64 0] 3))) := hide (((Kept.refl [] w).alloc _).alloc _)
  have HQ := hide hq
  clear hq
  go_enter Try.func68, Try.ntmps68
  go_wp2_with fail
  refine (unhide HF _).mono ?_
  rintro e w1 ⟨rfl, hk⟩
  have hcq := blk1 ((unhide HQ).kept hk (by simp))
  have HK1 := hide hk
  clear hk
  go_wp2
  go_ret
  exact ⟨rfl, (unhide HK).trans (unhide HK1) (by simp)⟩

set_option maxRecDepth 100000 in
set_option maxHeartbeats 400000 in
theorem rfixed_nil (w : World) (n : Int) :
    Calls Try.prog 59 #[.pointer none, .int .i64 n] w fun e w' => e = .returned (.int .u64 0) ∧ Kept [] w w' := by
  have hmf : ∀ (fn : Fn) (first cap : Array Value) (w : World), (Instr.makeFunc fn first cap).run Try.prog w = .ok (.func fn first cap) w := fun _ _ _ _ => rfl
  have hq : Blk (((w.alloc (.cells #[.pointer none] 45)).alloc (.cells #[.int .i64 n] 3)).alloc (.cells #[.int .u64 0] 24)) (w.heap.size + 2) #[.int .u64 0] 24 := by
    have := Blk.new ((w.alloc (.cells #[.pointer none] 45)).alloc (.cells #[.int .i64 n] 3)) #[.int .u64 0] 24
    simpa using this
  have HF : Hid (∀ fv, Calls Try.prog 73 #[.pointer none, fv] (((w.alloc (.cells #[.pointer none] 45)).alloc (.cells #[.int .i64 n] 3)).alloc (.cells #[.int .u64 0] 24)) fun e w' => e = .returned (.tuple #[]) ∧ Kept [] (((w.alloc (.cells #[.pointer none] 45)).alloc (.cells #[.int .i64 n] 3)).alloc (.cells #[.int .u64 0] 24)) w') := hide fun fv => take_nil _ fv
  have HK : Hid (Kept [] w (((w.alloc (.cells #[.pointer none] 45)).alloc (.cells #[.int .i64 n] 3)).alloc (.cells #[.int .u64 0] 24))) := hide ((((Kept.refl [] w).alloc _).alloc _).alloc _)
  have HQ := hide hq
  clear hq
  go_enter Try.func59, Try.ntmps59
  go_wp2_with fail
  refine (unhide HF _).mono ?_
  rintro e w1 ⟨rfl, hk⟩
  have hcq := blk1 ((unhide HQ).kept hk (by simp))
  have HK1 := hide hk
  clear hk
  go_wp2
  go_ret
  exact ⟨rfl, (unhide HK).trans (unhide HK1) (by simp)⟩

set_option maxRecDepth 100000 in
set_option maxHeartbeats 400000 in
theorem rraw_nil (w : World) (n : Int) :
    Calls Try.prog 64 #[.pointer none, .int .i64 n] w fun e w' => e = .returned (.slice none 0 0) ∧ Kept [] w w' := by
  have hmf : ∀ (fn : Fn) (first cap : Array Value) (w : World), (Instr.makeFunc fn first cap).run Try.prog w = .ok (.func fn first cap) w := fun _ _ _ _ => rfl
  have hq : Blk (((w.alloc (.cells #[.pointer none] 45)).alloc (.cells #[.int .i64 n] 3)).alloc (.cells #[.slice none 0 0] 25)) (w.heap.size + 2) #[.slice none 0 0] 25 := by
    have := Blk.new ((w.alloc (.cells #[.pointer none] 45)).alloc (.cells #[.int .i64 n] 3)) #[.slice none 0 0] 25
    simpa using this
  have HF : Hid (∀ fv, Calls Try.prog 73 #[.pointer none, fv] (((w.alloc (.cells #[.pointer none] 45)).alloc (.cells #[.int .i64 n] 3)).alloc (.cells #[.slice none 0 0] 25)) fun e w' => e = .returned (.tuple #[]) ∧ Kept [] (((w.alloc (.cells #[.pointer none] 45)).alloc (.cells #[.int .i64 n] 3)).alloc (.cells #[.slice none 0 0] 25)) w') := hide fun fv => take_nil _ fv
  have HK : Hid (Kept [] w (((w.alloc (.cells #[.pointer none] 45)).alloc (.cells #[.int .i64 n] 3)).alloc (.cells #[.slice none 0 0] 25))) := hide ((((Kept.refl [] w).alloc _).alloc _).alloc _)
  have HQ := hide hq
  clear hq
  go_enter Try.func64, Try.ntmps64
  go_wp2_with fail
  refine (unhide HF _).mono ?_
  rintro e w1 ⟨rfl, hk⟩
  have hcq := blk1 ((unhide HQ).kept hk (by simp))
  have HK1 := hide hk
  clear hk
  go_wp2
  go_ret
  exact ⟨rfl, (unhide HK).trans (unhide HK1) (by simp)⟩

set_option maxRecDepth 100000 in
set_option maxHeartbeats 400000 in
theorem rtext_nil (w : World) (n : Int) :
    Calls Try.prog 66 #[.pointer none, .int .i64 n] w fun e w' => e = .returned (.slice none 0 0) ∧ Kept [] w w' := by
  have hmf : ∀ (fn : Fn) (first cap : Array Value) (w : World), (Instr.makeFunc fn first cap).run Try.prog w = .ok (.func fn first cap) w := fun _ _ _ _ => rfl
  have hq : Blk (((w.alloc (.cells #[.pointer none] 45)).alloc (.cells #[.int .i64 n] 3)).alloc (.cells #[.slice none 0 0] 25)) (w.heap.size + 2) #[.slice none 0 0] 25 := by
    have := Blk.new ((w.alloc (.cells #[.pointer none] 45)).alloc (.cells #[.int .i64 n] 3)) #[.slice none 0 0] 25
    simpa using this
  have HF : Hid (∀ fv, Calls Try.prog 73 #[.pointer none, fv] (((w.alloc (.cells #[.pointer none] 45)).alloc (.cells #[.int .i64 n] 3)).alloc (.cells #[.slice none 0 0] 25)) fun e w' => e = .returned (.tuple #[]) ∧ Kept [] (((w.alloc (.cells #[.pointer none] 45)).alloc (.cells #[.int .i64 n] 3)).alloc (.cells #[.slice none 0 0] 25)) w') := hide fun fv => take_nil _ fv
  have HK : Hid (Kept [] w (((w.alloc (.cells #[.pointer none] 45)).alloc (.cells #[.int .i64 n] 3)).alloc (.cells #[.slice none 0 0] 25))) := hide ((((Kept.refl [] w).alloc _).alloc _).alloc _)
  have HQ := hide hq
  clear hq
  go_enter Try.func66, Try.ntmps66
  go_wp2_with fail
  refine (unhide HF _).mono ?_
  rintro e w1 ⟨rfl, hk⟩
  have hcq := blk1 ((unhide HQ).kept hk (by simp))
  have HK1 := hide hk
  clear hk
  go_wp2
  go_ret
  exact ⟨rfl, (unhide HK).trans (unhide HK1) (by simp)⟩

set_option maxRecDepth 100000 in
set_option maxHeartbeats 400000 in
theorem rleave_nil (w : World) :
    Calls Try.prog 70 #[.pointer none] w fun e w' => e = .returned (.tuple #[]) ∧ Kept [] w w' := by
  have HF := hide (fun fv => take_nil (w.alloc (.cells #[.pointer none] 45)) fv)
  go_enter Try.func70, Try.ntmps70
  go_wp2_with fail
  refine (unhide HF _).mono ?_
  rintro e w1 ⟨rfl, hk⟩
  go_wp2
  go_end0
  exact ⟨rfl, ((Kept.refl [] w).alloc _).trans hk (by simp)⟩

set_option maxRecDepth 100000 in
set_option maxHeartbeats 400000 in
theorem rest_nil (w : World) : Calls Try.prog 24 #[.pointer none] w fun e w' => e = .returned (.int .i64 0) ∧ w = w' := by
  go_enter Try.func24, Try.ntmps24
  go_wp2
  go_ret
  exact ⟨rfl, rfl⟩
set_option maxRecDepth 100000 in
set_option maxHeartbeats 400000 in
theorem rdone_nil (w : World) : Calls Try.prog 20 #[.pointer none] w fun e w' => e = .returned (.int .i64 1) ∧ w = w' := by
  go_enter Try.func20, Try.ntmps20
  go_wp2
  go_ret
  exact ⟨rfl, rfl⟩
end Go.Proofs.Ytiabhgkndejigaa

namespace Go.Proofs.Ytiabhgkndejigaa
open Go.RowKit

theorem world_at {R C : World → Prop} {x : World} (h : R x) (H : ∀ wr, R wr → C wr) : C x := H x h
def b8s (l : List Int) : List Value := l.map (Value.int .u8)
theorem b8s_length (l : List Int) : (b8s l).length = l.length := by simp [b8s]
theorem b8s_append (l m : List Int) : b8s (l ++ m) = b8s l ++ b8s m := by simp [b8s]
theorem b8s_at (l : List Int) {j : Nat} (hj : j < l.length) : (b8s l)[j]? = some (.int .u8 (l.getD j 0)) := by
  simp [b8s, List.getElem?_eq_getElem hj]
theorem b8s_set (l : List Int) (k : Nat) (x : Int) : b8s (l.set k x) = (b8s l).set k (.int .u8 x) := by simp [b8s, List.map_set]
theorem info5p : (Try.prog.info? 5).map (fun i => (i.zero, i.size, i.bytes)) = some (some (.int .u8 0), 1, 1) := by kernel_rfl
theorem cell_one_new (w : World) (v : Value) (t : TypeId) : ∀ j u, [v][j]? = some u → (w.alloc (.cells #[v] t)).cell? ((⟨w.heap.size, 0, none⟩ : Addr).add j) = some u := by
  intro j u hj
  match j, hj with
  | 0, hj => simp at hj; subst hj; have := blk1 (Blk.new w #[v] t); simp [Addr.add]

theorem rowI_of_own {w : World} {base n : Nat} {v : Value} {l : List Int} (h : w.ownsRow base 5 1 v n (b8s l)) (hn : 0 < n) :
    ∃ g cap, v = .slice (some ⟨g, 0, none⟩) n cap ∧ base ≤ g ∧ g < w.heap.size ∧ n ≤ cap ∧ cap ≤ maxLen := by
  rcases h.2 with ⟨_, h2⟩ | ⟨g, cap, cur, hv, hb, hg, hc, hm, _⟩
  · omega
  · exact ⟨g, cap, hv, hb, (Array.getElem?_eq_some_iff.1 hg).1, hc, hm⟩
theorem ownI_cell {w : World} {base n g cap : Nat} {l : List Int} (h : w.ownsRow base 5 1 (.slice (some ⟨g, 0, none⟩) n cap) n (b8s l)) {k : Nat} (hk : k < l.length) :
    w.cell? ⟨g, k, none⟩ = some (.int .u8 (l.getD k 0)) := by
  have := h.cells (g := g) rfl k (.int .u8 (l.getD k 0)) (b8s_at l hk)
  have hadd : (⟨g, 0, none⟩ : Addr).add k = ⟨g, k, none⟩ := by unfold Addr.add; split <;> simp_all
  rw [hadd] at this
  exact this
theorem ownI_frozen {w : World} {base n g cap : Nat} {xs : List Value} (h : w.ownsRow base 5 1 (.slice (some ⟨g, 0, none⟩) n cap) n xs) (k : Nat) : w.frozen? ⟨g, k, none⟩ = false := by
  rcases h.2 with ⟨h1, _⟩ | ⟨g', cap', cur, hv, hb, hg, _⟩
  · cases h1
  · cases hv
    exact Blk.frozen hg k
theorem ownI_set {w : World} {base n g cap : Nat} {l : List Int} (h : w.ownsRow base 5 1 (.slice (some ⟨g, 0, none⟩) n cap) n (b8s l)) (k : Nat) (y : Int) :
    (w.setCell ⟨g, k, none⟩ (.int .u8 y)).ownsRow base 5 1 (.slice (some ⟨g, 0, none⟩) n cap) n (b8s (l.set k y)) := by
  refine ⟨by rw [b8s_length, List.length_set, ← b8s_length]; exact h.1, ?_⟩
  rcases h.2 with ⟨h1, _⟩ | ⟨g', cap', cur, hv, hb, hg, hc, hm, hs, ht⟩
  · cases h1
  · cases hv
    refine Or.inr ⟨g, cap, cur.setIfInBounds k (.int .u8 y), rfl, hb, Blk.set hg k _, hc, hm, by simpa using hs, ?_⟩
    rw [b8s_set, ← ht]
    rw [Array.toList_setIfInBounds, List.take_set]

/-- one number more: the row's first cells stay where they lay -/
theorem run_append_keep {P : Program} (w : World) (base : Nat) (t ty : TypeId) (i : TypeInfo) (z : Value) (ht : P.underlying t = some (.slice 5)) (hi : P.info? 5 = some i) (hz : i.zero = some z)
    (hsize : i.size = 1) (hby : i.bytes = 1) (hzs : z.cells.size = 1)
    (v : Value) (n : Nat) (xs : List Value) (hown : w.ownsRow base 5 1 v n xs) (a : Addr) (x : Value) (hx1 : x.oneCell' = true) (hnews : ∀ j u, [x][j]? = some u → w.cell? (a.add j) = some u)
    (h63 : n + 1 ≤ 17592186044416) (hbase : base ≤ w.heap.size) :
    ∃ v' w', (Builtin.append_ #[t, t] ty #[v, .slice (some a) 1 1]).run P w = .ok v' w' ∧ w'.ownsRow base 5 1 v' (n + 1) (xs ++ [x]) ∧ w.grownBy w' v.ownBlock ∧ (v'.ownBlock = v.ownBlock ∨ v'.ownBlock = some w.heap.size) ∧
      (∀ b, v.ownBlock = some b → ∀ k, k < n → w'.cell? ⟨b, k, none⟩ = w.cell? ⟨b, k, none⟩) := by
  have h1 : ∀ u ∈ [x], u.oneCell' = true := by intro u hu; simp at hu; rw [hu]; exact hx1
  obtain ⟨v', w', hr, h2, h3, _, h5⟩ := run_append_own_at (P := P) w base t ty 5 i z 1 1 ht hi hz hsize hby hzs (by decide) v n xs hown a 1 1 [x] rfl hnews h1 (by unfold maxLen; omega) (by omega) hbase
  refine ⟨v', w', hr, h2, h3, h5, ?_⟩
  intro b hb k hk
  rcases hown.2 with ⟨rfl, _⟩ | ⟨g, cap, cur, hv, hbg, hg, hnc, hcm, hcs, htake⟩
  · cases hb
  · subst hv
    have hbg2 : g = b := by simpa [Value.ownBlock] using hb
    subst hbg2
    have hadd : ∀ k, (⟨g, 0, none⟩ : Addr).add k = ⟨g, k, none⟩ := fun k => by unfold Addr.add; split <;> simp_all
    have hxl : xs.length = n := by have := hown.1; omega
    have hold : w.cell? ⟨g, k, none⟩ = xs[k]? := by
      have := hown.cells (g := g) rfl k xs[k] (List.getElem?_eq_getElem (by omega))
      rw [hadd] at this
      rw [this, List.getElem?_eq_getElem (by omega)]
    by_cases hroom : n + 1 ≤ cap
    · have hfit : n * i.size + [x].length ≤ cur.size := by rw [hsize, hcs]; simp; omega
      have hr2 := run_append_room (P := P) w t ty 5 i ht hi g n cap cur hg a 1 1 [x] (by rw [hsize]; rfl) hnews h1 hroom hfit
      rw [hr] at hr2
      injection hr2 with e1 e2
      subst e1
      have := h2.cells (g := g) rfl k xs[k] (by rw [List.getElem?_append_left (by omega)]; exact List.getElem?_eq_getElem (by omega))
      rw [hadd] at this
      rw [this, hold, List.getElem?_eq_getElem (by omega)]
    · have holds : ∀ j u, xs[j]? = some u → w.cell? ((⟨g, 0, none⟩ : Addr).add j) = some u := hown.cells (g := g) rfl
      have hr2 := run_append_grow (P := P) w t ty 5 i z ht hi hz ⟨g, 0, none⟩ n cap xs (by rw [hsize]; exact hown.1) holds a 1 1 [x] (by rw [hsize]; rfl) hnews (by omega) (by omega) (growslice_fits (by omega) (by rw [hby]; omega))
      rw [hr] at hr2
      injection hr2 with e1 e2
      subst e2
      have hgl : g < w.heap.size := (Array.getElem?_eq_some_iff.1 hg).1
      exact World.cell?_of_block (w := w) (heap_alloc_old w.drew _ hgl)

theorem wpList_append_keep {P : Program} (w : World) {ops : Array Oper} {rest : List Oper} {o : Oper} {a : Act} {Q : Exit → Act → World → Prop} (hgd : o.guard = none) (s x : Operand) (t : TypeId)
    (ho : o.op = .call { callee := .builtin .append, args := #[s, x], argTypes := #[t, t] })
    (base : Nat) (i : TypeInfo) (z : Value) (ht : P.underlying t = some (.slice 5)) (hi : P.info? 5 = some i) (hz : i.zero = some z)
    (hsize : i.size = 1) (hby : i.bytes = 1) (hzs : z.cells.size = 1)
    (v : Value) (n : Nat) (xs : List Value) (hs : a.eval s = v) (hown : w.ownsRow base 5 1 v n xs) (ad : Addr) (y : Value) (hy1 : y.oneCell' = true) (hxv : a.eval x = .slice (some ad) 1 1) (hnews : ∀ j u, [y][j]? = some u → w.cell? (ad.add j) = some u)
    (h63 : n + 1 ≤ 17592186044416) (hbase : base ≤ w.heap.size)
    (h : ∀ v' w', w'.ownsRow base 5 1 v' (n + 1) (xs ++ [y]) → w.grownBy w' v.ownBlock → (v'.ownBlock = v.ownBlock ∨ v'.ownBlock = some w.heap.size) → (∀ b, v.ownBlock = some b → ∀ k, k < n → w'.cell? ⟨b, k, none⟩ = w.cell? ⟨b, k, none⟩) → wpList P ops Q rest (a.put o.dst v') w') :
    wpList P ops Q (o :: rest) a w := by
  refine wpList_plain hgd fun K hK => ?_
  obtain ⟨v', w', hr, h2, h3, h4, h5⟩ := run_append_keep (P := P) w base t o.type i z ht hi hz hsize hby hzs v n xs hown ad y hy1 hnews h63 hbase
  unfold Oper.wp execOp
  simp only [ho, resolve, invoke, builtin, Sem.run_bind, Sem.run_pure, Result.andThen_ok, List.map_toArray, List.map_cons, List.map_nil, hs, hxv, hr]
  exact hK _ _ (h v' w' h2 h3 h4 h5)

/-- The slice v reads as f, for N numbers. -/
def RdB (w : World) (v : Value) (N : Nat) (f : Nat → Int) : Prop :=
  (∃ a cap, v = .slice a N cap) ∧ N ≤ 9223372036854775807 ∧ (N = 0 ∨ ∃ b cap, v = .slice (some ⟨b, 0, none⟩) N cap ∧ b < w.heap.size ∧ ∀ k, k < N → w.cell? ⟨b, k, none⟩ = some (.int .u8 (f k)))
theorem RdB.kept {F : List Nat} {w w' : World} {v : Value} {N : Nat} {f : Nat → Int} (h : RdB w v N f) (hk : Kept F w w') (hn : ∀ b, v.ownBlock = some b → b ∉ F) : RdB w' v N f := by
  refine ⟨h.1, h.2.1, ?_⟩
  rcases h.2.2 with h0 | ⟨b, cap, hv, hb, hc⟩
  · exact Or.inl h0
  · refine Or.inr ⟨b, cap, hv, Nat.lt_of_lt_of_le hb hk.size, fun k hk' => ?_⟩
    rw [hk.cell (p := ⟨b, k, none⟩) hb (hn b (by rw [hv]; rfl))]
    exact hc k hk'
theorem RdB.of_own {w : World} {base : Nat} {v : Value} {l : List Int} {N : Nat} (hl : l.length = N) (h : w.ownsRow base 5 1 v N (b8s l)) {f : Nat → Int} (hf : ∀ k, k < N → l.getD k 0 = f k) : RdB w v N f := by
  rcases h.2 with ⟨hv, h0⟩ | ⟨g, cap, cur, hv, hb, hg, hc, hm, _⟩
  · exact ⟨⟨none, 0, by rw [hv, h0]⟩, by omega, Or.inl h0⟩
  · refine ⟨⟨_, _, hv⟩, by unfold maxLen at hm; omega, Or.inr ⟨g, cap, hv, (Array.getElem?_eq_some_iff.1 hg).1, fun k hk => ?_⟩⟩
    subst hv
    rw [ownI_cell h (by omega), hf k hk]
theorem RdB.cell {w : World} {v : Value} {N : Nat} {f : Nat → Int} (h : RdB w v N f) {k : Nat} (hk : k < N) : ∃ b cap, v = .slice (some ⟨b, 0, none⟩) N cap ∧ b < w.heap.size ∧ w.cell? ⟨b, k, none⟩ = some (.int .u8 (f k)) := by
  rcases h.2.2 with h0 | ⟨b, cap, hv, hb, hc⟩
  · omega
  · exact ⟨b, cap, hv, hb, hc k hk⟩
end Go.Proofs.Ytiabhgkndejigaa

namespace Go.Proofs.Ytiabhgkndejigaa
open Go.RowKit

theorem sees2 (w : World) (x y : Nat) : Sees (w.alloc (.cells #[.int .u8 (x : Int), .int .u8 (y : Int)] 5)) (.slice (some ⟨w.heap.size, 0, none⟩) 2 2) [x, y] := by
  refine Or.inr ⟨w.heap.size, 0, 2, rfl, by simp, by unfold maxLen; omega, by simp, fun j hj => ?_⟩
  rw [(Blk.new w _ _).cell]
  match j, hj with
  | 0, _ => rfl
  | 1, _ => rfl

set_option maxRecDepth 100000 in
set_option maxHeartbeats 1000000 in
theorem lent_any {w : World} {x : Value} {P : List Nat} (h : Wide w x P) (hl : P.length ≤ 140737488355326) :
    Calls Try.prog 14 #[x] w fun e w' => ∃ g cap, e = .returned (.slice (some ⟨g, 0, none⟩) P.length cap) ∧ P.length + 2 ≤ cap ∧ w'.ownsRow w.heap.size 5 1 (.slice (some ⟨g, 0, none⟩) (P.length + 2) cap) (P.length + 2) (u8s (P ++ [201, 77])) ∧ Kept [] w w' := by
  obtain ⟨i0, hi, hz0, hz1, hz2⟩ := info_parts Try.info5
  have HP := hide h
  obtain ⟨pa, pc, rfl⟩ := wide_len h
  clear h
  obtain ⟨n, hn⟩ : ∃ n, n = P.length := ⟨_, rfl⟩
  rw [← hn] at hl HP ⊢
  have HN := hide hn
  clear hn
  go_enter Try.func14, Try.ntmps14
  go_wp2_with (at_builtin; refine wpList_append_wide _ rfl _ _ 25 rfl w.heap.size 5 i0 (.int .u8 0) Try.underlying25 hi hz0 hz1 hz2 rfl _ [] rfl (World.ownsRow_made w #[] 0 (Nat.le_refl _) (Nat.zero_le _) rfl) _ P rfl ((unhide HP).kept ((Kept.refl [] w).alloc _)) ?c1 ?c2 ?_)
  case c1 => have := unhide HN; simp; omega
  case c2 => simp
  intro v1 w1 hown hg hat
  have hk1 : Kept [] w w1 := ((Kept.refl [] w).alloc _).grown hg (fun k hk => by simp [Value.ownBlock] at hk; right; omega)
  rw [← unhide HN] at hown
  obtain ⟨a1, c1, hv⟩ := own_len hown
  subst hv
  have HO1 := hide hown
  have HK1 := hide hk1
  clear hown hg hat hk1
  have hs1 : w.heap.size ≤ w1.heap.size := (unhide HK1).size
  go_wp2_with (at_builtin; refine wpList_append_sees _ rfl _ _ 25 rfl w.heap.size 5 i0 (.int .u8 0) Try.underlying25 hi hz0 hz1 hz2 rfl _ P rfl (by rw [← unhide HN]; exact (unhide HO1).alloc _) _ [201, 77] rfl (sees2 w1 201 77) ?c3 ?c4 ?_)
  case c3 => have := unhide HN; simp; omega
  case c4 => simp; omega
  intro v2 w2 hown hg hat
  have hk2 : Kept [] w w2 := ((unhide HK1).alloc _).grown hg (fun k hk => by have := ((unhide HO1).lt k hk).1; right; exact this)
  rw [← unhide HN] at hown
  obtain ⟨g, c, hv, -, hgl, hgc, hcm⟩ : ∃ g cap, v2 = .slice (some ⟨g, 0, none⟩) (n + 2) cap ∧ w.heap.size ≤ g ∧ g < w2.heap.size ∧ n + 2 ≤ cap ∧ cap ≤ maxLen := by
    rcases hown.2 with ⟨_, h2⟩ | ⟨g, cap, cur, hv, hb, hg, hc, hm, _⟩
    · omega
    · exact ⟨g, cap, hv, hb, (Array.getElem?_eq_some_iff.1 hg).1, hc, hm⟩
  subst hv
  have HO2 := hide hown
  have HK2 := hide hk2
  have hnc : n ≤ c := by omega
  have hcm' : c ≤ 9223372036854775807 := by unfold maxLen at hcm; omega
  clear hown hg hat hk2 hcm
  go_wp2
  go_ret
  exact ⟨g, c, rfl, hgc, unhide HO2, unhide HK2⟩

set_option maxRecDepth 100000 in
set_option maxHeartbeats 1000000 in
theorem kept_yes {w : World} {g cap n : Nat} {y : Value} {P : List Nat} (hn : n = P.length) (hl : n ≤ 140737488355326) (hc : n + 2 ≤ cap) (h1 : Sees w (.slice (some ⟨g, 0, none⟩) n cap) P) (h2 : Wide w y P) (q1 : w.cell? ⟨g, n, none⟩ = some (.int .u8 201)) (q2 : w.cell? ⟨g, n + 1, none⟩ = some (.int .u8 77)) :
    Calls Try.prog 16 #[.slice (some ⟨g, 0, none⟩) n cap, y] w fun e w' => e = .returned (.bool true) ∧ ∃ m, w' = w.drewN m := by
  have HS := hide (same_yesE h1 h2 (by omega))
  obtain ⟨ya, yc, rfl⟩ := wide_len h2
  have HN := hide hn
  rw [← hn] at HS ⊢
  clear h1 h2 hn
  have hc1 : n ≤ cap := by omega
  have hc2 : n + 1 < n + 2 := by omega
  have hc3 : n < n + 2 := by omega
  go_enter Try.func16, Try.ntmps16
  go_wp2_with (first | (go_at_call 22; refine (unhide HS).mono ?_; rintro e w' ⟨rfl, m, rfl⟩))
  go_ret
  exact ⟨rfl, m, rfl⟩

/-- Bytes turned. -/
def turn (P : List Nat) : List Nat := P.map fun x => 255 - x
theorem turn_len (P : List Nat) : (turn P).length = P.length := by simp [turn]
theorem xor255 (x : Nat) (h : x < 256) : bits .xor .u8 (x : Int) 255 = ((255 - x : Nat) : Int) := by
  have : ∀ m : Nat, m < 256 → bits .xor .u8 (m : Int) 255 = ((255 - m : Nat) : Int) := by decide +kernel
  exact this x h

set_option maxRecDepth 100000 in
set_option maxHeartbeats 1000000 in
theorem spoil_any {w : World} {base g cap n : Nat} {P : List Nat} (hb : ∀ x ∈ P, x < 256) (hl : n ≤ 140737488355328) (h : w.ownsRow base 5 1 (.slice (some ⟨g, 0, none⟩) n cap) n (u8s P)) :
    Calls Try.prog 17 #[.slice (some ⟨g, 0, none⟩) n cap] w fun e w' => e = .returned (.tuple #[]) ∧ w'.ownsRow base 5 1 (.slice (some ⟨g, 0, none⟩) n cap) n (u8s (turn P)) ∧ Kept [g] w w' := by
  have hPl : P.length = n := by have := h.1; rw [u8s_length] at this; omega
  have HPL := hide hPl
  have HB := hide hb
  have HO := hide h
  have conv : ∀ l : List Nat, u8s l = b8s (l.map fun x : Nat => (x : Int)) := fun l => by simp [u8s, b8s]
  have HCV := hide conv
  clear h hb hPl conv
  go_enter Try.func17, Try.ntmps17
  go_wp2
  go_loopw [2] (fun i wr => ∃ (k : Nat), k ≤ n ∧ i = .int .i64 k ∧ Hid (wr.ownsRow base 5 1 (.slice (some ⟨g, 0, none⟩) n cap) n (u8s (turn (P.take k) ++ P.drop k)) ∧ Kept [g] w wr)) (fun i _ => n - (intOf i).toNat)
  case atStart => exact ⟨0, by omega, rfl, hide ⟨by simpa [turn] using unhide HO, Kept.refl _ _⟩⟩
  case round =>
    clear HO
    obtain ⟨k, hk, rfl, HI⟩ := hrel
    by_cases hlt : k < n
    · have hkl : k < P.length := by rw [unhide HPL]; exact hlt
      have hx : P[k] < 256 := unhide HB _ (List.getElem_mem hkl)
      have ho := (unhide HI).1
      rw [unhide HCV] at ho
      have hc := ownI_cell ho (k := k) (by simp [turn]; omega)
      have hgd : ((turn (P.take k) ++ P.drop k).map fun x : Nat => (x : Int)).getD k 0 = ((P[k] : Nat) : Int) := by
        have e1 : (turn (P.take k)).length = k := by rw [turn_len]; simp; omega
        have e2 : (turn (P.take k) ++ P.drop k)[k]? = some P[k] := by
          rw [List.getElem?_append_right (by omega), e1, Nat.sub_self, List.getElem?_drop, Nat.add_zero]
          exact List.getElem?_eq_getElem hkl
        rw [List.getD, List.getElem?_map, e2]; rfl
      rw [hgd] at hc
      have hf := ownI_frozen ho k
      have hset := ownI_set ho k ((255 - P[k] : Nat) : Int)
      have hlist : ((turn (P.take k) ++ P.drop k).map fun x : Nat => (x : Int)).set k ((255 - P[k] : Nat) : Int) = (turn (P.take (k + 1)) ++ P.drop (k + 1)).map fun x : Nat => (x : Int) := by
        have e1 : (turn (P.take k)).length = k := by rw [turn_len]; simp; omega
        have e3 : P.drop k = P[k] :: P.drop (k + 1) := (List.getElem_cons_drop hkl).symm
        have e4 : turn (P.take (k + 1)) = turn (P.take k) ++ [255 - P[k]] := by rw [List.take_succ_eq_append_getElem hkl, turn, List.map_append]; rfl
        rw [e3, e4, List.map_append, List.set_append_right _ _ (by rw [List.length_map]; omega), List.length_map, e1, Nat.sub_self]
        simp only [List.map_cons, List.set_cons_zero, List.map_append, List.append_assoc, List.cons_append, List.nil_append]
      rw [hlist, ← unhide HCV] at hset
      have hxr := xor255 P[k] hx
      have HST := hide hset
      have HKI := hide (unhide HI).2
      clear ho hgd hset hlist HI
      generalize P[k] = x at *
      generalize hy : 255 - x = y at *
      clear hy
      go_wp2
      go_roundw
      case rel => exact ⟨k + 1, by omega, by go_num, hide ⟨unhide HST, (unhide HKI).setCell (Or.inl (by simp)) _⟩⟩
      case measure => simp [intOf]; omega
    · have hk2 : k = n := by omega
      subst hk2
      go_wp2
      go_end0
      have h9 := unhide HI
      rw [← unhide HPL, List.take_length, List.drop_length, List.append_nil] at h9
      rw [unhide HPL] at h9
      exact ⟨rfl, h9⟩

set_option maxRecDepth 100000 in
set_option maxHeartbeats 1000000 in
theorem spoil_new {w : World} {base : Nat} {a : Option Addr} {cap n : Nat} {P : List Nat} (hb : ∀ x ∈ P, x < 256) (hl : n ≤ 140737488355328) (h : w.ownsRow base 5 1 (.slice a n cap) n (u8s P)) :
    Calls Try.prog 17 #[.slice a n cap] w fun e w' => e = .returned (.tuple #[]) ∧ Kept (Value.slice a n cap).ownBlock.toList w w' := by
  rcases h.2 with ⟨e1, e2⟩ | ⟨g, cap', cur, e1, hg⟩
  · cases e1
    go_enter Try.func17, Try.ntmps17
    go_wp2
    go_loop [2] (fun i => i = .int .i64 0) (fun _ => 0)
    case atStart => rfl
    case round =>
      obtain rfl := hrel
      go_wp2
      go_end0
      exact ⟨rfl, Kept.refl _ _⟩
  · cases e1
    refine (spoil_any hb hl h).mono ?_
    rintro e w' ⟨rfl, _, hk⟩
    exact ⟨rfl, hk⟩
end Go.Proofs.Ytiabhgkndejigaa

namespace Go.Proofs.Ytiabhgkndejigaa
open Go.RowKit

def pt (o : Option Nat) : Value := .pointer (o.map fun b => ⟨b, 0, none⟩)
/-- A reader (none at all is as one with the fault 1). -/
def Rh (w : World) (o : Option Nat) (F : List Nat) (s : RS) : Prop := match o with
  | some b => Rs w b F s
  | none => F = [] ∧ s = rF 1
def Qh (w : World) (o : Option Nat) (F : List Nat) (s : RS) : Prop := match o with
  | some b => Qs w b F s
  | none => F = [] ∧ s = rF 1
def RhP (w : World) (o : Option Nat) (F : List Nat) (s' : RS) (w' : World) : Prop := ∃ F', Rh w' o F' s' ∧ Kept F w w' ∧ ∀ x ∈ F', x ∈ F ∨ w.heap.size ≤ x
def QhP (w : World) (o : Option Nat) (F : List Nat) (s' : RS) (w' : World) : Prop := ∃ F', Qh w' o F' s' ∧ Kept F w w' ∧ ∀ x ∈ F', x ∈ F ∨ w.heap.size ≤ x
theorem Rh.lt {w : World} {o : Option Nat} {F : List Nat} {s : RS} (h : Rh w o F s) : ∀ x ∈ F, x < w.heap.size := by
  cases o with
  | none => obtain ⟨rfl, _⟩ := h; simp
  | some b => exact Rs.lt h
theorem Qh.lt {w : World} {o : Option Nat} {F : List Nat} {s : RS} (h : Qh w o F s) : ∀ x ∈ F, x < w.heap.size := by
  cases o with
  | none => obtain ⟨rfl, _⟩ := h; simp
  | some b => exact Qs.lt h
theorem Rh.kept {G : List Nat} {w w' : World} {o : Option Nat} {F : List Nat} {s : RS} (h : Rh w o F s) (k : Kept G w w') (hF : ∀ x ∈ F, x ∉ G) : Rh w' o F s := by
  cases o with
  | none => exact h
  | some b => exact Rs.kept h k hF
theorem Qh.kept {G : List Nat} {w w' : World} {o : Option Nat} {F : List Nat} {s : RS} (h : Qh w o F s) (k : Kept G w w') (hF : ∀ x ∈ F, x ∉ G) : Qh w' o F s := by
  cases o with
  | none => exact h
  | some b => exact Qs.kept h k hF
theorem RhP.none {w w' : World} (k : Kept [] w w') : RhP w none [] (rF 1) w' := ⟨[], ⟨rfl, rfl⟩, k, by simp⟩
theorem QhP.none {w w' : World} (k : Kept [] w w') : QhP w none [] (rF 1) w' := ⟨[], ⟨rfl, rfl⟩, k, by simp⟩

theorem rbyte_h {w : World} {o : Option Nat} {F : List Nat} {s : RS} (h : Rh w o F s) :
    Calls Try.prog 25 #[pt o] w fun e w' => e = .returned (.int .i64 ((rByte s).2 : Nat)) ∧ RhP w o F ((rByte s).1) w' := by
  cases o with
  | some b => exact rbyte_s h
  | none =>
    obtain ⟨rfl, rfl⟩ := h
    refine (rbyte_nil w).mono ?_
    rintro e w' ⟨rfl, hk⟩
    exact ⟨rfl, RhP.none hk⟩
theorem rfixed_h {w : World} {o : Option Nat} {F : List Nat} {s : RS} (h : Rh w o F s) (n : Int) :
    Calls Try.prog 59 #[pt o, .int .i64 n] w fun e w' => e = .returned (.int .u64 ((rFixed s n).2 : Nat)) ∧ RhP w o F ((rFixed s n).1) w' := by
  cases o with
  | some b => exact rfixed_s h n
  | none =>
    obtain ⟨rfl, rfl⟩ := h
    refine (rfixed_nil w n).mono ?_
    rintro e w' ⟨rfl, hk⟩
    exact ⟨rfl, RhP.none hk⟩
theorem rnum_h {w : World} {o : Option Nat} {F : List Nat} {s : RS} (h : Rh w o F s) :
    Calls Try.prog 23 #[pt o] w fun e w' => e = .returned (.int .u64 ((rNum s).2 : Nat)) ∧ RhP w o F ((rNum s).1) w' := by
  cases o with
  | some b => exact rnum_s h
  | none =>
    obtain ⟨rfl, rfl⟩ := h
    refine (rnum_nil w).mono ?_
    rintro e w' ⟨rfl, hk⟩
    exact ⟨rfl, RhP.none hk⟩
theorem rint_h {w : World} {o : Option Nat} {F : List Nat} {s : RS} (h : Rh w o F s) :
    Calls Try.prog 28 #[pt o] w fun e w' => e = .returned (.int .i64 (rInt s).2) ∧ RhP w o F ((rInt s).1) w' := by
  cases o with
  | some b => exact rint_s h
  | none =>
    obtain ⟨rfl, rfl⟩ := h
    refine (rint_nil w).mono ?_
    rintro e w' ⟨rfl, hk⟩
    exact ⟨ret_int (show (0 : Int) = unfoldN 0 by decide), RhP.none hk⟩
theorem rreal_h {w : World} {o : Option Nat} {F : List Nat} {s : RS} (h : Rh w o F s) :
    Calls Try.prog 31 #[pt o] w fun e w' => e = .returned (.float .f64 (rReal s).2) ∧ RhP w o F ((rReal s).1) w' := by
  cases o with
  | some b => exact rreal_s h
  | none =>
    obtain ⟨rfl, rfl⟩ := h
    refine (rreal_nil w).mono ?_
    rintro e w' ⟨rfl, hk⟩
    exact ⟨rfl, RhP.none hk⟩
theorem renter_h {w : World} {o : Option Nat} {F : List Nat} {s : RS} (h : Rh w o F s) :
    Calls Try.prog 68 #[pt o] w fun e w' => e = .returned (.int .i64 ((rEnter s).2 : Nat)) ∧ RhP w o F ((rEnter s).1) w' := by
  cases o with
  | some b => exact renter_s h
  | none =>
    obtain ⟨rfl, rfl⟩ := h
    refine (renter_nil w).mono ?_
    rintro e w' ⟨rfl, hk⟩
    exact ⟨rfl, RhP.none hk⟩
theorem rleave_h {w : World} {o : Option Nat} {F : List Nat} {s : RS} (h : Rh w o F s) :
    Calls Try.prog 70 #[pt o] w fun e w' => e = .returned (.tuple #[]) ∧ RhP w o F (rLeave s) w' := by
  cases o with
  | some b => exact rleave_s h
  | none =>
    obtain ⟨rfl, rfl⟩ := h
    refine (rleave_nil w).mono ?_
    rintro e w' ⟨rfl, hk⟩
    exact ⟨rfl, RhP.none hk⟩
theorem rraw_h {w : World} {o : Option Nat} {F : List Nat} {s : RS} (h : Rh w o F s) (n : Int) (hn9 : n ≤ 9223372036854775807) :
    Calls Try.prog 64 #[pt o, .int .i64 n] w fun e w' => NewB w (rRaw s n).2 e w' ∧ RhP w o F (rRaw s n).1 w' := by
  cases o with
  | some b => exact rraw_s h n hn9
  | none =>
    obtain ⟨rfl, rfl⟩ := h
    refine (rraw_nil w n).mono ?_
    rintro e w' ⟨rfl, hk⟩
    exact ⟨NewB.nil _ _, RhP.none hk⟩
theorem rtext_h {w : World} {o : Option Nat} {F : List Nat} {s : RS} (h : Rh w o F s) (n : Int) (hn9 : n ≤ 9223372036854775807) :
    Calls Try.prog 66 #[pt o, .int .i64 n] w fun e w' => NewB w (rText s n).2 e w' ∧ RhP w o F (rText s n).1 w' := by
  cases o with
  | some b => exact rtext_s h n hn9
  | none =>
    obtain ⟨rfl, rfl⟩ := h
    refine (rtext_nil w n).mono ?_
    rintro e w' ⟨rfl, hk⟩
    exact ⟨NewB.nil _ _, RhP.none hk⟩
theorem rrest_h {w : World} {o : Option Nat} {F : List Nat} {s : RS} (h : Rh w o F s) :
    Calls Try.prog 24 #[pt o] w fun e w' => e = .returned (.int .i64 (rRest s : Nat)) ∧ Kept [] w w' := by
  cases o with
  | some b =>
    refine (rrest_s h).mono ?_
    rintro e w' ⟨rfl, hk⟩
    subst hk
    exact ⟨rfl, Kept.refl [] _⟩
  | none =>
    obtain ⟨rfl, rfl⟩ := h
    refine (rest_nil w).mono ?_
    rintro e w' ⟨rfl, hk⟩
    subst hk
    exact ⟨rfl, Kept.refl [] _⟩
theorem rdone_h {w : World} {o : Option Nat} {F : List Nat} {s : RS} (h : Rh w o F s) :
    Calls Try.prog 20 #[pt o] w fun e w' => e = .returned (.int .i64 (rDone s : Nat)) ∧ Kept [] w w' := by
  cases o with
  | some b =>
    refine (rdone_s h).mono ?_
    rintro e w' ⟨rfl, hk⟩
    subst hk
    exact ⟨rfl, Kept.refl [] _⟩
  | none =>
    obtain ⟨rfl, rfl⟩ := h
    refine (rdone_nil w).mono ?_
    rintro e w' ⟨rfl, hk⟩
    subst hk
    exact ⟨rfl, Kept.refl [] _⟩
theorem qbyte_h {w : World} {o : Option Nat} {F : List Nat} {s : RS} (h : Qh w o F s) :
    Calls Try.prog 57 #[pt o] w fun e w' => e = .returned (.int .i64 ((rByte s).2 : Nat)) ∧ QhP w o F ((rByte s).1) w' := by
  cases o with
  | some b => exact qbyte_s h
  | none =>
    obtain ⟨rfl, rfl⟩ := h
    refine (qbyte_nil w).mono ?_
    rintro e w' ⟨rfl, hk⟩
    exact ⟨rfl, QhP.none (by subst hk; exact Kept.refl [] _)⟩
theorem qfixed_h {w : World} {o : Option Nat} {F : List Nat} {s : RS} (h : Qh w o F s) (n : Int) :
    Calls Try.prog 58 #[pt o, .int .i64 n] w fun e w' => e = .returned (.int .u64 ((rFixed s n).2 : Nat)) ∧ QhP w o F ((rFixed s n).1) w' := by
  cases o with
  | some b => exact qfixed_s h n
  | none =>
    obtain ⟨rfl, rfl⟩ := h
    refine (qfixed_nil w n).mono ?_
    rintro e w' ⟨rfl, hk⟩
    exact ⟨rfl, QhP.none (by subst hk; exact Kept.refl [] _)⟩
theorem qnum_h {w : World} {o : Option Nat} {F : List Nat} {s : RS} (h : Qh w o F s) :
    Calls Try.prog 60 #[pt o] w fun e w' => e = .returned (.int .u64 ((rNum s).2 : Nat)) ∧ QhP w o F ((rNum s).1) w' := by
  cases o with
  | some b => exact qnum_s h
  | none =>
    obtain ⟨rfl, rfl⟩ := h
    refine (qnum_nil w).mono ?_
    rintro e w' ⟨rfl, hk⟩
    exact ⟨rfl, QhP.none (by subst hk; exact Kept.refl [] _)⟩
theorem qint_h {w : World} {o : Option Nat} {F : List Nat} {s : RS} (h : Qh w o F s) :
    Calls Try.prog 61 #[pt o] w fun e w' => e = .returned (.int .i64 (rInt s).2) ∧ QhP w o F ((rInt s).1) w' := by
  cases o with
  | some b => exact qint_s h
  | none =>
    obtain ⟨rfl, rfl⟩ := h
    refine (qint_nil w).mono ?_
    rintro e w' ⟨rfl, hk⟩
    exact ⟨ret_int (show (0 : Int) = unfoldN 0 by decide), QhP.none (by subst hk; exact Kept.refl [] _)⟩
theorem qreal_h {w : World} {o : Option Nat} {F : List Nat} {s : RS} (h : Qh w o F s) :
    Calls Try.prog 62 #[pt o] w fun e w' => e = .returned (.int .u64 ((rReal s).2 : Nat)) ∧ QhP w o F ((rReal s).1) w' := by
  cases o with
  | some b => exact qreal_s h
  | none =>
    obtain ⟨rfl, rfl⟩ := h
    refine (qreal_nil w).mono ?_
    rintro e w' ⟨rfl, hk⟩
    exact ⟨rfl, QhP.none (by subst hk; exact Kept.refl [] _)⟩
theorem qenter_h {w : World} {o : Option Nat} {F : List Nat} {s : RS} (h : Qh w o F s) :
    Calls Try.prog 67 #[pt o] w fun e w' => e = .returned (.int .i64 ((rEnter s).2 : Nat)) ∧ QhP w o F ((rEnter s).1) w' := by
  cases o with
  | some b => exact qenter_s h
  | none =>
    obtain ⟨rfl, rfl⟩ := h
    refine (qenter_nil w).mono ?_
    rintro e w' ⟨rfl, hk⟩
    exact ⟨rfl, QhP.none (by subst hk; exact Kept.refl [] _)⟩
theorem qleave_h {w : World} {o : Option Nat} {F : List Nat} {s : RS} (h : Qh w o F s) :
    Calls Try.prog 69 #[pt o] w fun e w' => e = .returned (.tuple #[]) ∧ QhP w o F (rLeave s) w' := by
  cases o with
  | some b => exact qleave_s h
  | none =>
    obtain ⟨rfl, rfl⟩ := h
    refine (qleave_nil w).mono ?_
    rintro e w' ⟨rfl, hk⟩
    exact ⟨rfl, QhP.none (by subst hk; exact Kept.refl [] _)⟩
theorem qraw_h {w : World} {o : Option Nat} {F : List Nat} {s : RS} (h : Qh w o F s) (n : Int) (_hn9 : n ≤ 9223372036854775807) :
    Calls Try.prog 63 #[pt o, .int .i64 n] w fun e w' => NewB w (rRaw s n).2 e w' ∧ QhP w o F (rRaw s n).1 w' := by
  cases o with
  | some b => exact qraw_s h n
  | none =>
    obtain ⟨rfl, rfl⟩ := h
    refine (qraw_nil w n).mono ?_
    rintro e w' ⟨rfl, hk⟩
    exact ⟨NewB.nil _ _, QhP.none (by subst hk; exact Kept.refl [] _)⟩
theorem qtext_h {w : World} {o : Option Nat} {F : List Nat} {s : RS} (h : Qh w o F s) (n : Int) (hn9 : n ≤ 9223372036854775807) :
    Calls Try.prog 65 #[pt o, .int .i64 n] w fun e w' => NewB w (rText s n).2 e w' ∧ QhP w o F (rText s n).1 w' := by
  cases o with
  | some b => exact qtext_s h n hn9
  | none =>
    obtain ⟨rfl, rfl⟩ := h
    refine (qtext_nil w n).mono ?_
    rintro e w' ⟨rfl, hk⟩
    exact ⟨NewB.nil _ _, QhP.none (by subst hk; exact Kept.refl [] _)⟩
theorem qrest_h {w : World} {o : Option Nat} {F : List Nat} {s : RS} (h : Qh w o F s) :
    Calls Try.prog 71 #[pt o] w fun e w' => e = .returned (.int .i64 (rRest s : Nat)) ∧ Kept [] w w' := by
  cases o with
  | some b => exact qrest_s h
  | none =>
    obtain ⟨rfl, rfl⟩ := h
    refine (qrest_nil w).mono ?_
    rintro e w' ⟨rfl, hk⟩
    subst hk
    exact ⟨rfl, Kept.refl [] _⟩
theorem qdone_h {w : World} {o : Option Nat} {F : List Nat} {s : RS} (h : Qh w o F s) :
    Calls Try.prog 72 #[pt o] w fun e w' => e = .returned (.int .i64 (rDone s : Nat)) ∧ Kept [] w w' := by
  cases o with
  | some b => exact qdone_s h
  | none =>
    obtain ⟨rfl, rfl⟩ := h
    refine (qdone_nil w).mono ?_
    rintro e w' ⟨rfl, hk⟩
    subst hk
    exact ⟨rfl, Kept.refl [] _⟩

/-- One state on both sides, the blocks apart. -/
structure Two (w : World) (o q : Option Nat) (F G : List Nat) (s : RS) : Prop where
  r : Rh w o F s
  m : Qh w q G s
  ap : ∀ x ∈ F, x ∉ G
/-- Behind a step of both. -/
def TwoP (w : World) (o q : Option Nat) (F G : List Nat) (w' : World) : Prop := ∃ F' G' s', Two w' o q F' G' s' ∧ Kept (F ++ G) w w' ∧ (∀ x ∈ F', x ∈ F ∨ w.heap.size ≤ x) ∧ ∀ x ∈ G', x ∈ G ∨ w.heap.size ≤ x
theorem Two.kept {K : List Nat} {w w' : World} {o q : Option Nat} {F G : List Nat} {s : RS} (h : Two w o q F G s) (k : Kept K w w') (h1 : ∀ x ∈ F, x ∉ K) (h2 : ∀ x ∈ G, x ∉ K) : Two w' o q F G s := ⟨h.r.kept k h1, h.m.kept k h2, h.ap⟩
theorem Two.behind {w w1 : World} {o q : Option Nat} {F G : List Nat} {s s' : RS} (h : Two w o q F G s) (hq : QhP w q G s' w1) : Rh w1 o F s := by
  obtain ⟨G', h1, h2, h3⟩ := hq
  exact h.r.kept h2 h.ap
theorem Two.step {w w1 w2 : World} {o q : Option Nat} {F G : List Nat} {s s' : RS} (h : Two w o q F G s) (hq : QhP w q G s' w1) (hr : RhP w1 o F s' w2) : TwoP w o q F G w2 := by
  obtain ⟨G', h1, h2, h3⟩ := hq
  obtain ⟨F', g1, g2, g3⟩ := hr
  have hs := h2.size
  have hGF : ∀ x ∈ G', x ∉ F := by
    intro x hx hf
    rcases h3 x hx with h4 | h4
    · exact h.ap x hf h4
    · have := h.r.lt x hf; omega
  refine ⟨F', G', s', ⟨g1, h1.kept g2 hGF, fun x hx hg => ?_⟩, ?_, fun x hx => ?_, h3⟩
  · rcases g3 x hx with h5 | h5
    · exact hGF x hg h5
    · have := h1.lt x hg; omega
  · exact (h2.mono (fun x hx => Or.inl (by simp [hx]))).trans g2 (fun x hx => Or.inl (by simp [hx]))
  · rcases g3 x hx with h5 | h5
    · exact Or.inl h5
    · right; omega
theorem TwoP.from {w W w' : World} {o q : Option Nat} {F G : List Nat} (k : Kept [] w W) (h : TwoP W o q F G w') : TwoP w o q F G w' := by
  obtain ⟨F', G', s', h1, h2, h3, h4⟩ := h
  have := k.size
  refine ⟨F', G', s', h1, (k.mono (by simp)).trans h2 (fun x hx => Or.inl hx), fun x hx => ?_, fun x hx => ?_⟩
  · rcases h3 x hx with h | h
    · exact Or.inl h
    · right; omega
  · rcases h4 x hx with h | h
    · exact Or.inl h
    · right; omega
theorem TwoP.behind {w W w' : World} {o q : Option Nat} {F G K : List Nat} (h : TwoP w o q F G W) (k : Kept K W w') (hK : ∀ x ∈ K, w.heap.size ≤ x ∧ ∀ (F' G' : List Nat) (s' : RS), Two W o q F' G' s' → (∀ y ∈ F', y ∈ F ∨ w.heap.size ≤ y) → (∀ y ∈ G', y ∈ G ∨ w.heap.size ≤ y) → x ∉ F' ∧ x ∉ G') : TwoP w o q F G w' := by
  obtain ⟨F', G', s', h1, h2, h3, h4⟩ := h
  refine ⟨F', G', s', h1.kept k (fun x hx hk => ((hK x hk).2 F' G' s' h1 h3 h4).1 hx) (fun x hx hk => ((hK x hk).2 F' G' s' h1 h3 h4).2 hx), h2.trans k (fun x hx => Or.inr (hK x hx).1), h3, h4⟩
theorem TwoP.same {w w' : World} {o q : Option Nat} {F G : List Nat} {s : RS} (h : Two w o q F G s) (k : Kept [] w w') : TwoP w o q F G w' := ⟨F, G, s, h.kept k (by simp) (by simp), k.mono (by simp), fun _ hx => Or.inl hx, fun _ hx => Or.inl hx⟩
end Go.Proofs.Ytiabhgkndejigaa

namespace Go.Proofs.Ytiabhgkndejigaa
open Go.RowKit

theorem rraw_new {w : World} {b : Nat} {F : List Nat} {s : RS} (h : Rs w b F s) (hf : s.fault = 0) (m : Nat) (hm : m ≤ s.left.length) :
    Calls Try.prog 64 #[.pointer (some ⟨b, 0, none⟩), .int .i64 (m : Int)] w fun e w' => ∃ a cap, e = .returned (.slice a m cap) ∧ w'.ownsRow w.heap.size 5 1 (.slice a m cap) m (u8s (s.left.take m)) ∧ Rs w' b F ⟨0, s.left.drop m, s.behind⟩ ∧ Kept F w w' := by
  have h0 := h
  rcases h with ⟨h1, _⟩ | ⟨h1, h3, h4, lv, bv, hs, D, h2, rfl⟩
  · exact absurd hf h1
  · refine (rraw_ok h2.rd m (by omega)).mono ?_
    rintro e w' ⟨a, cap, rfl, ho, hr, hk⟩
    have htl : (s.left.take m).length = m := by simp; omega
    rw [htl] at ho
    obtain ⟨lv', r1, r2⟩ := hr
    refine ⟨a, cap, rfl, ho, Or.inr ⟨rfl, fun y hy => h3 y (List.mem_of_mem_drop hy), h4, lv', bv, hs, D, h2.step r1 r2 hk, rfl⟩, hk.mono (fun x hx => Or.inl (by simp at hx; subst hx; exact h0.mem))⟩

theorem rtext_new {w : World} {b : Nat} {F : List Nat} {s : RS} (h : Rs w b F s) (hf : s.fault = 0) (n most : Nat) (r : List Nat) (hr : readNum 0 0 s.left = .inr (n, r)) (hm : n ≤ most) (hm9 : most ≤ 9223372036854775807) (hn : n ≤ r.length) :
    Calls Try.prog 66 #[.pointer (some ⟨b, 0, none⟩), .int .i64 (most : Int)] w fun e w' => ∃ a cap, e = .returned (.slice a n cap) ∧ w'.ownsRow w.heap.size 5 1 (.slice a n cap) n (u8s (r.take n)) ∧ Rs w' b F ⟨0, r.drop n, s.behind⟩ ∧ Kept F w w' := by
  have h0 := h
  rcases h with ⟨h1, _⟩ | ⟨h1, h3, h4, lv, bv, hs, D, h2, rfl⟩
  · exact absurd hf h1
  · refine (rtext_ok h2.rd h3 n most (by omega) hr (by omega) hn).mono ?_
    rintro e w' ⟨a, cap, rfl, ho, hrd, hk⟩
    have htl : (r.take n).length = n := by simp; omega
    rw [htl] at ho
    obtain ⟨lv', r1, r2⟩ := hrd
    refine ⟨a, cap, rfl, ho, Or.inr ⟨rfl, fun y hy => (readNum_lt _ 0 0 (by omega) (by simp) h3 hr).2.1 y (List.mem_of_mem_drop hy), h4, lv', bv, hs, D, h2.step r1 r2 hk, rfl⟩, hk.mono (fun x hx => Or.inl (by simp at hx; subst hx; exact h0.mem))⟩


set_option maxRecDepth 100000 in
set_option maxHeartbeats 1000000 in
theorem spoilB {w : World} {base : Nat} {a : Option Addr} {cap n : Nat} {l : List Nat} (hn : l.length = n) (hb : ∀ x ∈ l, x < 256) (hl : n ≤ 140737488355328) (h : w.ownsRow base 5 1 (.slice a n cap) n (u8s l)) :
    Calls Try.prog 17 #[.slice a n cap] w fun e w' => e = .returned (.tuple #[]) ∧ ∃ K, Kept K w w' ∧ ∀ x ∈ K, base ≤ x ∧ l ≠ [] := by
  by_cases h0 : l = []
  · obtain rfl : n = 0 := by rw [← hn, h0]; rfl
    clear h hb hl hn
    go_enter Try.func17, Try.ntmps17
    go_wp2
    go_loop [2] (fun i => i = .int .i64 0) (fun _ => 0)
    case atStart => rfl
    case round =>
      obtain rfl := hrel
      go_wp2
      go_end0
      exact ⟨rfl, [], Kept.refl _ _, by simp⟩
  · refine (spoil_new hb hl h).mono ?_
    rintro e w' ⟨rfl, hk⟩
    exact ⟨rfl, _, hk, fun x hx => ⟨(h.lt x (Option.mem_toList.1 hx)).1, h0⟩⟩

/-- What a call that hands bytes out makes of a reader: new memory, none of its own. -/
def RawP (w : World) (o : Option Nat) (F : List Nat) (s' : RS) (l : List Nat) (e : Ending) (w' : World) : Prop :=
  ∃ a cap, e = .returned (.slice a l.length cap) ∧ w'.ownsRow w.heap.size 5 1 (.slice a l.length cap) l.length (u8s l) ∧ ∃ F', Rh w' o F' s' ∧ Kept F w w' ∧ (∀ x ∈ F', x ∈ F ∨ w.heap.size ≤ x) ∧ (l = [] ∨ ∀ x ∈ F', x ∈ F)
theorem rraw_b {w : World} {o : Option Nat} {F : List Nat} {s : RS} (h : Rh w o F s) (n : Int) (hn9 : n ≤ 9223372036854775807) :
    Calls Try.prog 64 #[pt o, .int .i64 n] w (RawP w o F (rRaw s n).1 (rRaw s n).2) := by
  by_cases h0 : (rRaw s n).2 = []
  · refine (rraw_h h n hn9).mono ?_
    rintro e w' ⟨⟨a, cap, rfl, ho⟩, F', g1, g2, g3⟩
    exact ⟨a, cap, rfl, ho, F', g1, g2, g3, Or.inl h0⟩
  · cases o with
    | none => obtain ⟨rfl, rfl⟩ := h; exact absurd rfl h0
    | some b =>
      have hf : s.fault = 0 := Classical.byContradiction fun hf => h0 (by unfold rRaw; rw [if_pos hf])
      have ha : ¬ n < 0 := fun ha => h0 (by unfold rRaw; rw [if_neg (by omega), if_pos ha])
      have hl : ¬ (s.left.length : Int) < n := fun hl => h0 (by unfold rRaw; rw [if_neg (by omega), if_neg ha, if_pos hl])
      obtain ⟨m, rfl⟩ := Int.eq_ofNat_of_zero_le (show 0 ≤ n by omega)
      have e : rRaw s (m : Int) = (⟨0, s.left.drop m, s.behind⟩, s.left.take m) := by unfold rRaw; rw [if_neg (by omega), if_neg ha, if_neg hl]; rfl
      rw [e]
      refine (rraw_new h hf m (by omega)).mono ?_
      rintro e w' ⟨a, cap, rfl, ho, g1, g2⟩
      have htl : (s.left.take m).length = m := by simp; omega
      refine ⟨a, cap, by simp only [htl], by simp only [htl]; exact ho, F, g1, g2, fun x hx => Or.inl hx, Or.inr fun x hx => hx⟩
theorem rtext_b {w : World} {o : Option Nat} {F : List Nat} {s : RS} (h : Rh w o F s) (n : Int) (hn9 : n ≤ 9223372036854775807) :
    Calls Try.prog 66 #[pt o, .int .i64 n] w (RawP w o F (rText s n).1 (rText s n).2) := by
  by_cases h0 : (rText s n).2 = []
  · refine (rtext_h h n hn9).mono ?_
    rintro e w' ⟨⟨a, cap, rfl, ho⟩, F', g1, g2, g3⟩
    exact ⟨a, cap, rfl, ho, F', g1, g2, g3, Or.inl h0⟩
  · cases o with
    | none => obtain ⟨rfl, rfl⟩ := h; exact absurd rfl h0
    | some b =>
      have hf : s.fault = 0 := Classical.byContradiction fun hf => h0 (by unfold rText; rw [if_pos hf])
      cases hrd : readNum 0 0 s.left with
      | inl c => exact absurd (by unfold rText; rw [if_neg (by omega), hrd]) h0
      | inr p =>
        obtain ⟨m, r⟩ := p
        have ha : ¬ n.toNat < m := fun ha => h0 (by unfold rText; rw [if_neg (by omega), hrd]; simp only; rw [if_pos ha])
        have hl : ¬ r.length < m := fun hl => h0 (by unfold rText; rw [if_neg (by omega), hrd]; simp only; rw [if_neg ha, if_pos hl])
        have e : rText s n = (⟨0, r.drop m, s.behind⟩, r.take m) := by unfold rText; rw [if_neg (by omega), hrd]; simp only; rw [if_neg ha, if_neg hl]
        have hm0 : m ≠ 0 := fun hm => h0 (by rw [e, hm]; rfl)
        obtain ⟨q, rfl⟩ := Int.eq_ofNat_of_zero_le (show 0 ≤ n by omega)
        rw [e]
        refine (rtext_new h hf m q r hrd (by omega) (by omega) (by omega)).mono ?_
        rintro e w' ⟨a, cap, rfl, ho, g1, g2⟩
        have htl : (r.take m).length = m := by simp; omega
        refine ⟨a, cap, by simp only [htl], by simp only [htl]; exact ho, F, g1, g2, fun x hx => Or.inl hx, Or.inr fun x hx => hx⟩

theorem Two.stepB {w w1 w2 w4 : World} {o q : Option Nat} {F G K l : List Nat} {s s' : RS} (h : Two w o q F G s) (hq : QhP w q G s' w1) (hr : ∃ F', Rh w2 o F' s' ∧ Kept F w1 w2 ∧ (∀ x ∈ F', x ∈ F ∨ w1.heap.size ≤ x) ∧ (l = [] ∨ ∀ x ∈ F', x ∈ F)) (k : Kept K w2 w4) (hK : ∀ x ∈ K, w1.heap.size ≤ x ∧ l ≠ []) : TwoP w o q F G w4 := by
  obtain ⟨G', h1, h2, h3⟩ := hq
  obtain ⟨F', g1, g2, g3, g4⟩ := hr
  have hs := h2.size
  have hGF : ∀ x ∈ G', x ∉ F := by
    intro x hx hf
    rcases h3 x hx with h4 | h4
    · exact h.ap x hf h4
    · have := h.r.lt x hf; omega
  refine ⟨F', G', s', ⟨g1.kept k ?_, (h1.kept g2 hGF).kept k ?_, fun x hx hg => ?_⟩, ?_, fun x hx => ?_, h3⟩
  · intro x hx hk
    obtain ⟨k1, k2⟩ := hK x hk
    rcases g4 with g4 | g4
    · exact k2 g4
    · have := h.r.lt x (g4 x hx); omega
  · intro x hx hk
    have := h1.lt x hx
    have := (hK x hk).1
    omega
  · rcases g3 x hx with h5 | h5
    · exact hGF x hg h5
    · have := h1.lt x hg; omega
  · refine ((h2.mono (fun x hx => Or.inl (by simp [hx]))).trans g2 (fun x hx => Or.inl (by simp [hx]))).trans k (fun x hx => Or.inr ?_)
    have := (hK x hx).1
    omega
  · rcases g3 x hx with h5 | h5
    · exact Or.inl h5
    · right; omega

/-- What is left, and what is handed out, is no longer than a reader may be. -/
theorem Rh.bound {w : World} {o : Option Nat} {F : List Nat} {s : RS} (h : Rh w o F s) : s.left.length ≤ 140737488355328 ∧ ∀ x ∈ s.left, x < 256 := by
  cases o with
  | none => obtain ⟨rfl, rfl⟩ := h; exact ⟨Nat.zero_le _, fun x hx => by cases hx⟩
  | some b =>
    rcases h with ⟨_, _, h3, _⟩ | ⟨_, h3, _, lv, bv, hs, D, h2, _⟩
    · rw [h3]; exact ⟨Nat.zero_le _, fun x hx => by cases hx⟩
    · exact ⟨h2.rd.bl, h3⟩


set_option maxRecDepth 100000 in
set_option maxHeartbeats 8000000 in
theorem takes_any {w : World} {o q : Option Nat} {F G : List Nat} {s : RS} (h : Two w o q F G s) (kd wh n : Int) (hn : n ≤ 9223372036854775807) :
    Calls Try.prog 19 #[pt o, pt q, .agg #[.int .i64 kd, .int .i64 wh, .int .i64 n]] w fun e w' => e = .returned (.bool true) ∧ TwoP w o q F G w' := by
  have k0 : Kept [] w (w.alloc (.cells #[.int .i64 kd, .int .i64 wh, .int .i64 n] 52)) := (Kept.refl [] w).alloc _
  have H0 := hide (h.kept k0 (by simp) (by simp))
  have HB := hide (Blk.new w #[.int .i64 kd, .int .i64 wh, .int .i64 n] 52)
  have HK0 := hide k0
  have HGL := hide h.m.lt
  obtain ⟨c0, c1, c2⟩ := blk3 (unhide HB)
  have HBC : Hid (∀ w1 s', QhP (w.alloc (.cells #[.int .i64 kd, .int .i64 wh, .int .i64 n] 52)) q G s' w1 → w1.cell? ⟨w.heap.size, 2, none⟩ = some (.int .i64 n)) := by
    rintro w1 s' ⟨G', _, h2, _⟩
    exact (blk3 ((unhide HB).kept h2 (fun hm => by have := unhide HGL _ hm; omega))).2.2
  have h32 := fb32
  have HSB := hide (h.r.bound)
  clear h k0
  obtain ⟨vr, hvr⟩ : ∃ vr, pt o = vr := ⟨_, rfl⟩
  obtain ⟨vq, hvq⟩ : ∃ vq, pt q = vq := ⟨_, rfl⟩
  rw [hvr, hvq]

  by_cases hk1 : kd = 1
  · have HQ := hide (qbyte_h (unhide H0).m)
    have HR := hide (fun w1 (hp : QhP (w.alloc (.cells #[.int .i64 kd, .int .i64 wh, .int .i64 n] 52)) q G (rByte s).1 w1) => rbyte_h ((unhide H0).behind hp))
    rw [hvr] at HR
    rw [hvq] at HQ
    obtain ⟨RES, hRES⟩ : ∃ RES, rByte s = RES := ⟨_, rfl⟩
    rw [hRES] at HQ HR
    have t1 : (kd == 1) = true := by rw [beq_iff_eq]; omega
    clear  hk1 hRES
    go_enter Try.func19, Try.ntmps19
    go_wp2_with (first | (go_at_call 57; refine (unhide HQ).mono ?_; rintro e w1 ⟨rfl, hp⟩; have HP := hide hp; have cb := unhide HBC _ _ hp; clear hp HQ) | (go_at_call 25; refine (unhide HR _ (unhide HP)).mono ?_; rintro e w2 ⟨rfl, hp2⟩; have HP2 := hide hp2; clear hp2 HR))
    go_ret
    exact ⟨rfl, ((unhide H0).step (unhide HP) (unhide HP2)).from (unhide HK0)⟩

  by_cases hk2 : kd = 2
  · have HQ := hide (qfixed_h (unhide H0).m n)
    have HR := hide (fun w1 (hp : QhP (w.alloc (.cells #[.int .i64 kd, .int .i64 wh, .int .i64 n] 52)) q G (rFixed s n).1 w1) => rfixed_h ((unhide H0).behind hp) n)
    rw [hvr] at HR
    rw [hvq] at HQ
    obtain ⟨RES, hRES⟩ : ∃ RES, rFixed s n = RES := ⟨_, rfl⟩
    rw [hRES] at HQ HR
    have t1 : (kd == 1) = false := by rw [beq_eq_false_iff_ne]; omega
    have t2 : (kd == 2) = true := by rw [beq_iff_eq]; omega
    clear hk1 hk2 hRES
    go_enter Try.func19, Try.ntmps19
    go_wp2_with (first | (go_at_call 58; refine (unhide HQ).mono ?_; rintro e w1 ⟨rfl, hp⟩; have HP := hide hp; have cb := unhide HBC _ _ hp; clear hp HQ) | (go_at_call 59; refine (unhide HR _ (unhide HP)).mono ?_; rintro e w2 ⟨rfl, hp2⟩; have HP2 := hide hp2; clear hp2 HR))
    go_ret
    exact ⟨rfl, ((unhide H0).step (unhide HP) (unhide HP2)).from (unhide HK0)⟩

  by_cases hk3 : kd = 3
  · have HQ := hide (qnum_h (unhide H0).m)
    have HR := hide (fun w1 (hp : QhP (w.alloc (.cells #[.int .i64 kd, .int .i64 wh, .int .i64 n] 52)) q G (rNum s).1 w1) => rnum_h ((unhide H0).behind hp))
    rw [hvr] at HR
    rw [hvq] at HQ
    obtain ⟨RES, hRES⟩ : ∃ RES, rNum s = RES := ⟨_, rfl⟩
    rw [hRES] at HQ HR
    have t1 : (kd == 1) = false := by rw [beq_eq_false_iff_ne]; omega
    have t2 : (kd == 2) = false := by rw [beq_eq_false_iff_ne]; omega
    have t3 : (kd == 3) = true := by rw [beq_iff_eq]; omega
    clear hk1 hk2 hk3 hRES
    go_enter Try.func19, Try.ntmps19
    go_wp2_with (first | (go_at_call 60; refine (unhide HQ).mono ?_; rintro e w1 ⟨rfl, hp⟩; have HP := hide hp; have cb := unhide HBC _ _ hp; clear hp HQ) | (go_at_call 23; refine (unhide HR _ (unhide HP)).mono ?_; rintro e w2 ⟨rfl, hp2⟩; have HP2 := hide hp2; clear hp2 HR))
    go_ret
    exact ⟨rfl, ((unhide H0).step (unhide HP) (unhide HP2)).from (unhide HK0)⟩

  by_cases hk4 : kd = 4
  · have HQ := hide (qint_h (unhide H0).m)
    have HR := hide (fun w1 (hp : QhP (w.alloc (.cells #[.int .i64 kd, .int .i64 wh, .int .i64 n] 52)) q G (rInt s).1 w1) => rint_h ((unhide H0).behind hp))
    rw [hvr] at HR
    rw [hvq] at HQ
    obtain ⟨RES, hRES⟩ : ∃ RES, rInt s = RES := ⟨_, rfl⟩
    rw [hRES] at HQ HR
    have t1 : (kd == 1) = false := by rw [beq_eq_false_iff_ne]; omega
    have t2 : (kd == 2) = false := by rw [beq_eq_false_iff_ne]; omega
    have t3 : (kd == 3) = false := by rw [beq_eq_false_iff_ne]; omega
    have t4 : (kd == 4) = true := by rw [beq_iff_eq]; omega
    clear hk1 hk2 hk3 hk4 hRES
    go_enter Try.func19, Try.ntmps19
    go_wp2_with (first | (go_at_call 61; refine (unhide HQ).mono ?_; rintro e w1 ⟨rfl, hp⟩; have HP := hide hp; have cb := unhide HBC _ _ hp; clear hp HQ) | (go_at_call 28; refine (unhide HR _ (unhide HP)).mono ?_; rintro e w2 ⟨rfl, hp2⟩; have HP2 := hide hp2; clear hp2 HR))
    go_ret
    exact ⟨rfl, ((unhide H0).step (unhide HP) (unhide HP2)).from (unhide HK0)⟩

  by_cases hk5 : kd = 5
  · have HQ := hide (qreal_h (unhide H0).m)
    have HR := hide (fun w1 (hp : QhP (w.alloc (.cells #[.int .i64 kd, .int .i64 wh, .int .i64 n] 52)) q G (rReal s).1 w1) => rreal_h ((unhide H0).behind hp))
    rw [hvr] at HR
    rw [hvq] at HQ
    obtain ⟨RES, hRES⟩ : ∃ RES, rReal s = RES := ⟨_, rfl⟩
    rw [hRES] at HQ HR
    have t1 : (kd == 1) = false := by rw [beq_eq_false_iff_ne]; omega
    have t2 : (kd == 2) = false := by rw [beq_eq_false_iff_ne]; omega
    have t3 : (kd == 3) = false := by rw [beq_eq_false_iff_ne]; omega
    have t4 : (kd == 4) = false := by rw [beq_eq_false_iff_ne]; omega
    have t5 : (kd == 5) = true := by rw [beq_iff_eq]; omega
    clear hk1 hk2 hk3 hk4 hk5 hRES
    go_enter Try.func19, Try.ntmps19
    go_wp2_with (first | (go_at_call 62; refine (unhide HQ).mono ?_; rintro e w1 ⟨rfl, hp⟩; have HP := hide hp; have cb := unhide HBC _ _ hp; clear hp HQ) | (go_at_call 31; refine (unhide HR _ (unhide HP)).mono ?_; rintro e w2 ⟨rfl, hp2⟩; have HP2 := hide hp2; clear hp2 HR))
    go_ret
    exact ⟨rfl, ((unhide H0).step (unhide HP) (unhide HP2)).from (unhide HK0)⟩

  by_cases hk6 : kd = 6
  · have HQ := hide (qraw_h (unhide H0).m n hn)
    have HR := hide (fun w1 (hp : QhP (w.alloc (.cells #[.int .i64 kd, .int .i64 wh, .int .i64 n] 52)) q G (rRaw s n).1 w1) => rraw_b ((unhide H0).behind hp) n hn)
    rw [hvr] at HR
    rw [hvq] at HQ
    have hin := rRaw_in s (unhide HSB).2 n
    have hll : (rRaw s n).2.length ≤ 140737488355328 := by have := (unhide HSB).1; omega
    have HIN := hide hin.1
    obtain ⟨RES, hRES⟩ : ∃ RES, rRaw s n = RES := ⟨_, rfl⟩
    rw [hRES] at HQ HR HIN hll
    obtain ⟨BL, hBL⟩ : ∃ BL, RES.2.length = BL := ⟨_, rfl⟩
    have HBL := hide hBL
    have HLL : Hid (BL ≤ 140737488355328) := by unfold Hid; omega
    have HFW : Hid (∀ x ∈ F, x < (w.alloc (.cells #[.int .i64 kd, .int .i64 wh, .int .i64 n] 52)).heap.size) := (unhide H0).r.lt
    have t1 : (kd == 1) = false := by rw [beq_eq_false_iff_ne]; omega
    have t2 : (kd == 2) = false := by rw [beq_eq_false_iff_ne]; omega
    have t3 : (kd == 3) = false := by rw [beq_eq_false_iff_ne]; omega
    have t4 : (kd == 4) = false := by rw [beq_eq_false_iff_ne]; omega
    have t5 : (kd == 5) = false := by rw [beq_eq_false_iff_ne]; omega
    have t6 : (kd == 6) = true := by rw [beq_iff_eq]; omega
    clear hk1 hk2 hk3 hk4 hk5 hk6 hRES hin hll hBL
    go_enter Try.func19, Try.ntmps19
    go_wp2_with (first | (go_at_call 63; refine (unhide HQ).mono ?_; rintro e w1 ⟨⟨xa, xc, rfl, hx⟩, hp⟩; rw [unhide HBL] at hx ⊢; have HX := hide hx; have HP := hide hp; have cb := unhide HBC _ _ hp; clear hp hx HQ) | (go_at_call 64; refine (unhide HR _ (unhide HP)).mono ?_; rintro e w2 ⟨ya, yc, rfl, hy, hp2⟩; rw [unhide HBL] at hy ⊢; have HY := hide hy; have HP2 := hide hp2; clear hp2 hy HR) | (go_at_call 22; refine (same_yes (sees_own (unhide HBL) (unhide HY)) (sees_own (unhide HBL) (own_kept (unhide HX) (unhide HP2).choose_spec.2.1 (fun k hk hf => (by have h1 := ((unhide HX).lt k hk).1; have h2 := unhide HFW k hf; omega)))) (by rw [unhide HBL]; have := unhide HLL; omega)).mono ?_; rintro e w3 ⟨rfl, md, rfl⟩) | (go_at_call 17; refine (spoilB (unhide HBL) (unhide HIN) (unhide HLL) (own_kept (unhide HY) ((Kept.refl [] w2).drewN md) (by simp))).mono ?_; rintro e w4 ⟨rfl, K, hk4, hK4⟩; have HK4 := hide hk4; have HKK := hide hK4; clear hk4 hK4))
    go_ret
    exact ⟨rfl, ((unhide H0).stepB (unhide HP) (unhide HP2) ((((Kept.refl [] w2).drewN md).mono (by simp)).trans (unhide HK4) (fun x hx => Or.inl hx)) (unhide HKK)).from (unhide HK0)⟩

  by_cases hk7 : kd = 7
  · have HQ := hide (qtext_h (unhide H0).m n hn)
    have HR := hide (fun w1 (hp : QhP (w.alloc (.cells #[.int .i64 kd, .int .i64 wh, .int .i64 n] 52)) q G (rText s n).1 w1) => rtext_b ((unhide H0).behind hp) n hn)
    rw [hvr] at HR
    rw [hvq] at HQ
    have hin := rText_in s (unhide HSB).2 n
    have hll : (rText s n).2.length ≤ 140737488355328 := by have := (unhide HSB).1; omega
    have HIN := hide hin.1
    obtain ⟨RES, hRES⟩ : ∃ RES, rText s n = RES := ⟨_, rfl⟩
    rw [hRES] at HQ HR HIN hll
    obtain ⟨BL, hBL⟩ : ∃ BL, RES.2.length = BL := ⟨_, rfl⟩
    have HBL := hide hBL
    have HLL : Hid (BL ≤ 140737488355328) := by unfold Hid; omega
    have HFW : Hid (∀ x ∈ F, x < (w.alloc (.cells #[.int .i64 kd, .int .i64 wh, .int .i64 n] 52)).heap.size) := (unhide H0).r.lt
    have t1 : (kd == 1) = false := by rw [beq_eq_false_iff_ne]; omega
    have t2 : (kd == 2) = false := by rw [beq_eq_false_iff_ne]; omega
    have t3 : (kd == 3) = false := by rw [beq_eq_false_iff_ne]; omega
    have t4 : (kd == 4) = false := by rw [beq_eq_false_iff_ne]; omega
    have t5 : (kd == 5) = false := by rw [beq_eq_false_iff_ne]; omega
    have t6 : (kd == 6) = false := by rw [beq_eq_false_iff_ne]; omega
    have t7 : (kd == 7) = true := by rw [beq_iff_eq]; omega
    clear hk1 hk2 hk3 hk4 hk5 hk6 hk7 hRES hin hll hBL
    go_enter Try.func19, Try.ntmps19
    go_wp2_with (first | (go_at_call 65; refine (unhide HQ).mono ?_; rintro e w1 ⟨⟨xa, xc, rfl, hx⟩, hp⟩; rw [unhide HBL] at hx ⊢; have HX := hide hx; have HP := hide hp; have cb := unhide HBC _ _ hp; clear hp hx HQ) | (go_at_call 66; refine (unhide HR _ (unhide HP)).mono ?_; rintro e w2 ⟨ya, yc, rfl, hy, hp2⟩; rw [unhide HBL] at hy ⊢; have HY := hide hy; have HP2 := hide hp2; clear hp2 hy HR) | (go_at_call 22; refine (same_yes (sees_own (unhide HBL) (unhide HY)) (sees_own (unhide HBL) (own_kept (unhide HX) (unhide HP2).choose_spec.2.1 (fun k hk hf => (by have h1 := ((unhide HX).lt k hk).1; have h2 := unhide HFW k hf; omega)))) (by rw [unhide HBL]; have := unhide HLL; omega)).mono ?_; rintro e w3 ⟨rfl, md, rfl⟩) | (go_at_call 17; refine (spoilB (unhide HBL) (unhide HIN) (unhide HLL) (own_kept (unhide HY) ((Kept.refl [] w2).drewN md) (by simp))).mono ?_; rintro e w4 ⟨rfl, K, hk4, hK4⟩; have HK4 := hide hk4; have HKK := hide hK4; clear hk4 hK4))
    go_ret
    exact ⟨rfl, ((unhide H0).stepB (unhide HP) (unhide HP2) ((((Kept.refl [] w2).drewN md).mono (by simp)).trans (unhide HK4) (fun x hx => Or.inl hx)) (unhide HKK)).from (unhide HK0)⟩

  by_cases hk8 : kd = 8
  · have HQ := hide (qenter_h (unhide H0).m)
    have HR := hide (fun w1 (hp : QhP (w.alloc (.cells #[.int .i64 kd, .int .i64 wh, .int .i64 n] 52)) q G (rEnter s).1 w1) => renter_h ((unhide H0).behind hp))
    rw [hvr] at HR
    rw [hvq] at HQ
    obtain ⟨RES, hRES⟩ : ∃ RES, rEnter s = RES := ⟨_, rfl⟩
    rw [hRES] at HQ HR
    have t1 : (kd == 1) = false := by rw [beq_eq_false_iff_ne]; omega
    have t2 : (kd == 2) = false := by rw [beq_eq_false_iff_ne]; omega
    have t3 : (kd == 3) = false := by rw [beq_eq_false_iff_ne]; omega
    have t4 : (kd == 4) = false := by rw [beq_eq_false_iff_ne]; omega
    have t5 : (kd == 5) = false := by rw [beq_eq_false_iff_ne]; omega
    have t6 : (kd == 6) = false := by rw [beq_eq_false_iff_ne]; omega
    have t7 : (kd == 7) = false := by rw [beq_eq_false_iff_ne]; omega
    have t8 : (kd == 8) = true := by rw [beq_iff_eq]; omega
    clear hk1 hk2 hk3 hk4 hk5 hk6 hk7 hk8 hRES
    go_enter Try.func19, Try.ntmps19
    go_wp2_with (first | (go_at_call 67; refine (unhide HQ).mono ?_; rintro e w1 ⟨rfl, hp⟩; have HP := hide hp; have cb := unhide HBC _ _ hp; clear hp HQ) | (go_at_call 68; refine (unhide HR _ (unhide HP)).mono ?_; rintro e w2 ⟨rfl, hp2⟩; have HP2 := hide hp2; clear hp2 HR))
    go_ret
    exact ⟨rfl, ((unhide H0).step (unhide HP) (unhide HP2)).from (unhide HK0)⟩

  by_cases hk9 : kd = 9
  · have HQ := hide (qleave_h (unhide H0).m)
    have HR := hide (fun w1 (hp : QhP (w.alloc (.cells #[.int .i64 kd, .int .i64 wh, .int .i64 n] 52)) q G (rLeave s) w1) => rleave_h ((unhide H0).behind hp))
    rw [hvr] at HR
    rw [hvq] at HQ
    obtain ⟨RES, hRES⟩ : ∃ RES, rLeave s = RES := ⟨_, rfl⟩
    rw [hRES] at HQ HR
    have t1 : (kd == 1) = false := by rw [beq_eq_false_iff_ne]; omega
    have t2 : (kd == 2) = false := by rw [beq_eq_false_iff_ne]; omega
    have t3 : (kd == 3) = false := by rw [beq_eq_false_iff_ne]; omega
    have t4 : (kd == 4) = false := by rw [beq_eq_false_iff_ne]; omega
    have t5 : (kd == 5) = false := by rw [beq_eq_false_iff_ne]; omega
    have t6 : (kd == 6) = false := by rw [beq_eq_false_iff_ne]; omega
    have t7 : (kd == 7) = false := by rw [beq_eq_false_iff_ne]; omega
    have t8 : (kd == 8) = false := by rw [beq_eq_false_iff_ne]; omega
    have t9 : (kd == 9) = true := by rw [beq_iff_eq]; omega
    clear hk1 hk2 hk3 hk4 hk5 hk6 hk7 hk8 hk9 hRES
    go_enter Try.func19, Try.ntmps19
    go_wp2_with (first | (go_at_call 69; refine (unhide HQ).mono ?_; rintro e w1 ⟨rfl, hp⟩; have HP := hide hp; have cb := unhide HBC _ _ hp; clear hp HQ) | (go_at_call 70; refine (unhide HR _ (unhide HP)).mono ?_; rintro e w2 ⟨rfl, hp2⟩; have HP2 := hide hp2; clear hp2 HR))
    go_ret
    exact ⟨rfl, ((unhide H0).step (unhide HP) (unhide HP2)).from (unhide HK0)⟩

  by_cases hk10 : kd = 10
  · have HQ := hide (qrest_h (unhide H0).m)
    have HR := hide (fun w1 (hp : Kept [] (w.alloc (.cells #[.int .i64 kd, .int .i64 wh, .int .i64 n] 52)) w1) => rrest_h ((unhide H0).r.kept hp (by simp)))
    rw [hvr] at HR
    rw [hvq] at HQ
    obtain ⟨RES, hRES⟩ : ∃ RES, rRest s = RES := ⟨_, rfl⟩
    rw [hRES] at HQ HR
    have t1 : (kd == 1) = false := by rw [beq_eq_false_iff_ne]; omega
    have t2 : (kd == 2) = false := by rw [beq_eq_false_iff_ne]; omega
    have t3 : (kd == 3) = false := by rw [beq_eq_false_iff_ne]; omega
    have t4 : (kd == 4) = false := by rw [beq_eq_false_iff_ne]; omega
    have t5 : (kd == 5) = false := by rw [beq_eq_false_iff_ne]; omega
    have t6 : (kd == 6) = false := by rw [beq_eq_false_iff_ne]; omega
    have t7 : (kd == 7) = false := by rw [beq_eq_false_iff_ne]; omega
    have t8 : (kd == 8) = false := by rw [beq_eq_false_iff_ne]; omega
    have t9 : (kd == 9) = false := by rw [beq_eq_false_iff_ne]; omega
    have t10 : (kd == 10) = true := by rw [beq_iff_eq]; omega
    clear hk1 hk2 hk3 hk4 hk5 hk6 hk7 hk8 hk9 hk10 hRES
    go_enter Try.func19, Try.ntmps19
    go_wp2_with (first | (go_at_call 71; refine (unhide HQ).mono ?_; rintro e w1 ⟨rfl, hp⟩; have HP := hide hp; clear hp HQ) | (go_at_call 24; refine (unhide HR _ (unhide HP)).mono ?_; rintro e w2 ⟨rfl, hp2⟩; have HP2 := hide hp2; clear hp2 HR))
    go_ret
    exact ⟨rfl, (TwoP.same (unhide H0) ((unhide HP).trans (unhide HP2) (by simp))).from (unhide HK0)⟩

  by_cases hk11 : kd = 11
  · have HQ := hide (qdone_h (unhide H0).m)
    have HR := hide (fun w1 (hp : Kept [] (w.alloc (.cells #[.int .i64 kd, .int .i64 wh, .int .i64 n] 52)) w1) => rdone_h ((unhide H0).r.kept hp (by simp)))
    rw [hvr] at HR
    rw [hvq] at HQ
    obtain ⟨RES, hRES⟩ : ∃ RES, rDone s = RES := ⟨_, rfl⟩
    rw [hRES] at HQ HR
    have t1 : (kd == 1) = false := by rw [beq_eq_false_iff_ne]; omega
    have t2 : (kd == 2) = false := by rw [beq_eq_false_iff_ne]; omega
    have t3 : (kd == 3) = false := by rw [beq_eq_false_iff_ne]; omega
    have t4 : (kd == 4) = false := by rw [beq_eq_false_iff_ne]; omega
    have t5 : (kd == 5) = false := by rw [beq_eq_false_iff_ne]; omega
    have t6 : (kd == 6) = false := by rw [beq_eq_false_iff_ne]; omega
    have t7 : (kd == 7) = false := by rw [beq_eq_false_iff_ne]; omega
    have t8 : (kd == 8) = false := by rw [beq_eq_false_iff_ne]; omega
    have t9 : (kd == 9) = false := by rw [beq_eq_false_iff_ne]; omega
    have t10 : (kd == 10) = false := by rw [beq_eq_false_iff_ne]; omega
    have t11 : (kd == 11) = true := by rw [beq_iff_eq]; omega
    clear hk1 hk2 hk3 hk4 hk5 hk6 hk7 hk8 hk9 hk10 hk11 hRES
    go_enter Try.func19, Try.ntmps19
    go_wp2_with (first | (go_at_call 72; refine (unhide HQ).mono ?_; rintro e w1 ⟨rfl, hp⟩; have HP := hide hp; clear hp HQ) | (go_at_call 20; refine (unhide HR _ (unhide HP)).mono ?_; rintro e w2 ⟨rfl, hp2⟩; have HP2 := hide hp2; clear hp2 HR))
    go_ret
    exact ⟨rfl, (TwoP.same (unhide H0) ((unhide HP).trans (unhide HP2) (by simp))).from (unhide HK0)⟩

  have t1 : (kd == 1) = false := by rw [beq_eq_false_iff_ne]; omega
  have t2 : (kd == 2) = false := by rw [beq_eq_false_iff_ne]; omega
  have t3 : (kd == 3) = false := by rw [beq_eq_false_iff_ne]; omega
  have t4 : (kd == 4) = false := by rw [beq_eq_false_iff_ne]; omega
  have t5 : (kd == 5) = false := by rw [beq_eq_false_iff_ne]; omega
  have t6 : (kd == 6) = false := by rw [beq_eq_false_iff_ne]; omega
  have t7 : (kd == 7) = false := by rw [beq_eq_false_iff_ne]; omega
  have t8 : (kd == 8) = false := by rw [beq_eq_false_iff_ne]; omega
  have t9 : (kd == 9) = false := by rw [beq_eq_false_iff_ne]; omega
  have t10 : (kd == 10) = false := by rw [beq_eq_false_iff_ne]; omega
  have t11 : (kd == 11) = false := by rw [beq_eq_false_iff_ne]; omega
  clear hk1 hk2 hk3 hk4 hk5 hk6 hk7 hk8 hk9 hk10 hk11
  go_enter Try.func19, Try.ntmps19
  go_wp2
  go_ret
  exact ⟨rfl, (TwoP.same (unhide H0) (Kept.refl [] _)).from (unhide HK0)⟩
end Go.Proofs.Ytiabhgkndejigaa

namespace Go.Proofs.Ytiabhgkndejigaa
open Go.RowKit

structure Pr where
  b : Nat
  c : Nat
  F : List Nat
  G : List Nat
  s : RS
def ptd (ps : List Pr) : List Value := ps.map fun p => .pointer (some ⟨p.b, 0, none⟩)
def ptm (ps : List Pr) : List Value := ps.map fun p => .pointer (some ⟨p.c, 0, none⟩)
theorem ptd_len (ps : List Pr) : (ptd ps).length = ps.length := by simp [ptd]
theorem ptm_len (ps : List Pr) : (ptm ps).length = ps.length := by simp [ptm]

/-- The rows vd, vm hold xs, ys; the pairs ps; no block twice. -/
structure Duo (base : Nat) (w : World) (vd vm : Value) (xs ys : List Value) (ps : List Pr) : Prop where
  rd : w.ownsRow base 45 1 vd xs.length xs
  rm : w.ownsRow base 49 1 vm ys.length ys
  own : ∀ (i : Nat) (p : Pr), ps[i]? = some p → Two w (some p.b) (some p.c) p.F p.G p.s ∧ ∀ x ∈ p.F ++ p.G, base ≤ x
  nd : ∀ (i j : Nat) (p q : Pr), ps[i]? = some p → ps[j]? = some q → i ≠ j → ∀ x ∈ p.F ++ p.G, x ∉ q.F ++ q.G
  ad : ∀ k, vd.ownBlock = some k → ∀ (i : Nat) (p : Pr), ps[i]? = some p → k ∉ p.F ++ p.G
  am : ∀ k, vm.ownBlock = some k → ∀ (i : Nat) (p : Pr), ps[i]? = some p → k ∉ p.F ++ p.G
  dm : ∀ k, vd.ownBlock = some k → vm.ownBlock ≠ some k
theorem Duo.nil (base : Nat) (w : World) : Duo base w (.slice none 0 0) (.slice none 0 0) [] [] [] :=
  ⟨World.ownsRow_nil _ _ _ _, World.ownsRow_nil _ _ _ _, (fun i p h => by simp at h), (fun i j p q h => by simp at h), (fun k h => by cases h), (fun k h => by cases h), (fun k h => by cases h)⟩
def Duo.has (vd vm : Value) (ps : List Pr) (x : Nat) : Prop := vd.ownBlock = some x ∨ vm.ownBlock = some x ∨ ∃ (i : Nat) (p : Pr), ps[i]? = some p ∧ x ∈ p.F ++ p.G
theorem Two.lt {w : World} {o q : Option Nat} {F G : List Nat} {s : RS} (h : Two w o q F G s) : ∀ x ∈ F ++ G, x < w.heap.size := by
  intro x hx
  rcases List.mem_append.1 hx with hx | hx
  · exact h.r.lt x hx
  · exact h.m.lt x hx
theorem Duo.lt {base : Nat} {w : World} {vd vm : Value} {xs ys : List Value} {ps : List Pr} (h : Duo base w vd vm xs ys ps) {x : Nat} (hx : Duo.has vd vm ps x) : x < w.heap.size := by
  rcases hx with hx | hx | ⟨i, p, hp, hx⟩
  · exact (h.rd.lt x hx).2
  · exact (h.rm.lt x hx).2
  · exact (h.own i p hp).1.lt x hx
theorem Duo.keep {base : Nat} {K : List Nat} {w w' : World} {vd vm : Value} {xs ys : List Value} {ps : List Pr} (h : Duo base w vd vm xs ys ps) (k : Kept K w w') (hK : ∀ x ∈ K, ¬ Duo.has vd vm ps x) : Duo base w' vd vm xs ys ps :=
  ⟨own_kept h.rd k (fun x hx hm => hK x hm (Or.inl hx)), own_kept h.rm k (fun x hx hm => hK x hm (Or.inr (Or.inl hx))),
    fun i p hp => ⟨(h.own i p hp).1.kept k (fun x hx hm => hK x hm (Or.inr (Or.inr ⟨i, p, hp, by simp [hx]⟩))) (fun x hx hm => hK x hm (Or.inr (Or.inr ⟨i, p, hp, by simp [hx]⟩))), (h.own i p hp).2⟩, h.nd, h.ad, h.am, h.dm⟩
theorem Duo.kept {base : Nat} {w w' : World} {vd vm : Value} {xs ys : List Value} {ps : List Pr} (h : Duo base w vd vm xs ys ps) (k : Kept [] w w') : Duo base w' vd vm xs ys ps := h.keep k (by simp)
/-- What is new is none of it. -/
theorem Duo.new {base : Nat} {w : World} {vd vm : Value} {xs ys : List Value} {ps : List Pr} (h : Duo base w vd vm xs ys ps) {x : Nat} (hx : w.heap.size ≤ x) : ¬ Duo.has vd vm ps x := fun hh => by have := h.lt hh; omega
theorem Duo.growD {base : Nat} {w w' : World} {vd vd' vm : Value} {xs xs' ys : List Value} {ps : List Pr} (h : Duo base w vd vm xs ys ps) (hg : w.grownBy w' vd.ownBlock) (ho : w'.ownsRow base 45 1 vd' xs'.length xs') (hat : vd'.ownBlock = vd.ownBlock ∨ vd'.ownBlock = some w.heap.size) : Duo base w' vd' vm xs' ys ps := by
  have k : Kept vd.ownBlock.toList w w' := (Kept.refl _ _).grown hg (fun q hq => Or.inl (by simp [hq]))
  have hin : ∀ x, x ∈ vd.ownBlock.toList → vd.ownBlock = some x := fun x hx => Option.mem_toList.1 hx
  refine ⟨ho, own_kept h.rm k (fun x hx hm => h.dm x (hin x hm) hx), fun i p hp => ⟨(h.own i p hp).1.kept k (fun x hx hm => h.ad x (hin x hm) i p hp (by simp [hx])) (fun x hx hm => h.ad x (hin x hm) i p hp (by simp [hx])), (h.own i p hp).2⟩, h.nd, ?_, h.am, ?_⟩
  · intro x hx i p hp hm
    rcases hat with e | e
    · exact h.ad x (by rw [← e]; exact hx) i p hp hm
    · rw [e] at hx; simp at hx; have := (h.own i p hp).1.lt x hm; omega
  · intro x hx hm
    rcases hat with e | e
    · exact h.dm x (by rw [← e]; exact hx) hm
    · rw [e] at hx; simp at hx; have := (h.rm.lt x hm).2; omega
theorem Duo.growM {base : Nat} {w w' : World} {vd vm vm' : Value} {xs ys ys' : List Value} {ps : List Pr} (h : Duo base w vd vm xs ys ps) (hg : w.grownBy w' vm.ownBlock) (ho : w'.ownsRow base 49 1 vm' ys'.length ys') (hat : vm'.ownBlock = vm.ownBlock ∨ vm'.ownBlock = some w.heap.size) : Duo base w' vd vm' xs ys' ps := by
  have k : Kept vm.ownBlock.toList w w' := (Kept.refl _ _).grown hg (fun q hq => Or.inl (by simp [hq]))
  have hin : ∀ x, x ∈ vm.ownBlock.toList → vm.ownBlock = some x := fun x hx => Option.mem_toList.1 hx
  refine ⟨own_kept h.rd k (fun x hx hm => h.dm x hx (hin x hm)), ho, fun i p hp => ⟨(h.own i p hp).1.kept k (fun x hx hm => h.am x (hin x hm) i p hp (by simp [hx])) (fun x hx hm => h.am x (hin x hm) i p hp (by simp [hx])), (h.own i p hp).2⟩, h.nd, h.ad, ?_, ?_⟩
  · intro x hx i p hp hm
    rcases hat with e | e
    · exact h.am x (by rw [← e]; exact hx) i p hp hm
    · rw [e] at hx; simp at hx; have := (h.own i p hp).1.lt x hm; omega
  · intro x hx hm
    rcases hat with e | e
    · exact h.dm x hx (by rw [← e]; exact hm)
    · rw [e] at hm; simp at hm; have := (h.rd.lt x hx).2; omega
theorem Duo.push {base : Nat} {w : World} {vd vm : Value} {xs ys : List Value} {ps : List Pr} (h : Duo base w vd vm xs ys ps) (p : Pr) (hp : Two w (some p.b) (some p.c) p.F p.G p.s) (hb : ∀ x ∈ p.F ++ p.G, base ≤ x) (hn : ∀ x ∈ p.F ++ p.G, ¬ Duo.has vd vm ps x) : Duo base w vd vm xs ys (ps ++ [p]) := by
  have cs : ∀ (i : Nat) (q : Pr), (ps ++ [p])[i]? = some q → (ps[i]? = some q) ∨ (i = ps.length ∧ q = p) := by
    intro i q hq
    rw [List.getElem?_append] at hq
    split at hq
    · exact Or.inl hq
    · rename_i hi
      simp only [List.getElem?_singleton] at hq
      split at hq
      · cases hq; right; exact ⟨by omega, rfl⟩
      · cases hq
  refine ⟨h.rd, h.rm, fun i q hq => ?_, fun i j q r hq hr hij x hx hy => ?_, fun k hk i q hq hm => ?_, fun k hk i q hq hm => ?_, h.dm⟩
  · rcases cs i q hq with h1 | ⟨_, rfl⟩
    · exact h.own i q h1
    · exact ⟨hp, hb⟩
  · rcases cs i q hq with h1 | ⟨h1, rfl⟩
    · rcases cs j r hr with h2 | ⟨h2, rfl⟩
      · exact h.nd i j q r h1 h2 hij x hx hy
      · exact hn x hy (Or.inr (Or.inr ⟨i, q, h1, hx⟩))
    · rcases cs j r hr with h2 | ⟨h2, rfl⟩
      · exact hn x hx (Or.inr (Or.inr ⟨j, r, h2, hy⟩))
      · omega
  · rcases cs i q hq with h1 | ⟨_, rfl⟩
    · exact h.ad k hk i q h1 hm
    · exact hn k hm (Or.inl hk)
  · rcases cs i q hq with h1 | ⟨_, rfl⟩
    · exact h.am k hk i q h1 hm
    · exact hn k hm (Or.inr (Or.inl hk))
/-- One pair has gone on. -/
theorem Duo.step {base : Nat} {w w' : World} {vd vm : Value} {xs ys : List Value} {ps : List Pr} (h : Duo base w vd vm xs ys ps) {t : Nat} {p : Pr} (hp : ps[t]? = some p) (hb : TwoP w (some p.b) (some p.c) p.F p.G w') (hbase : base ≤ w.heap.size) :
    ∃ ps', Duo base w' vd vm xs ys ps' ∧ ps'.length = ps.length ∧ ptd ps' = ptd ps ∧ ptm ps' = ptm ps ∧ ∃ K, Kept K w w' ∧ ∀ x ∈ K, base ≤ x := by
  obtain ⟨F', G', s', h1, h2, h3, h4⟩ := hb
  have htl := (List.getElem?_eq_some_iff.1 hp).1
  have hpo := h.own t p hp
  have hK : ∀ x ∈ p.F ++ p.G, base ≤ x := hpo.2
  have hnew : ∀ x ∈ F' ++ G', x ∈ p.F ++ p.G ∨ w.heap.size ≤ x := by
    intro x hx
    rcases List.mem_append.1 hx with hx | hx
    · rcases h3 x hx with h | h
      · exact Or.inl (by simp [h])
      · exact Or.inr h
    · rcases h4 x hx with h | h
      · exact Or.inl (by simp [h])
      · exact Or.inr h
  have cs : ∀ (i : Nat) (q : Pr), (ps.set t ⟨p.b, p.c, F', G', s'⟩)[i]? = some q → (i ≠ t ∧ ps[i]? = some q) ∨ (i = t ∧ q = ⟨p.b, p.c, F', G', s'⟩) := by
    intro i q hq
    rw [List.getElem?_set] at hq
    split at hq
    · rename_i he
      cases hq; right; exact ⟨he.symm, rfl⟩
    · rename_i he
      left; exact ⟨fun e => he e.symm, hq⟩
  refine ⟨ps.set t ⟨p.b, p.c, F', G', s'⟩, ⟨?_, ?_, fun i q hq => ?_, fun i j q r hq hr hij x hx hy => ?_, fun k hk i q hq hm => ?_, fun k hk i q hq hm => ?_, h.dm⟩, by simp, ?_, ?_, _, h2, hK⟩
  · exact own_kept h.rd h2 (fun x hx => h.ad x hx t p hp)
  · exact own_kept h.rm h2 (fun x hx => h.am x hx t p hp)
  · rcases cs i q hq with ⟨hi, h5⟩ | ⟨_, rfl⟩
    · refine ⟨(h.own i q h5).1.kept h2 (fun x hx hm => h.nd i t q p h5 hp hi x (by simp [hx]) hm) (fun x hx hm => h.nd i t q p h5 hp hi x (by simp [hx]) hm), (h.own i q h5).2⟩
    · refine ⟨h1, fun x hx => ?_⟩
      rcases hnew x hx with h6 | h6
      · exact hK x h6
      · omega
  · rcases cs i q hq with ⟨hi, h5⟩ | ⟨hi, rfl⟩
    · rcases cs j r hr with ⟨hj, h6⟩ | ⟨hj, rfl⟩
      · exact h.nd i j q r h5 h6 hij x hx hy
      · rcases hnew x hy with h7 | h7
        · exact h.nd i t q p h5 hp hi x hx h7
        · have := (h.own i q h5).1.lt x hx; omega
    · rcases cs j r hr with ⟨hj, h6⟩ | ⟨hj, rfl⟩
      · rcases hnew x hx with h7 | h7
        · exact h.nd j t r p h6 hp hj x hy h7
        · have := (h.own j r h6).1.lt x hy; omega
      · omega
  · rcases cs i q hq with ⟨hi, h5⟩ | ⟨hi, rfl⟩
    · exact h.ad k hk i q h5 hm
    · rcases hnew k hm with h7 | h7
      · exact h.ad k hk t p hp h7
      · have := (h.rd.lt k hk).2; omega
  · rcases cs i q hq with ⟨hi, h5⟩ | ⟨hi, rfl⟩
    · exact h.am k hk i q h5 hm
    · rcases hnew k hm with h7 | h7
      · exact h.am k hk t p hp h7
      · have := (h.rm.lt k hk).2; omega
  · unfold ptd
    rw [List.map_set]
    apply List.ext_getElem?
    intro i
    rw [List.getElem?_set]
    split
    · rename_i he; subst he; simp [htl]; rw [(List.getElem?_eq_some_iff.1 hp).2]
    · rfl
  · unfold ptm
    rw [List.map_set]
    apply List.ext_getElem?
    intro i
    rw [List.getElem?_set]
    split
    · rename_i he; subst he; simp [htl]; rw [(List.getElem?_eq_some_iff.1 hp).2]
    · rfl
/-- the places of the rows -/
theorem own_at {w : World} {base : Nat} {e : TypeId} {a : Option Addr} {n n' cap : Nat} {xs : List Value} (h : w.ownsRow base e 1 (.slice a n cap) n' xs) {i : Nat} {u : Value} (hu : xs[i]? = some u) : ∃ g, a = some ⟨g, 0, none⟩ ∧ base ≤ g ∧ w.cell? ⟨g, i, none⟩ = some u := by
  rcases h.2 with ⟨e1, e2⟩ | ⟨g, cap', cur, e1, hg, hh, r⟩
  · have := h.1
    have hi := (List.getElem?_eq_some_iff.1 hu).1
    simp at this
    omega
  · cases e1
    have := h.cells (g := g) rfl i u hu
    have hadd : (⟨g, 0, none⟩ : Addr).add i = ⟨g, i, none⟩ := by unfold Addr.add; split <;> simp_all
    rw [hadd] at this
    exact ⟨g, rfl, hg, this⟩
end Go.Proofs.Ytiabhgkndejigaa

namespace Go.Proofs.Ytiabhgkndejigaa
open Go.RowKit

theorem Duo.addD {base : Nat} {wr w4 w5 : World} {vd vd' vm : Value} {xs xs' ys : List Value} {ps : List Pr} (h : Duo base wr vd vm xs ys ps) {g b : Nat} {F : List Nat} {s : RS} {o : Obj} (k : Kept [g] wr w4) (hg : wr.heap.size ≤ g) (hR : Rs w4 b F s) (hF : ∀ x ∈ F, wr.heap.size ≤ x)
    (hgr : (w4.alloc o).grownBy w5 vd.ownBlock) (ho : w5.ownsRow base 45 1 vd' xs'.length xs') (hat : vd'.ownBlock = vd.ownBlock ∨ vd'.ownBlock = some (w4.alloc o).heap.size) :
    Duo base w5 vd' vm xs' ys ps ∧ Rs w5 b F s ∧ (∀ x ∈ F, ¬ Duo.has vd' vm ps x) ∧ Kept [g] wr w4 := by
  have d4 : Duo base w4 vd vm xs ys ps := h.keep k (fun x hx => by simp at hx; subst hx; exact h.new hg)
  have d5 := (d4.kept ((Kept.refl [] w4).alloc o)).growD hgr ho hat
  have ka : Kept [] w4 (w4.alloc o) := (Kept.refl [] w4).alloc o
  have kg : Kept vd.ownBlock.toList (w4.alloc o) w5 := (Kept.refl _ _).grown hgr (fun q hq => Or.inl (by simp [hq]))
  refine ⟨d5, (hR.kept ka (by simp)).kept kg (fun x hx hm => ?_), fun x hx hh => ?_, k⟩
  · have h1 := (h.rd.lt x (Option.mem_toList.1 hm)).2
    have h2 := hF x hx
    omega
  · have h2 := hF x hx
    have h3 := hR.lt x hx
    rcases hh with hh | hh | hh
    · rcases hat with e | e
      · have := (h.rd.lt x (by rw [← e]; exact hh)).2; omega
      · rw [e] at hh; simp at hh; omega
    · have := (h.rm.lt x hh).2; omega
    · have := h.lt (Or.inr (Or.inr hh)); omega
theorem Duo.addM {base : Nat} {w5 w6 w7 : World} {vd vm vm' : Value} {xs ys ys' : List Value} {ps : List Pr} (h : Duo base w5 vd vm xs ys ps) {b c : Nat} {F G : List Nat} {s : RS} {o : Obj} (hb : base ≤ w5.heap.size) (hFb : ∀ x ∈ F, base ≤ x) (hR : Rs w5 b F s) (hn : ∀ x ∈ F, ¬ Duo.has vd vm ps x) (k : Kept [] w5 w6) (hQ : Qs w6 c G s) (hG : ∀ x ∈ G, w5.heap.size ≤ x)
    (hgr : (w6.alloc o).grownBy w7 vm.ownBlock) (ho : w7.ownsRow base 49 1 vm' ys'.length ys') (hat : vm'.ownBlock = vm.ownBlock ∨ vm'.ownBlock = some (w6.alloc o).heap.size) :
    Duo base w7 vd vm' xs ys' (ps ++ [⟨b, c, F, G, s⟩]) := by
  have d6 := h.kept k
  have d7 := (d6.kept ((Kept.refl [] w6).alloc o)).growM hgr ho hat
  have ka : Kept [] w6 (w6.alloc o) := (Kept.refl [] w6).alloc o
  have kg : Kept vm.ownBlock.toList (w6.alloc o) w7 := (Kept.refl _ _).grown hgr (fun q hq => Or.inl (by simp [hq]))
  have hs := k.size
  have r7 : Rs w7 b F s := ((hR.kept k (by simp)).kept ka (by simp)).kept kg (fun x hx hm => hn x hx (Or.inr (Or.inl (Option.mem_toList.1 hm))))
  have q7 : Qs w7 c G s := (hQ.kept ka (by simp)).kept kg (fun x hx hm => by have h1 := (h.rm.lt x (Option.mem_toList.1 hm)).2; have h2 := hG x hx; omega)
  refine d7.push ⟨b, c, F, G, s⟩ ⟨r7, q7, fun x hx hg => ?_⟩ (fun x hx => ?_) (fun x hx hh => ?_)
  · have h1 := hR.lt x hx; have h2 := hG x hg; omega
  · rcases List.mem_append.1 hx with hx | hx
    · exact hFb x hx
    · have := hG x hx; omega
  · rcases List.mem_append.1 hx with hx | hx
    · rcases hh with hh | hh | hh
      · exact hn x hx (Or.inl hh)
      · rcases hat with e | e
        · exact hn x hx (Or.inr (Or.inl (by rw [← e]; exact hh)))
        · rw [e] at hh; simp at hh; have := hR.lt x hx; omega
      · exact hn x hx (Or.inr (Or.inr hh))
    · have h1 := hG x hx
      have h2 := hQ.lt x hx
      rcases hh with hh | hh | hh
      · have := (h.rd.lt x hh).2; omega
      · rcases hat with e | e
        · have := (h.rm.lt x (by rw [← e]; exact hh)).2; omega
        · rw [e] at hh; simp at hh; omega
      · have := h.lt (Or.inr (Or.inr hh)); omega

/-- All readers of the script on both sides, and none at all behind them. -/
def Sta (w0 w : World) (vd vm : Value) (k : Nat) : Prop :=
  ∃ ps : List Pr, ps.length = k ∧ Duo w0.heap.size w vd vm (ptd ps ++ [.pointer none]) (ptm ps ++ [.pointer none]) ps ∧ Kept [] w0 w
theorem Sta.kept {w0 w w' : World} {vd vm : Value} {k : Nat} (h : Sta w0 w vd vm k) (hk : Kept [] w w') : Sta w0 w' vd vm k := by
  obtain ⟨ps, h1, h2, h3⟩ := h
  exact ⟨ps, h1, h2.kept hk, h3.trans hk (by simp)⟩
theorem Sta.base {w0 w : World} {vd vm : Value} {k : Nat} (h : Sta w0 w vd vm k) : Kept [] w0 w := by
  obtain ⟨ps, h1, h2, h3⟩ := h
  exact h3
theorem Sta.len {w0 w : World} {vd vm : Value} {k : Nat} (h : Sta w0 w vd vm k) : ∃ a c a' c', vd = .slice a (k + 1) c ∧ vm = .slice a' (k + 1) c' := by
  obtain ⟨ps, h1, h2, h3⟩ := h
  obtain ⟨a, c, e1⟩ := own_len h2.rd
  obtain ⟨a', c', e2⟩ := own_len h2.rm
  refine ⟨a, c, a', c', ?_, ?_⟩
  · rw [e1]; simp [ptd_len, h1]
  · rw [e2]; simp [ptm_len, h1]
theorem Sta.last {w0 w : World} {a a' : Option Addr} {c c' k : Nat} (h : Sta w0 w (.slice a (k + 1) c) (.slice a' (k + 1) c') k) : ∃ g1, a = some ⟨g1, 0, none⟩ ∧ w.cell? ⟨g1, k, none⟩ = some (.pointer none) := by
  obtain ⟨ps, h1, h2, h3⟩ := h
  obtain ⟨g1, e1, _, c1⟩ := own_at h2.rd (i := k) (u := .pointer none) (by rw [List.getElem?_append_right (by rw [ptd_len]; omega), ptd_len, h1, Nat.sub_self]; rfl)
  exact ⟨g1, e1, c1⟩
theorem Sta.step {w0 w : World} {a a' : Option Addr} {c c' k : Nat} (h : Sta w0 w (.slice a (k + 1) c) (.slice a' (k + 1) c') k) {t : Nat} (ht : t < k + 1) :
    ∃ g1 g2 vo vq, a = some ⟨g1, 0, none⟩ ∧ a' = some ⟨g2, 0, none⟩ ∧ w.cell? ⟨g1, t, none⟩ = some vo ∧ w.cell? ⟨g2, t, none⟩ = some vq ∧
      ∀ W, Kept [] w W → ∀ kd wh n : Int, n ≤ 9223372036854775807 → Calls Try.prog 19 #[vo, vq, .agg #[.int .i64 kd, .int .i64 wh, .int .i64 n]] W fun e w' => e = .returned (.bool true) ∧ Sta w0 w' (.slice a (k + 1) c) (.slice a' (k + 1) c') k ∧ w'.cell? ⟨g1, t, none⟩ = some vo ∧ w'.cell? ⟨g2, t, none⟩ = some vq := by
  obtain ⟨ps, h1, h2, h3⟩ := h
  by_cases htk : t < k
  · obtain ⟨p, hp⟩ : ∃ p, ps[t]? = some p := ⟨ps[t]'(by rw [h1]; exact htk), List.getElem?_eq_getElem _⟩
    obtain ⟨g1, e1, _, c1⟩ := own_at h2.rd (i := t) (u := .pointer (some ⟨p.b, 0, none⟩)) (by rw [List.getElem?_append_left (by rw [ptd_len, h1]; exact htk)]; simp [ptd, hp])
    obtain ⟨g2, e2, _, c2⟩ := own_at h2.rm (i := t) (u := .pointer (some ⟨p.c, 0, none⟩)) (by rw [List.getElem?_append_left (by rw [ptm_len, h1]; exact htk)]; simp [ptm, hp])
    refine ⟨g1, g2, _, _, e1, e2, c1, c2, fun W hW kd wh n hn => ?_⟩
    have hdu := h2.kept hW
    have hkp := h3.trans hW (by simp)
    refine (takes_any (hdu.own t p hp).1 kd wh n hn).mono ?_
    rintro e w' ⟨rfl, hb⟩
    obtain ⟨ps', d1, d2, d3, d4, K, d5, d6⟩ := hdu.step hp hb hkp.size
    rw [← d3, ← d4] at d1
    have hk' : Kept [] w0 w' := hkp.trans d5 (fun x hx => Or.inr (d6 x hx))
    obtain ⟨g1', e1', _, c1'⟩ := own_at d1.rd (i := t) (u := .pointer (some ⟨p.b, 0, none⟩)) (by rw [d3, List.getElem?_append_left (by rw [ptd_len, h1]; exact htk)]; simp [ptd, hp])
    obtain ⟨g2', e2', _, c2'⟩ := own_at d1.rm (i := t) (u := .pointer (some ⟨p.c, 0, none⟩)) (by rw [d4, List.getElem?_append_left (by rw [ptm_len, h1]; exact htk)]; simp [ptm, hp])
    rw [e1] at e1'
    rw [e2] at e2'
    cases e1'
    cases e2'
    exact ⟨rfl, ⟨ps', by omega, d1, hk'⟩, c1', c2'⟩
  · have htk2 : t = k := by omega
    obtain ⟨g1, e1, _, c1⟩ := own_at h2.rd (i := t) (u := .pointer none) (by rw [List.getElem?_append_right (by rw [ptd_len]; omega), ptd_len, h1, htk2, Nat.sub_self]; rfl)
    obtain ⟨g2, e2, _, c2⟩ := own_at h2.rm (i := t) (u := .pointer none) (by rw [List.getElem?_append_right (by rw [ptm_len]; omega), ptm_len, h1, htk2, Nat.sub_self]; rfl)
    refine ⟨g1, g2, _, _, e1, e2, c1, c2, fun W hW kd wh n hn => ?_⟩
    have hdu := h2.kept hW
    have hkp := h3.trans hW (by simp)
    refine (takes_any (o := none) (q := none) (F := []) (G := []) (s := rF 1) ⟨⟨rfl, rfl⟩, ⟨rfl, rfl⟩, by simp⟩ kd wh n hn).mono ?_
    rintro e w' ⟨rfl, F', G', s', _, hk4, _⟩
    have hdu' := hdu.kept hk4
    obtain ⟨g1', e1', _, c1'⟩ := own_at hdu'.rd (i := t) (u := .pointer none) (by rw [List.getElem?_append_right (by rw [ptd_len]; omega), ptd_len, h1, htk2, Nat.sub_self]; rfl)
    obtain ⟨g2', e2', _, c2'⟩ := own_at hdu'.rm (i := t) (u := .pointer none) (by rw [List.getElem?_append_right (by rw [ptm_len]; omega), ptm_len, h1, htk2, Nat.sub_self]; rfl)
    rw [e1] at e1'
    rw [e2] at e2'
    cases e1'
    cases e2'
    exact ⟨rfl, ⟨ps, h1, hdu', hkp.trans hk4 (by simp)⟩, c1', c2'⟩

/-- Texts that came in. -/
def RowB (w : World) (v : Value) (ps : List (List Nat)) : Prop :=
  ∃ a cap, v = .slice a ps.length cap ∧ ps.length ≤ 5864062014805 ∧ ∀ (j : Nat) (p : List Nat), ps[j]? = some p → (∀ y ∈ p, y < 256) ∧ p.length ≤ 140737488355326 ∧ ∃ b off va vc, a = some ⟨b, off, none⟩ ∧ b < w.heap.size ∧ w.cell? ⟨b, off + j, none⟩ = some (.slice va p.length vc) ∧ Wide w (.slice va p.length vc) p

/-- What was lent, in its parts. -/
theorem lent_parts {w : World} {base g n cap : Nat} {P : List Nat} (hn : P.length = n) (h : w.ownsRow base 5 1 (.slice (some ⟨g, 0, none⟩) (n + 2) cap) (n + 2) (u8s (P ++ [201, 77]))) :
    w.ownsRow base 5 1 (.slice (some ⟨g, 0, none⟩) n cap) n (u8s P) ∧ w.cell? ⟨g, n, none⟩ = some (.int .u8 201) ∧ w.cell? ⟨g, n + 1, none⟩ = some (.int .u8 77) := by
  have hc := h.cells (g := g) rfl
  have hadd : ∀ i, (⟨g, 0, none⟩ : Addr).add i = ⟨g, i, none⟩ := by intro i; unfold Addr.add; split <;> simp_all
  refine ⟨?_, ?_, ?_⟩
  · have := own_take (k := n) h (by omega)
    have e : (u8s (P ++ [201, 77])).take n = u8s P := by rw [u8s_append, List.take_append_of_le_length (by rw [u8s_length]; omega), List.take_of_length_le (by rw [u8s_length]; omega)]
    rw [e] at this
    exact this
  · rw [← hadd]; exact hc n _ (by subst hn; simp [u8s])
  · rw [← hadd]; exact hc (n + 1) _ (by subst hn; simp [u8s])

set_option maxRecDepth 100000 in
theorem round_far (x : Int) (n : Nat) (w : World) (hn : 0 < n) (hn2 : n ≤ 1000000000000000) :
    Calls Try.prog 11 #[.int .i64 x, .int .i64 n] w fun e w' => e = .returned (.int .i64 (rnd x n : Nat)) ∧ w = w' := by
  obtain ⟨r1, r2⟩ := rnd_of x n hn
  have hlt := rnd_lt x n hn
  go_enter Try.func11, Try.ntmps11
  go_wp2
  · rename_i hneg; clear hneg
    go_ret
    refine ⟨ret_int ?_, rfl⟩
    rfl
  · rename_i hpos
    go_ret
    exact ⟨ret_int (r2 hpos), rfl⟩
end Go.Proofs.Ytiabhgkndejigaa

namespace Go.Proofs.Ytiabhgkndejigaa
open Go.RowKit

theorem infoPd : (Try.prog.info? 45).map (fun i => (i.zero, i.size, i.bytes)) = some (some (.pointer none), 1, 8) := by kernel_rfl
theorem infoPm : (Try.prog.info? 49).map (fun i => (i.zero, i.size, i.bytes)) = some (some (.pointer none), 1, 8) := by kernel_rfl

set_option maxRecDepth 100000 in
set_option maxHeartbeats 8000000 in
theorem reads_walk {w : World} {v u : Value} {tx : List (List Nat)} {ts : List Tk} (hv : RowB w v tx) (hu : RowK w u ts) :
    Calls Try.prog 4 #[v, u] w fun e w' => e = .returned (.bool true) ∧ Kept [] w w' := by
  obtain ⟨id, hid, hd0, hd1, hd2⟩ := info_parts infoPd
  have HID := hide (⟨hid, hd0, hd1, hd2⟩ : _ ∧ _ ∧ _ ∧ _)
  obtain ⟨im, him, hm0, hm1, hm2⟩ := info_parts infoPm
  have HIM := hide (⟨him, hm0, hm1, hm2⟩ : _ ∧ _ ∧ _ ∧ _)
  clear hid hd0 hd1 hd2 him hm0 hm1 hm2
  obtain ⟨xa, xc, rfl, hLb, hall⟩ := hv
  obtain ⟨ya, yc, rfl, hNb, hsc⟩ := hu
  have HA := hide hall
  have HC := hide hsc
  generalize hLL : tx.length = L at *
  have HL := hide hLL
  generalize hNN : ts.length = N at *
  have HN := hide hNN
  clear hLL hNN hall hsc
  go_enter Try.func4, Try.ntmps4
  go_wp2_with fail
  go_loopw [5, 6, 7] (fun r s i wr => ∃ (ps : List Pr) (k : Nat) (ra sa : Option Addr) (rc sc : Nat), k ≤ L ∧ i = .int .i64 (k : Int) ∧ r = .slice ra k rc ∧ s = .slice sa k sc ∧ Hid (ps.length = k ∧ Duo w.heap.size wr r s (ptd ps) (ptm ps) ps ∧ Kept [] w wr)) (fun _ _ i _ => L - (intOf i).toNat)
  case atStart => exact ⟨[], 0, none, none, 0, 0, by omega, rfl, rfl, rfl, hide ⟨rfl, Duo.nil _ _, Kept.refl _ _⟩⟩
  case round =>
    obtain ⟨ps, k, ra, sa, rc, sc, hk, rfl, rfl, rfl, HR⟩ := hrel
    by_cases hlt : k < L
    · obtain ⟨P, hP⟩ : ∃ P, tx[k]? = some P := ⟨tx[k]'(by rw [unhide HL]; exact hlt), List.getElem?_eq_getElem _⟩
      obtain ⟨hPb, hPl, xb, xo, va, vc, hxa, hxb, cx0, hPw⟩ := unhide HA k P hP
      subst hxa
      have hkp := (unhide HR).2.2
      have HXB := hide hxb
      have cx : wr.cell? ⟨xb, xo + k, none⟩ = some (.slice va P.length vc) := (hkp.cell (p := ⟨xb, xo + k, none⟩) hxb (by simp)).trans cx0
      have HCX : Hid (∀ W, Kept [] w W → W.cell? ⟨xb, xo + k, none⟩ = some (.slice va P.length vc)) := fun W hW => (hW.cell (p := ⟨xb, xo + k, none⟩) hxb (by simp)).trans cx0
      obtain ⟨n, hn⟩ : ∃ n, P.length = n := ⟨_, rfl⟩
      have HN2 := hide hn
      rw [hn] at cx HCX hPw hPl
      have HPW := hide hPw
      have HPB := hide hPb
      have HPL := hide hPl
      have HLE := hide (lent_any (hPw.kept hkp) (by omega))
      rw [hn] at HLE
      have HKP := hide hkp
      have hkL : (k : Int) < (L : Int) := by omega
      have hk63 : k + 1 ≤ 5864062014805 := by omega
      clear hP cx0 hPw hPb hPl hkp hn hxb
      go_upto_region 11 with (first
        | (go_at_call 14; refine (unhide HLE).mono ?_; rintro e w1 ⟨g, cap, rfl, hc1, ho1, hk1⟩; have hp1 := lent_parts (unhide HN2) ho1; have HO1 := hide ho1; have HP1 := hide hp1; have HC1 := hide hc1; have HK1 := hide hk1; have HG1 := hide ((ho1.lt g rfl).1); clear ho1 hp1 hk1 HLE)
        | (go_at_call 15; refine (read_s (sees_own (unhide HN2) (unhide HP1).1) (by rw [unhide HN2]; have := unhide HPL; omega) (unhide HPB)).mono ?_; rintro e w2 ⟨rb, F, rfl, hr2, hF2, hk2⟩; have HR2 := hide hr2; have HF2 := hide hF2; have HK2 := hide hk2; have cx2 := unhide HCX w2 (((unhide HKP).trans (unhide HK1) (by simp)).trans hk2 (by simp)); clear hr2 hF2 hk2)
        | (go_at_call 16; refine (kept_yes (n := n) (P := P) (unhide HN2).symm (unhide HPL) (unhide HC1) (sees_own (unhide HN2) (own_kept (unhide HP1).1 (unhide HK2) (by simp))) ((unhide HPW).kept (((unhide HKP).trans (unhide HK1) (by simp)).trans (unhide HK2) (by simp))) ((((unhide HK2).cell (p := ⟨g, n, none⟩) (((unhide HO1).lt g rfl).2) (by simp))).trans (unhide HP1).2.1) ((((unhide HK2).cell (p := ⟨g, n + 1, none⟩) (((unhide HO1).lt g rfl).2) (by simp))).trans (unhide HP1).2.2)).mono ?_; rintro e w3 ⟨rfl, md, rfl⟩)
        | (go_at_call 17; refine (spoil_any (unhide HPB) (by have := unhide HPL; omega) (own_kept (unhide HP1).1 (((unhide HK2).trans ((Kept.refl [] w2).drewN md) (by simp))) (by simp))).mono ?_; rintro e w4 ⟨rfl, -, hk4⟩; have HK4 := hide hk4; clear hk4))
      have HK14 : Hid (Kept [g] wr w4) := ((((unhide HK1).trans (unhide HK2) (by simp)).drewN md).mono (by simp)).trans (unhide HK4) (fun x hx => Or.inl hx)
      have HK04 : Hid (Kept [] w w4) := (unhide HKP).trans (unhide HK14) (fun x hx => Or.inr (by simp at hx; subst hx; have := unhide HG1; have := (unhide HKP).size; omega))
      have HR4 : Hid (Rs w4 rb F ⟨0, P, []⟩) := ((unhide HR2).kept ((Kept.refl [] w2).drewN md) (by simp)).kept (unhide HK4) (fun x hx hm => by simp at hm; subst hm; have h1 := unhide HF2 x hx; have h2 := ((unhide HO1).lt x rfl).2; omega)
      have HFW : Hid (∀ x ∈ F, wr.heap.size ≤ x) := fun x hx => by have h1 := unhide HF2 x hx; have h2 := (unhide HK1).size; omega
      have hDl : (ptd ps).length = k := by rw [ptd_len]; exact (unhide HR).1
      have hMl : (ptm ps).length = k := by rw [ptm_len]; exact (unhide HR).1
      have HDL := hide hDl
      have HML := hide hMl
      have HRD4 : Hid (w4.ownsRow w.heap.size 45 1 (.slice ra k rc) k (ptd ps)) := by
        have h1 := (unhide HR).2.1.rd
        rw [hDl] at h1
        exact own_kept h1 (unhide HK14) (fun x hx => by simp; intro e; subst e; have := (h1.lt x hx).2; have := unhide HG1; omega)
      clear cx hDl hMl
      go_wp2_with (at_builtin; refine wpList_append_own_at _ rfl _ _ 42 rfl w.heap.size 45 id _ 1 8 Try.underlying42 (unhide HID).1 (unhide HID).2.1 (unhide HID).2.2.1 (unhide HID).2.2.2 rfl (by decide) _ _ _ rfl ((unhide HRD4).alloc _) ⟨w4.heap.size, 0, none⟩ 1 1 [.pointer (some ⟨rb, 0, none⟩)] rfl rfl (Go.cell_one_new _ _ _) (by simp [Value.oneCell']) (by unfold maxLen; omega) (by omega) (by have := (unhide HK04).size; simp; omega) ?_)
      intro v5 w5 ho5 hg5 hx1 hx5
      obtain ⟨a5, c5, rfl⟩ := own_len ho5
      have hl5 : (ptd ps ++ [Value.pointer (some ⟨rb, 0, none⟩)]).length = k + 1 := by rw [List.length_append, unhide HDL]; rfl
      have HAD := hide ((unhide HR).2.1.addD (unhide HK14) (unhide HG1) (unhide HR4) (unhide HFW) hg5 (xs' := ptd ps ++ [.pointer (some ⟨rb, 0, none⟩)]) (by rw [hl5]; exact ho5) (by simpa using hx5))
      have HK05 : Hid (Kept [] w w5) := ((unhide HK04).alloc _).grown hg5 (fun q hq => Or.inr ((unhide HRD4).lt q hq).1)
      have cx5 := unhide HCX w5 (unhide HK05)
      have HQR := hide (qread_any ((unhide HPW).kept (unhide HK05)) (unhide HPB) (by rw [unhide HN2]; have := unhide HPL; omega))
      have HRM5 : Hid (w5.ownsRow w.heap.size 49 1 (.slice sa k sc) k (ptm ps)) := by
        have h1 := (unhide HAD).1.rm
        rw [unhide HML] at h1
        exact h1
      clear ho5 hg5 hx1 hx5 hl5 cx2
      go_wp2_with (first
        | (go_at_call 18; refine (unhide HQR).mono ?_; rintro e w6 ⟨qc, G, rfl, hq6, hG6, hk6⟩; have HQ6 := hide hq6; have HG6 := hide hG6; have HK6 := hide hk6; clear hq6 hG6 hk6 HQR)
        | (at_builtin; refine wpList_append_own_at _ rfl _ _ 43 rfl w.heap.size 49 im _ 1 8 Try.underlying43 (unhide HIM).1 (unhide HIM).2.1 (unhide HIM).2.2.1 (unhide HIM).2.2.2 rfl (by decide) _ _ _ rfl ((own_kept (unhide HRM5) (unhide HK6) (by simp)).alloc _) ⟨w6.heap.size, 0, none⟩ 1 1 [.pointer (some ⟨qc, 0, none⟩)] rfl rfl (Go.cell_one_new _ _ _) (by simp [Value.oneCell']) (by unfold maxLen; omega) (by omega) (by have := (unhide HK05).size; have := (unhide HK6).size; simp; omega) ?_))
      intro v7 w7 ho7 hg7 hx1 hx7
      obtain ⟨a7, c7, rfl⟩ := own_len ho7
      have hl7 : (ptm ps ++ [Value.pointer (some ⟨qc, 0, none⟩)]).length = k + 1 := by rw [List.length_append, unhide HML]; rfl
      have HFB : Hid (∀ x ∈ F, w.heap.size ≤ x) := fun x hx => by have h1 := unhide HFW x hx; have h2 := (unhide HKP).size; omega
      have HAM := hide ((unhide HAD).1.addM (unhide HK05).size (unhide HFB) (unhide HAD).2.1 (unhide HAD).2.2.1 (unhide HK6) (unhide HQ6) (unhide HG6) hg7 (ys' := ptm ps ++ [.pointer (some ⟨qc, 0, none⟩)]) (by rw [hl7]; exact ho7) (by simpa using hx7))
      have HK07 : Hid (Kept [] w w7) := (((unhide HK05).trans (unhide HK6) (by simp)).alloc _).grown hg7 (fun q hq => Or.inr ((unhide HRM5).lt q hq).1)
      clear ho7 hg7 hx1 hx7 hl7 cx5
      go_wp2_with fail
      refine ⟨⟨ps ++ [⟨rb, qc, F, G, ⟨0, P, []⟩⟩], k + 1, a5, a7, c5, c7, by omega, by simp, rfl, rfl, hide ⟨by rw [List.length_append, (unhide HR).1]; rfl, ?_, unhide HK07⟩⟩, by simp [intOf]; omega⟩
      have h1 := unhide HAM
      have e1 : ptd (ps ++ [⟨rb, qc, F, G, ⟨0, P, []⟩⟩]) = ptd ps ++ [.pointer (some ⟨rb, 0, none⟩)] := by simp [ptd]
      have e2 : ptm (ps ++ [⟨rb, qc, F, G, ⟨0, P, []⟩⟩]) = ptm ps ++ [.pointer (some ⟨qc, 0, none⟩)] := by simp [ptm]
      rw [e1, e2]
      exact h1
    · obtain rfl : k = L := by omega
      have hDl : (ptd ps).length = k := by rw [ptd_len]; exact (unhide HR).1
      have hMl : (ptm ps).length = k := by rw [ptm_len]; exact (unhide HR).1
      have HDL := hide hDl
      have HML := hide hMl
      have HKP := hide (unhide HR).2.2
      have HRD4 : Hid (wr.ownsRow w.heap.size 45 1 (.slice ra k rc) k (ptd ps)) := by
        have h1 := (unhide HR).2.1.rd
        rw [hDl] at h1
        exact h1
      clear hDl hMl HA HL
      go_wp2_with (at_builtin; refine wpList_append_own_at _ rfl _ _ 42 rfl w.heap.size 45 id _ 1 8 Try.underlying42 (unhide HID).1 (unhide HID).2.1 (unhide HID).2.2.1 (unhide HID).2.2.2 rfl (by decide) _ _ _ rfl ((unhide HRD4).alloc _) ⟨wr.heap.size, 0, none⟩ 1 1 [.pointer none] rfl rfl (Go.cell_one_new _ _ _) (by simp [Value.oneCell']) (by unfold maxLen; omega) (by omega) (by have := (unhide HKP).size; simp; omega) ?_)
      intro v5 w5 ho5 hg5 hx1 hx5
      obtain ⟨a5, c5, rfl⟩ := own_len ho5
      have hl5 : (ptd ps ++ [Value.pointer none]).length = k + 1 := by rw [List.length_append, unhide HDL]; rfl
      have HAD := hide (((unhide HR).2.1.kept ((Kept.refl [] wr).alloc _)).growD hg5 (xs' := ptd ps ++ [.pointer none]) (by rw [hl5]; exact ho5) (by simpa using hx5))
      have HK05 : Hid (Kept [] w w5) := ((unhide HKP).alloc _).grown hg5 (fun q hq => Or.inr ((unhide HRD4).lt q hq).1)
      have HRM5 : Hid (w5.ownsRow w.heap.size 49 1 (.slice sa k sc) k (ptm ps)) := by
        have h1 := (unhide HAD).rm
        rw [unhide HML] at h1
        exact h1
      clear ho5 hg5 hx1 hx5 hl5 HRD4
      go_wp2_with (at_builtin; refine wpList_append_own_at _ rfl _ _ 43 rfl w.heap.size 49 im _ 1 8 Try.underlying43 (unhide HIM).1 (unhide HIM).2.1 (unhide HIM).2.2.1 (unhide HIM).2.2.2 rfl (by decide) _ _ _ rfl ((unhide HRM5).alloc _) ⟨w5.heap.size, 0, none⟩ 1 1 [.pointer none] rfl rfl (Go.cell_one_new _ _ _) (by simp [Value.oneCell']) (by unfold maxLen; omega) (by omega) (by have := (unhide HK05).size; simp; omega) ?_)
      intro v7 w7 ho7 hg7 hx1 hx7
      obtain ⟨a7, c7, rfl⟩ := own_len ho7
      have hl7 : (ptm ps ++ [Value.pointer none]).length = k + 1 := by rw [List.length_append, unhide HML]; rfl
      have HAM := hide (((unhide HAD).kept ((Kept.refl [] w5).alloc _)).growM hg7 (ys' := ptm ps ++ [.pointer none]) (by rw [hl7]; exact ho7) (by simpa using hx7))
      have HST : Hid (Sta w w7 (.slice a5 (k + 1) c5) (.slice a7 (k + 1) c7) k) := ⟨ps, (unhide HR).1, unhide HAM, ((unhide HK05).alloc _).grown hg7 (fun q hq => Or.inr ((unhide HRM5).lt q hq).1)⟩
      clear ho7 hg7 hx1 hx7 hl7 HAM HAD HRM5 HK05 HKP HID HIM HDL HML HR
      go_wp2_with fail
      go_loopw [11] (fun i wr => ∃ j : Nat, j ≤ N ∧ i = .int .i64 (j : Int) ∧ Hid (Sta w wr (.slice a5 (k + 1) c5) (.slice a7 (k + 1) c7) k)) (fun i _ => N - (intOf i).toNat)
      case atStart => exact ⟨0, by omega, rfl, HST⟩
      case round =>
        obtain ⟨j, hj, rfl, HS⟩ := hrel
        clear HST
        by_cases hlt2 : j < N
        · obtain ⟨o, ho⟩ : ∃ o, ts[j]? = some o := ⟨ts[j]'(by rw [unhide HN]; exact hlt2), List.getElem?_eq_getElem _⟩
          obtain ⟨hok, ob, off, hya, hbl, q0, q1, q2⟩ := unhide HC j o ho
          subst hya
          have hkp := (unhide HS).base
          have hcells : ∀ W, Kept [] w W → W.cell? ⟨ob, off + j * 3, none⟩ = some (.int .i64 o.kind) ∧ W.cell? ⟨ob, off + j * 3 + 1, none⟩ = some (.int .i64 o.which) ∧ W.cell? ⟨ob, off + j * 3 + 2, none⟩ = some (.int .i64 o.i) := fun W hW =>
            ⟨(hW.cell (p := ⟨ob, off + j * 3, none⟩) hbl (by simp)).trans q0, (hW.cell (p := ⟨ob, off + j * 3 + 1, none⟩) hbl (by simp)).trans q1, (hW.cell (p := ⟨ob, off + j * 3 + 2, none⟩) hbl (by simp)).trans q2⟩
          obtain ⟨e0, e1, e2⟩ := hcells wr hkp
          have HRO := fun W => hide (round_far o.which (k + 1) W (by omega) (by omega))
          have hrl := rnd_lt o.which (k + 1) (by omega)
          obtain ⟨t, ht⟩ : ∃ t, rnd o.which (k + 1) = t := ⟨_, rfl⟩
          rw [ht] at HRO hrl
          obtain ⟨g1, g2, vo, vq, hga, hgb, c1, c2, hst⟩ := (unhide HS).step hrl
          subst hga
          subst hgb
          have HTK : Hid (∀ W, Quiet wr W → Calls Try.prog 19 #[vo, vq, .agg #[.int .i64 o.kind, .int .i64 o.which, .int .i64 o.i]] W fun e w' => e = .returned (.bool true) ∧ Sta w w' (.slice (some ⟨g1, 0, none⟩) (k + 1) c5) (.slice (some ⟨g2, 0, none⟩) (k + 1) c7) k ∧ (w'.cell? ⟨ob, off + j * 3, none⟩ = some (.int .i64 o.kind) ∧ w'.cell? ⟨ob, off + j * 3 + 1, none⟩ = some (.int .i64 o.which) ∧ w'.cell? ⟨ob, off + j * 3 + 2, none⟩ = some (.int .i64 o.i)) ∧ w'.cell? ⟨g1, t, none⟩ = some vo ∧ w'.cell? ⟨g2, t, none⟩ = some vq) := by
            intro W hQ
            refine (hst W hQ.kept o.kind o.which o.i hok.i2).mono ?_
            rintro e w' ⟨rfl, s1, s2, s3⟩
            exact ⟨rfl, s1, hcells w' s1.base, s2, s3⟩
          have t0 : (0 : Int) ≤ (t : Int) := by omega
          have t1 : (t : Int) < (k : Int) + 1 := by omega
          clear hcells hst hkp hok ho ht q0 q1 q2 hbl
          go_wp2_with (first
            | (go_at_call 11; refine (unhide (HRO _)).mono ?_; rintro e w5 ⟨rfl, hq⟩; subst hq; clear HRO)
            | fail)
          generalize o.kind = o0 at *
          generalize o.which = o1 at *
          generalize o.i = o2 at *
          go_region_held3 (fun W => W.cell? ⟨ob, off + j * 3, none⟩ = some (.int .i64 o0) ∧ W.cell? ⟨ob, off + j * 3 + 1, none⟩ = some (.int .i64 o1) ∧ W.cell? ⟨ob, off + j * 3 + 2, none⟩ = some (.int .i64 o2) ∧ W.cell? ⟨g1, t, none⟩ = some vo ∧ W.cell? ⟨g2, t, none⟩ = some vq) (go_keep) (first
            | (go_at_call 19; refine (unhide HTK _ (by first | exact Quiet.refl _ | exact (Quiet.refl _).drew | exact (Quiet.refl _).drewN _)).mono ?_; rintro e w6 ⟨rfl, hs6, ⟨x0, x1, x2⟩, x3, x4⟩; have HS6 := hide hs6; clear HTK hs6))
          go_wp2_with fail
          exact ⟨⟨j + 1, by omega, by simp, HS6⟩, by simp [intOf]; omega⟩
        · obtain rfl : j = N := by omega
          clear HC HN
          go_wp2_with fail
          go_loopw [14] (fun i wr => ∃ t : Nat, t ≤ k + 1 ∧ i = .int .i64 (t : Int) ∧ Hid (Sta w wr (.slice a5 (k + 1) c5) (.slice a7 (k + 1) c7) k)) (fun i _ => k + 1 - (intOf i).toNat)
          case atStart => exact ⟨0, by omega, rfl, HS⟩
          case round =>
            obtain ⟨t, ht, rfl, HT⟩ := hrel
            clear HS
            by_cases hlt3 : t < k + 1
            · obtain ⟨g1, g2, vo, vq, hga, hgb, c1, c2, hst⟩ := (unhide HT).step hlt3
              subst hga
              subst hgb
              have HTK : Hid (∀ W, Quiet wr W → Calls Try.prog 19 #[vo, vq, .agg #[.int .i64 10, .int .i64 0, .int .i64 0]] W fun e w' => e = .returned (.bool true) ∧ Sta w w' (.slice (some ⟨g1, 0, none⟩) (k + 1) c5) (.slice (some ⟨g2, 0, none⟩) (k + 1) c7) k ∧ w'.cell? ⟨g1, t, none⟩ = some vo ∧ w'.cell? ⟨g2, t, none⟩ = some vq) := fun W hQ => hst W hQ.kept 10 0 0 (by omega)
              have t0 : (0 : Int) ≤ (t : Int) := by omega
              have t1 : (t : Int) < (k : Int) + 1 := by omega
              clear hst
              go_wp2_with fail
              go_region_held3 (fun W => W.cell? ⟨g1, t, none⟩ = some vo ∧ W.cell? ⟨g2, t, none⟩ = some vq) (go_keep) (first
                | (go_at_call 19; refine (unhide HTK _ (by first | exact Quiet.refl _ | exact (Quiet.refl _).drew | exact (Quiet.refl _).drewN _)).mono ?_; rintro e w6 ⟨rfl, hs6, x3, x4⟩; have HS6 := hide hs6; clear HTK hs6))
              obtain ⟨g1', g2', vo', vq', hga', hgb', c1', c2', hst'⟩ := (unhide HS6).step hlt3
              cases hga'
              cases hgb'
              have hvo : vo' = vo := by rw [x3] at c1'; exact (Option.some.inj c1').symm
              have hvq : vq' = vq := by rw [x4] at c2'; exact (Option.some.inj c2').symm
              subst hvo
              subst hvq
              have HTK : Hid (∀ W, Quiet w6 W → Calls Try.prog 19 #[vo', vq', .agg #[.int .i64 11, .int .i64 0, .int .i64 0]] W fun e w' => e = .returned (.bool true) ∧ Sta w w' (.slice (some ⟨g1, 0, none⟩) (k + 1) c5) (.slice (some ⟨g2, 0, none⟩) (k + 1) c7) k ∧ w'.cell? ⟨g1, t, none⟩ = some vo' ∧ w'.cell? ⟨g2, t, none⟩ = some vq') := fun W hQ => hst' W hQ.kept 11 0 0 (by omega)
              clear hst' c1 c2 c1' c2'
              go_wp2_with fail
              go_region_held3 (fun W => W.cell? ⟨g1, t, none⟩ = some vo' ∧ W.cell? ⟨g2, t, none⟩ = some vq') (go_keep) (first
                | (go_at_call 19; refine (unhide HTK _ (by first | exact Quiet.refl _ | exact (Quiet.refl _).drew | exact (Quiet.refl _).drewN _)).mono ?_; rintro e w8 ⟨rfl, hs8, y3, y4⟩; have HS8 := hide hs8; clear HTK hs8))
              go_wp2_with fail
              exact ⟨⟨t + 1, by omega, by simp, HS8⟩, by simp [intOf]; omega⟩
            · obtain rfl : t = k + 1 := by omega
              obtain ⟨g1, hga, cl⟩ := (unhide HT).last
              subst hga
              have HDN := hide (rdone_nil wr)
              have hw1 : IntKind.i64.wrap ((k : Int) + 1 - 1) = (k : Int) := by rw [IntKind.wrap_i64]; omega
              go_wp2_with (first | (go_at_call 20; refine (unhide HDN).mono ?_; rintro e w6 ⟨rfl, hq⟩; subst hq; clear HDN))
              go_ret
              exact ⟨rfl, (unhide HT).base⟩
end Go.Proofs.Ytiabhgkndejigaa

namespace Go.Proofs.Ytiabhgkndejigaa
open Go.ChangeShapes Go.WideShapes Go.ChangeAt Go.RowKit

theorem add_none (b off j : Nat) : (⟨b, off, none⟩ : Addr).add j = ⟨b, off + j, none⟩ := by unfold Addr.add; split <;> simp_all
theorem add_add (x : Addr) (i j : Nat) (h : x.spot = none) : (x.add i).add j = ⟨x.block, x.off + i + j, none⟩ := by
  obtain ⟨b, off, sp⟩ := x
  simp only at h
  subst h
  rw [add_none, add_none]
theorem cells5 : Try.prog.cellsOf 5 = 1 := by kernel_rfl
theorem cells22 : Try.prog.cellsOf 25 = 1 := by kernel_rfl
theorem cells_int : Try.prog.cellsOf 3 = 1 := by kernel_rfl
theorem cells_take : Try.prog.cellsOf 52 = 3 := by kernel_rfl
theorem bytes5 : Try.prog.bytesOf 5 = 1 := by kernel_rfl
theorem bytes22 : Try.prog.bytesOf 25 = 24 := by kernel_rfl
theorem bytes_take : Try.prog.bytesOf 52 = 24 := by kernel_rfl
theorem laidOut : laidOutB Try.prog = true := by kernel_rfl
def natOf : Value → Nat
  | .int _ z => z.toNat
  | _ => 0
theorem weights_all {H : Type} {P : Program} {e : TypeId} : ∀ {l : List (DataW H)} {d : DataW H}, d ∈ l → ∀ x ∈ d.weights P e, x ∈ DataW.weightsAll P e l
  | y :: r, d, h, x, hx => by
    rw [DataW.weightsAll]
    rcases List.mem_cons.1 h with h1 | h1
    · subst h1; exact List.mem_append_left _ hx
    · exact List.mem_append_right _ (weights_all h1 x hx)

theorem open_bytesW {H : Type} {enc : TypeId × Value → H} {W : World} {k : Nat} {cs : List Value} {d : DataW H} {q : List MemPlace} (h : DataW.trod enc Try.prog W 0 (fun _ => true) true k 25 cs = some (d, q)) (hw : ∀ x ∈ d.weights Try.prog 25, x ≤ reachBytes) :
    ∃ a n cap bs, cs = [.slice a n cap] ∧ Wide W (.slice a n cap) bs ∧ (∀ b ∈ bs, b < 256) ∧ bs.length = n ∧ n ≤ 140737488355326 := by
  rcases Go.Deep.open_slice1 Try.underlying25 cells5 h with ⟨rfl, _⟩ | ⟨a, len, cap, m, n, V, D, Pl, rfl, _, hl, hm, hmm, hxx, hall⟩
  · exact ⟨none, 0, 0, [], rfl, Or.inl (Or.inl ⟨rfl, rfl⟩), by simp, rfl, by omega⟩
  · have hmc : m = cap := by simpa using hmm
    subst hmc
    obtain ⟨hxd, _⟩ := Prod.mk.inj hxx
    have hv : ∀ i, i < m → ∃ z : Nat, V i = .int .u8 (z : Int) ∧ z < 256 := fun i hi => by
      obtain ⟨z, hz, _, hw⟩ := DataW.trod_int Try.underlying5 (hall i (by omega)).2
      have hb := bounds_u8 hw
      have e : V i = .int .u8 z := by simpa using hz
      exact ⟨z.toNat, by rw [e]; congr 1; omega, by omega⟩
    have hlen : ((List.range len).map fun i => natOf (V i)).length = len := by simp
    refine ⟨some a, len, m, (List.range len).map fun i => natOf (V i), rfl, ?_, ?_, hlen, ?_⟩
    · by_cases h0 : m = 0
      · subst h0
        have h00 : len = 0 := by omega
        subst h00
        exact Or.inr ⟨a, rfl, by simp⟩
      · have h6 := (hall 0 (by omega)).1
        have e0 : a.add 0 = a := by simp [Addr.add]
        rw [e0] at h6
        have hsp := World.cell?_spot h6
        have hbl := World.block_lt_of_cell? W _ h6
        obtain ⟨b, off, sp⟩ := a
        simp only at hsp
        subst hsp
        refine Or.inl (Or.inr ⟨b, off, m, by rw [hlen], by rw [hlen]; exact hl, hm, hbl, fun j hj => ?_⟩)
        rw [hlen] at hj
        have h7 := (hall j (by omega)).1
        rw [add_none] at h7
        obtain ⟨z, hz, hz2⟩ := hv j (by omega)
        rw [h7, hz]
        simp [hj, natOf, hz]
    · intro b hb
      obtain ⟨i, hi, rfl⟩ := List.mem_map.1 hb
      obtain ⟨z, hz, hz2⟩ := hv i (by have : i < len := by simpa using hi
                                      omega)
      rw [hz]; simpa [natOf] using hz2
    · have h3 := hw ((((List.range len).map D).length + ((List.range (m - len)).map fun j => D (len + j)).length) * Try.prog.bytesOf 5) (by rw [hxd]; simp [DataW.weights, Try.underlying25])
      rw [bytes5] at h3
      simp only [List.length_map, List.length_range, reachBytes] at h3
      omega

theorem open_texts {H : Type} {enc : TypeId × Value → H} {W : World} {k : Nat} {a : Option Addr} {n cap : Nat} {d : DataW H} {q : List MemPlace} (h : DataW.trod enc Try.prog W 0 (fun _ => true) true k 40 [.slice a n cap] = some (d, q)) (hw : ∀ x ∈ d.weights Try.prog 40, x ≤ reachBytes) :
    ∃ ps, RowB W (.slice a n cap) ps := by
  rcases Go.Deep.open_slice1 Try.underlying40 cells22 h with ⟨hcs, _⟩ | ⟨y, len, cap', m, k', V, D, Pl, hcs, _, hl, hm, hmm, hxx, hall⟩
  · simp at hcs
    obtain ⟨rfl, rfl, rfl⟩ := hcs
    exact ⟨[], ⟨none, 0, rfl, by simp, fun j t hj => by simp at hj⟩⟩
  · simp at hcs
    obtain ⟨rfl, rfl, rfl⟩ := hcs
    have hmc : m = cap := by simpa using hmm
    subst hmc
    obtain ⟨hxd, _⟩ := Prod.mk.inj hxx
    have hin : ∀ i, i < n → ∀ y ∈ (D i).weights Try.prog 25, y ≤ reachBytes := by
      intro i hi y hy
      refine hw y ?_
      rw [hxd]
      simp only [DataW.weights, Try.underlying40]
      refine List.mem_cons_of_mem _ (List.mem_append_left _ (weights_all (d := D i) ?_ y hy))
      exact List.mem_map.2 ⟨i, by simpa using hi, rfl⟩
    have hex : ∀ i, ∃ p : List Nat, i < n → ∃ va vc, V i = .slice va p.length vc ∧ Wide W (.slice va p.length vc) p ∧ (∀ b ∈ p, b < 256) ∧ p.length ≤ 140737488355326 := by
      intro i
      by_cases hi : i < n
      · obtain ⟨va, vn, vc, p, h1, h2, h3, h4, h5⟩ := open_bytesW (hall i (by omega)).2 (hin i hi)
        subst h4
        exact ⟨p, fun _ => ⟨va, vc, by simpa using h1, h2, h3, h5⟩⟩
      · exact ⟨[], fun h => absurd h hi⟩
    obtain ⟨f, hf⟩ := Classical.axiomOfChoice hex
    have hlen : ((List.range n).map f).length = n := by simp
    refine ⟨(List.range n).map f, some y, m, by rw [hlen], ?_, fun j p hj => ?_⟩
    · have h3 := hw ((((List.range n).map D).length + ((List.range (m - n)).map fun j => D (n + j)).length) * Try.prog.bytesOf 25) (by rw [hxd]; simp [DataW.weights, Try.underlying40])
      rw [bytes22] at h3
      simp only [List.length_map, List.length_range, reachBytes] at h3
      rw [hlen]
      omega
    · have hjn : j < n := by have := (List.getElem?_eq_some_iff.1 hj).1; simpa using this
      simp [hjn] at hj
      subst hj
      obtain ⟨va, vc, h1, h2, h3, h5⟩ := hf j hjn
      have h6 := (hall j (by omega)).1
      have hsp : y.spot = none ∧ y.block < W.heap.size := by
        have h7 := (hall 0 (by omega)).1
        have e0 : y.add 0 = y := by simp [Addr.add]
        rw [e0] at h7
        exact ⟨World.cell?_spot h7, World.block_lt_of_cell? W _ h7⟩
      obtain ⟨b, off, sp⟩ := y
      obtain ⟨hs1, hs2⟩ := hsp
      simp only at hs1 hs2
      subst hs1
      rw [add_none] at h6
      exact ⟨h3, h5, b, off, va, vc, rfl, hs2, by rw [h6, h1], h2⟩

theorem trod_three {H : Type} {enc : TypeId × Value → H} {P : Program} {w : World} {base : Nat} {spare : Nat → Bool} {held : Bool} {t : TypeId} {f0 f1 f2 : Field} {fuel : Nat} {cs : List Value} {x : DataW H × List MemPlace} (ht : P.underlying t = some (.struct #[f0, f1, f2])) (h : DataW.trod enc P w base spare held fuel t cs = some x) :
    ∃ y0 y1 y2 n, cs.length = P.cellsOf t ∧ DataW.trod enc P w base spare held n f0.type ((cs.drop f0.offset).take (P.cellsOf f0.type)) = some y0 ∧
      DataW.trod enc P w base spare held n f1.type ((cs.drop f1.offset).take (P.cellsOf f1.type)) = some y1 ∧ DataW.trod enc P w base spare held n f2.type ((cs.drop f2.offset).take (P.cellsOf f2.type)) = some y2 := by
  obtain ⟨xs, n, _, rfl, hl, hlen, hf⟩ := DataW.trod_struct ht h
  match xs, hlen with
  | [y0, y1, y2], _ => exact ⟨y0, y1, y2, n, hl, by simpa using hf 0 f0 rfl, by simpa using hf 1 f1 rfl, by simpa using hf 2 f2 rfl⟩
theorem list_three (l : List Value) (h : l.length = 3) : ∃ a b c, l = [a, b, c] := by
  match l, h with
  | [a, b, c], _ => exact ⟨a, b, c, rfl⟩
theorem open_take {H : Type} {enc : TypeId × Value → H} {W : World} {k : Nat} {cs : List Value} {x : DataW H × List MemPlace} (h : DataW.trod enc Try.prog W 0 (fun _ => true) true k 52 cs = some x) :
    ∃ t : Tk, cs = [.int .i64 t.kind, .int .i64 t.which, .int .i64 t.i] ∧ t.ok := by
  obtain ⟨y0, y1, y2, n, hl, h0, h1, h2⟩ := trod_three Try.underlying52 h
  rw [cells_take] at hl
  obtain ⟨c0, c1, c2, rfl⟩ := list_three cs hl
  rw [cells_int] at h0 h1 h2
  obtain ⟨x0, e0, -, w0⟩ := DataW.trod_int Try.underlying3 h0
  obtain ⟨x1, e1, -, w1⟩ := DataW.trod_int Try.underlying3 h1
  obtain ⟨x2, e2, -, w2⟩ := DataW.trod_int Try.underlying3 h2
  have e0' : c0 = .int .i64 x0 := by simpa using e0
  have e1' : c1 = .int .i64 x1 := by simpa using e1
  have e2' : c2 = .int .i64 x2 := by simpa using e2
  have b2 := bounds_i64 w2
  exact ⟨⟨x0, x1, x2⟩, by rw [e0', e1', e2'], ⟨b2.1, b2.2⟩⟩
theorem open_takes {H : Type} {enc : TypeId × Value → H} {W : World} {k : Nat} {a : Option Addr} {n cap : Nat} {d : DataW H} {q : List MemPlace} (h : DataW.trod enc Try.prog W 0 (fun _ => true) true k 41 [.slice a n cap] = some (d, q)) (hw : ∀ x ∈ d.weights Try.prog 41, x ≤ reachBytes) :
    ∃ ts, RowK W (.slice a n cap) ts := by
  rcases Go.Deep.open_slice Try.underlying41 h with ⟨hcs, _⟩ | ⟨y, len, cap', m, k', D, Pl, hcs, _, hl, hm, hmm, hxx, hall⟩
  · simp at hcs
    obtain ⟨rfl, rfl, rfl⟩ := hcs
    exact ⟨[], none, 0, rfl, by simp, fun j t hj => by simp at hj⟩
  · simp at hcs
    obtain ⟨rfl, rfl, rfl⟩ := hcs
    have hmc : m = cap := by simpa using hmm
    subst hmc
    obtain ⟨hxd, _⟩ := Prod.mk.inj hxx
    rw [cells_take] at hall
    have hnb : n ≤ 4611686018427387904 := by
      have h3 := hw ((((List.range n).map D).length + ((List.range (m - n)).map fun j => D (n + j)).length) * Try.prog.bytesOf 52) (by rw [hxd]; simp [DataW.weights, Try.underlying41])
      rw [bytes_take] at h3
      simp only [List.length_map, List.length_range, reachBytes] at h3
      omega
    have hex : ∀ i, ∃ t : Tk, i < n → W.cell? ((y.add (i * 3)).add 0) = some (.int .i64 t.kind) ∧ W.cell? ((y.add (i * 3)).add 1) = some (.int .i64 t.which) ∧ W.cell? ((y.add (i * 3)).add 2) = some (.int .i64 t.i) ∧ t.ok := by
      intro i
      by_cases hi : i < n
      · obtain ⟨cs', h1, h2⟩ := hall i (by omega)
        obtain ⟨t, h3, h4⟩ := open_take h2
        obtain ⟨_, _, h7⟩ := World.cells?_some h1
        rw [h3] at h7
        exact ⟨t, fun _ => ⟨by simpa using h7 0 (by omega), by simpa using h7 1 (by omega), by simpa using h7 2 (by omega), h4⟩⟩
      · exact ⟨⟨0, 0, 0⟩, fun h => absurd h hi⟩
    obtain ⟨f, hf⟩ := Classical.axiomOfChoice hex
    have hlen : ((List.range n).map f).length = n := by simp
    refine ⟨(List.range n).map f, some y, m, by rw [hlen], by rw [hlen]; omega, fun j t hj => ?_⟩
    have hjn : j < n := by have := (List.getElem?_eq_some_iff.1 hj).1; simpa using this
    simp [hjn] at hj
    subst hj
    obtain ⟨c1, c2, c3, c4⟩ := hf j hjn
    have hx0 : y.spot = none ∧ y.block < W.heap.size := by
      obtain ⟨cs', h1, _⟩ := hall 0 (by omega)
      obtain ⟨_, h2, h3⟩ := World.cells?_some h1
      have h4 := h3 0 (by omega)
      rw [List.getElem?_eq_getElem (by omega)] at h4
      have e0 : (y.add (0 * 3)).add 0 = y := by simp [Addr.add]
      rw [e0] at h4
      exact ⟨World.cell?_spot h4, World.block_lt_of_cell? W _ h4⟩
    obtain ⟨hsp, hbl⟩ := hx0
    rw [add_add _ _ _ hsp] at c1 c2 c3
    refine ⟨c4, y.block, y.off, ?_, hbl, c1, c2, c3⟩
    obtain ⟨b, off, sp⟩ := y; simp only at hsp; subst hsp; rfl
end Go.Proofs.Ytiabhgkndejigaa
