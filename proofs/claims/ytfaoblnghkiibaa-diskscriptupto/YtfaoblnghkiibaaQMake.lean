/- New, Load. -/
import Derived.Test.YtfaoblnghkiibaaQCarry
import Derived.OwnWalk
namespace Go.Proofs.Ytfaoblnghkiibaa
open Go.RowKit

/-- a new disk over these bytes -/
def fresh (n : Nat) (s : List Nat) : Dm := ⟨n, s, [], none, 0, 0⟩
theorem fresh_ok {n : Nat} {s : List Nat} (h1 : 1 ≤ n) (h2 : n ≤ 65536) (h3 : s.length = 64 * n) (h4 : ∀ x ∈ s, x < 256) : (fresh n s).ok := ⟨h1, h2, h3, h4, fun x hx => (by cases hx), fun f hf => (by cases hf)⟩
theorem zeros_len (n : Nat) : (List.replicate (64 * n) 0).length = 64 * n := by simp
theorem zeros_byte (n : Nat) : ∀ x ∈ List.replicate (64 * n) 0, x < 256 := by intro x hx; rw [List.eq_of_mem_replicate hx]; omega

theorem made70 (n : Nat) : madeCells (Value.agg z70.toArray).cells (n * 64) = (u8s (List.replicate (64 * n) 0)).toArray := by
  apply Array.ext_getElem?
  intro i
  have hz : ∀ j, j < 64 → z70[j]? = some (.int .u8 0) := by
    intro j hj
    simp only [z70, zb, u8s, List.getElem?_map, List.getElem?_replicate, if_pos hj]; rfl
  have hzl : z70.length = 64 := z70_len
  by_cases hi : i < n * 64
  · have e1 : (u8s (List.replicate (64 * n) 0)).toArray[i]? = some (.int .u8 0) := by
      simp only [u8s, List.getElem?_toArray, List.getElem?_map, List.getElem?_replicate, if_pos (show i < 64 * n by omega)]; rfl
    rw [e1]
    have hm := hz (i % 64) (Nat.mod_lt _ (by omega))
    have hv : (Value.agg z70.toArray).cells = z70.toArray := rfl
    rw [hv]
    simp [madeCells, hi, hzl, getElem!_def, hm]
  · rw [Array.getElem?_eq_none (by rw [size_madeCells]; omega), Array.getElem?_eq_none (by simp [u8s_length]; omega)]

theorem dk_fresh {w : World} {b g n : Nat} {s : List Nat} (ok : (fresh n s).ok) (hb : Blk w b (dcells g n (.slice none 0 0) none 0 0) 68) (hg : Blk w g (u8s s).toArray 70) (hbg : b ≠ g) : Dk w b [b, g] (fresh n s) :=
  ⟨g, none, 0, ⟨ok, hb, hg, ⟨rfl, Or.inl ⟨rfl, rfl⟩⟩, hbg, fun p hp => (by cases hp)⟩, by simp, by simp, fun p hp => (by cases hp), fun x hx => by
    simp at hx
    rcases hx with rfl | rfl
    · exact hb.lt
    · exact hg.lt⟩

theorem wpList_make_blocks (w : World) {ops : Array Oper} {rest : List Oper} {o : Oper} {a : Act} {Q : Exit → Act → World → Prop} (hg : o.guard = none) (l c : Operand) (hop : o.op = Op.makeSlice 65 l c) (n : Nat) (hn : n ≤ 65536)
    (hl : a.eval l = .int .i64 (n : Int)) (hc : a.eval c = .int .i64 (n : Int))
    (hK : wpList Try.prog ops Q rest (a.put o.dst (.slice (some ⟨w.heap.size, 0, none⟩) n n)) (w.alloc (.cells (u8s (List.replicate (64 * n) 0)).toArray 70))) : wpList Try.prog ops Q (o :: rest) a w := by
  obtain ⟨i0, hi, hz0, hz1, hz2⟩ := info_parts info70
  refine wpList_plain hg fun K hK' => ?_
  have hr := run_make (P := Try.prog) w 65 70 i0 _ Try.underlying65 hi hz0 .i64 .i64 n n (by omega) (by omega) (by rw [hz2]; omega) (by omega)
  simp only [Int.toNat_natCast, hz1] at hr
  rw [made70] at hr
  unfold Oper.wp
  simp [execOp, hop, hl, hc, hr, Result.andThen]
  exact hK' _ _ hK

set_option maxRecDepth 100000 in
theorem new_no {w : World} {x : Int} (hx : x < 1 ∨ 65536 < x) : Calls Try.prog 9 #[.int .i64 x] w fun e w' => e = .returned (.tuple #[.pointer none, .int .i64 2]) ∧ w' = w := by
  by_cases h1 : x < 1
  · have t1 : (x < 1) = True := by simp; omega
    clear hx h1
    go_enter Try.func9, Try.ntmps9
    go_wp2
    go_ret2
    exact ⟨rfl, rfl⟩
  · have t1 : (x < 1) = False := by simp; omega
    have t2 : ((65536 : Int) < x) = True := by simp; omega
    clear hx h1
    go_enter Try.func9, Try.ntmps9
    go_wp2
    go_ret2
    exact ⟨rfl, rfl⟩

set_option maxRecDepth 100000 in
set_option maxHeartbeats 1000000 in
theorem new_yes {w : World} {n : Nat} (h1 : 1 ≤ n) (h2 : n ≤ 65536) : Calls Try.prog 9 #[.int .i64 (n : Int)] w fun e w' => ∃ b F, e = .returned (.tuple #[.pointer (some ⟨b, 0, none⟩), .int .i64 0]) ∧ Dk w' b F (fresh n (List.replicate (64 * n) 0)) ∧ Nx [] w F w' := by
  have t1 : ((n : Int) < 1) = False := by simp; omega
  have t2 : ((65536 : Int) < (n : Int)) = False := by simp; omega
  go_enter Try.func9, Try.ntmps9
  go_wp2_with (first | (at_make; refine wpList_make_blocks _ rfl _ _ rfl n h2 rfl rfl ?_))
  go_ret2
  refine ⟨_, [w.heap.size + 1, w.heap.size], rfl, dk_fresh (g := w.heap.size) (fresh_ok h1 h2 (zeros_len n) (zeros_byte n)) ?_ ((Blk.new _ _ _).alloc _) (by omega), ((Kept.refl _ _).alloc _).alloc _, ?_⟩
  · have := Blk.new (w.alloc (.cells (u8s (List.replicate (64 * n) 0)).toArray 70)) (dcells w.heap.size n (.slice none 0 0) none 0 0) 68
    simpa [dcells] using this
  · intro x hx
    simp at hx
    right; omega
end Go.Proofs.Ytfaoblnghkiibaa
