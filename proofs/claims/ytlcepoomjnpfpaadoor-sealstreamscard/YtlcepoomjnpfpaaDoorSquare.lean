/- Squares of bits: still, of, then, oneByte, manyBytes, pass; Join, Turn, Tail. -/
import Derived.Test.YtlcepoomjnpfpaaDoorArr
namespace Go.Proofs.YtlcepoomjnpfpaaDoor
open Go.RowKit

/-- the square of m steps, as a value -/
def sqr (m : Nat) : Value := .agg ((List.range 32).map fun i => Value.int .u32 ((stps m (2 ^ i) : Nat) : Int)).toArray

/-- a block of 32 cells, of which the first k are known -/
def Row32 (w : World) (b : Nat) (f : Nat → Value) (k : Nat) : Prop := ∃ cs : Array Value, cs.size = 32 ∧ Blk w b cs 60 ∧ ∀ j, j < k → cs[j]? = some (f j)

theorem Row32.new (w : World) (cs : Array Value) (h : cs.size = 32) (f : Nat → Value) : Row32 (w.alloc (.cells cs 60)) w.heap.size f 0 := ⟨cs, h, Blk.new _ _ _, fun j hj => by omega⟩
theorem Row32.alloc {w : World} {b k : Nat} {f : Nat → Value} (h : Row32 w b f k) (o : Obj) : Row32 (w.alloc o) b f k := by
  obtain ⟨cs, h1, h2, h3⟩ := h
  exact ⟨cs, h1, h2.alloc o, h3⟩
theorem Row32.new2 (w : World) (o : Obj) (cs : Array Value) (h : cs.size = 32) (f : Nat → Value) : Row32 ((w.alloc o).alloc (.cells cs 60)) (w.heap.size + 1) f 0 := by
  have := Row32.new (w.alloc o) cs h f
  simpa using this
theorem Row32.kept {F : List Nat} {w w' : World} {b k : Nat} {f : Nat → Value} (h : Row32 w b f k) (hk : Kept F w w') (hn : b ∉ F) : Row32 w' b f k := by
  obtain ⟨cs, h1, h2, h3⟩ := h
  exact ⟨cs, h1, h2.kept hk hn, h3⟩
theorem Row32.set {w : World} {b k : Nat} {f : Nat → Value} (h : Row32 w b f k) (hk : k < 32) : Row32 (w.setCell ⟨b, k, none⟩ (f k)) b f (k + 1) := by
  obtain ⟨cs, h1, h2, h3⟩ := h
  refine ⟨_, by simpa using h1, h2.set k (f k), fun j hj => ?_⟩
  by_cases e : j = k
  · subst e; simp [h1, hk]
  · rw [Array.getElem?_setIfInBounds_ne (by omega)]; exact h3 j (by omega)
theorem Row32.cell {w : World} {b k : Nat} {f : Nat → Value} (h : Row32 w b f k) (j : Nat) (hj : j < k) : w.cell? ⟨b, j, none⟩ = some (f j) := by
  obtain ⟨cs, h1, h2, h3⟩ := h
  rw [h2.cell, h3 j hj]
theorem Row32.cellAny {w : World} {b k : Nat} {f : Nat → Value} (h : Row32 w b f k) (j : Nat) (hj : j < 32) : ∃ v, w.cell? ⟨b, j, none⟩ = some v := by
  obtain ⟨cs, h1, h2, h3⟩ := h
  rw [h2.cell]; exact ⟨cs[j], by simp [h1, hj]⟩
theorem Row32.frozen {w : World} {b k : Nat} {f : Nat → Value} (h : Row32 w b f k) (j : Nat) : w.frozen? ⟨b, j, none⟩ = false := by
  obtain ⟨cs, h1, h2, h3⟩ := h
  exact h2.frozen j

theorem row_eq {cs : Array Value} {f : Nat → Value} (h : cs.size = 32) (h2 : ∀ j, j < 32 → cs[j]? = some (f j)) : cs = ((List.range 32).map f).toArray := by
  apply Array.ext_getElem?
  intro i
  by_cases hi : i < 32
  · rw [h2 i hi]; simp [hi]
  · rw [Array.getElem?_eq_none (by omega), Array.getElem?_eq_none (by simp; omega)]

theorem info42 : (Tryd.prog.info? 60).map (·.size) = some 32 := by kernel_rfl

theorem two_pow_lt {k : Nat} (hk : k < 32) : (2 : Nat) ^ k < 4294967296 := by
  have := Nat.pow_lt_pow_right (a := 2) (by omega) hk
  rwa [show (2 : Nat) ^ 32 = 4294967296 by decide] at this
theorem row_one (g : Nat → Nat) : (((List.range 32).map fun i => Value.int .u32 ((g i : Nat) : Int)).toArray).all (·.oneCell') = true := by
  simp [Value.oneCell']

set_option maxRecDepth 100000 in
set_option maxHeartbeats 400000 in
theorem still_any (w : World) :
    Calls Tryd.prog 34 #[] w fun e w' => e = .returned (sqr 0) ∧ Kept [] w w' := by
  go_enter Tryd.func34, Tryd.ntmps34
  go_wp2_with fail
  go_loopw [3] (fun i wr => ∃ k : Nat, k ≤ 32 ∧ i = .int .i64 k ∧ Row32 wr (w.heap.size + 1) (fun j => .int .u32 ((2 ^ j : Nat) : Int)) k ∧ Row32 wr w.heap.size (fun j => .int .u32 ((2 ^ j : Nat) : Int)) 0 ∧ Kept [] w wr) (fun i _ => 32 - (intOf i).toNat)
  case atStart =>
    exact ⟨0, by omega, rfl, Row32.new2 w _ _ (by rfl) _, Row32.alloc (Row32.new w _ (by rfl) _) _, ((Kept.refl _ _).alloc _).alloc _⟩
  case round =>
    obtain ⟨k, hk, rfl, hr, hr0, hkk⟩ := hrel
    have HR := hide hr
    have HR0 := hide hr0
    have HK := hide hkk
    clear hkk hr0
    by_cases hlt : k < 32
    · obtain ⟨v, hv⟩ := hr.cellAny k hlt
      have hf := hr.frozen k
      clear hr
      go_wp2
      have e : (2 ^ k % 4294967296 : Int) = ((2 ^ k : Nat) : Int) := by
        have h3 := two_pow_lt hlt
        have h4 : (2 ^ k : Int) = ((2 ^ k : Nat) : Int) := by simp
        rw [h4]
        generalize (2 : Nat) ^ k = y at h3
        omega
      rw [e]
      exact ⟨⟨k + 1, by omega, by simp, (unhide HR).set hlt, (unhide HR0).kept ((Kept.refl [w.heap.size + 1] _).setCell (Or.inl (by simp)) _) (by simp), (unhide HK).setCell (Or.inr (by simp)) _⟩, by simp [intOf]; omega⟩
    · obtain rfl : k = 32 := by omega
      clear hr
      obtain ⟨cs, hs, hb, hc⟩ := unhide HR
      obtain ⟨c0, hs0, hb0, hc0⟩ := unhide HR0
      have hcs := row_eq hs hc
      have HS := hide (⟨hcs, hb, hb0⟩ : _ ∧ _ ∧ _)
      clear HR HR0
      clear hc hc0 hcs hb hb0
      have h1 : cs.all (·.oneCell') = true := by rw [(unhide HS).1]; exact row_one _
      go_wp2_with (first | (guard_target =~ wpList _ _ _ _ _ _; refine wpList_load_arr _ 60 rfl rfl (w.heap.size + 1) 32 36 cs rfl (unhide HS).2.1 Tryd.underlying60 (by rw [hs]; exact info42) ?_) | (guard_target =~ wpList _ _ _ _ _ _; refine wpList_store_arr _ _ 60 rfl rfl w.heap.size c0 cs rfl rfl (unhide HS).2.2 (by rw [hs]; exact info42) (by rw [hs, hs0]) h1 rfl ?_))
      refine ret_arr (b := w.heap.size) (cs := cs) rfl rfl (unhide HS).2.2.row Tryd.underlying60 (by rw [hs]; exact info42) rfl ⟨?_, (unhide HK).row (Or.inr (Nat.le_refl _)) _⟩
      rw [(unhide HS).1]; rfl

theorem bitk {r k : Nat} (hr : r < 4294967296) : bits .and .u32 ((r : Int) / 2 ^ k) 1 = ((r / 2 ^ k % 2 : Nat) : Int) := by
  have := and_one (r / 2 ^ k) (Nat.lt_of_le_of_lt (Nat.div_le_self _ _) hr)
  rw [← this]
  simp
theorem bitk_yes {r k : Nat} (hr : r < 4294967296) (h : (bits .and .u32 ((r : Int) / 2 ^ k) 1 == 1) = true) : r / 2 ^ k % 2 = 1 := by
  rw [bitk hr, beq_iff_eq] at h; omega
theorem bitk_no {r k : Nat} (hr : r < 4294967296) (h : (bits .and .u32 ((r : Int) / 2 ^ k) 1 == 1) = false) : ¬ r / 2 ^ k % 2 = 1 := by
  rw [bitk hr, beq_eq_false_iff_ne] at h; omega

theorem run_index42 {cs : Array Value} {k : Nat} {y : Nat} (hk : k < 32) (h : cs[k]? = some (.int .u32 y)) (w : World) :
    (Instr.index 60 (.agg cs) (.int .i64 k)).run Tryd.prog w = .ok (.int .u32 y) w := by
  have h1 : (0 : Int) ≤ (k : Int) ∧ (k : Int) < 32 := by omega
  simp [Instr.index, run_underlying Tryd.underlying60, asIntOf, go_sem, h1, hk, part, h]

set_option maxRecDepth 100000 in
set_option maxHeartbeats 400000 in
theorem of_any (m r : Nat) (hr : r < 4294967296) (w : World) :
    Calls Tryd.prog 35 #[sqr m, .int .u32 r] w fun e w' => e = .returned (.int .u32 (stps m r : Nat)) ∧ Kept [] w w' := by
  obtain ⟨cs, hcs⟩ : ∃ cs, cs = ((List.range 32).map fun i => Value.int .u32 ((stps m (2 ^ i) : Nat) : Int)).toArray := ⟨_, rfl⟩
  have hsq : sqr m = .agg cs := by rw [hcs]; rfl
  rw [hsq]
  have HC := hide hcs
  have hs : cs.size = 32 := by rw [hcs]; simp
  clear hcs hsq
  go_enter Tryd.func35, Tryd.ntmps35
  go_wp2_with (first | (guard_target =~ wpList _ _ _ _ _ _; refine wpList_load_arr _ 60 rfl rfl w.heap.size 32 36 cs rfl (Blk.new _ _ _) Tryd.underlying60 (by rw [hs]; exact info42) ?_))
  go_loop [5, 9] (fun x i => ∃ k : Nat, k ≤ 32 ∧ i = .int .i64 k ∧ x = .int .u32 (stps m (r % 2 ^ k) : Nat)) (fun _ i => 32 - (intOf i).toNat)
  case atStart => exact ⟨0, by omega, rfl, by simp [Nat.mod_one, stps_zero]⟩
  case round =>
    obtain ⟨k, hk, rfl, rfl⟩ := hrel
    by_cases hlt : k < 32
    · have hc : cs[k]? = some (Value.int .u32 ((stps m (2 ^ k) : Nat) : Int)) := by rw [unhide HC]; simp [hlt]
      have HL := hide (stps_low m r k)
      have h1 := stps_lt m (two_pow_lt hlt)
      have h2 := stps_lt m (Nat.lt_of_le_of_lt (Nat.mod_le r (2 ^ k)) hr)
      generalize stps m (2 ^ k) = y at hc h1 HL
      have hix := run_index42 (w := w.alloc (Obj.cells cs 60)) hlt hc
      generalize stps m (r % 2 ^ k) = x at h2 HL
      go_wp2
      · rename_i hb
        exact ⟨⟨k + 1, by omega, by simp, by rw [unhide HL, if_pos (bitk_yes hr hb), u32_xor_nat x y h2 h1]⟩, by simp [intOf]; omega⟩
      · rename_i hb
        exact ⟨⟨k + 1, by omega, by simp, by rw [unhide HL, if_neg (bitk_no hr hb)]; simp⟩, by simp [intOf]; omega⟩
    · obtain rfl : k = 32 := by omega
      have e : r % 2 ^ 32 = r := Nat.mod_eq_of_lt (by omega)
      rw [e]
      go_wp2
      go_ret
      exact ⟨rfl, (Kept.refl _ _).alloc _⟩
end Go.Proofs.YtlcepoomjnpfpaaDoor
