/- The order of numbers and of texts. -/
import Derived.Test.YtigmofbammofbabKDecP
import Derived.Lib.BytesEntry
import Derived.Laws.Externs
import Derived.Deep.RegionHeld3
namespace Go.Proofs.Ytigmofbammofbab
open Go.RowKit

set_option maxRecDepth 100000 in
theorem cmpU_any (w : World) (x y : Nat) :
    Calls Try.prog 63 #[.int .u64 x, .int .u64 y] w fun e w' => e = .returned (.int .i64 (cmpI x y)) ∧ w' = w := by
  by_cases h1 : (x : Int) < y
  · have hr : cmpI x y = -1 := by unfold cmpI; rw [if_pos h1]
    rw [hr]
    have h3 : ((x : Int) < y) = True := by simp; omega
    go_enter Try.func63, Try.ntmps63
    go_wp2
    go_ret
    exact ⟨rfl, rfl⟩
  · have h3 : ((x : Int) < y) = False := by simp; omega
    by_cases h2 : (y : Int) < x
    · have hr : cmpI x y = 1 := by unfold cmpI; rw [if_neg h1, if_pos h2]
      rw [hr]
      have h4 : ((y : Int) < x) = True := by simp; omega
      clear h1 h2
      go_enter Try.func63, Try.ntmps63
      go_wp2
      go_ret
      exact ⟨rfl, rfl⟩
    · have hr : cmpI x y = 0 := by unfold cmpI; rw [if_neg h1, if_neg h2]
      rw [hr]
      have h4 : ((y : Int) < x) = False := by simp; omega
      clear h1 h2
      go_enter Try.func63, Try.ntmps63
      go_wp2
      go_ret
      exact ⟨rfl, rfl⟩

set_option maxRecDepth 100000 in
theorem cmpS_any (w : World) (x y : Int) :
    Calls Try.prog 50 #[.int .i64 x, .int .i64 y] w fun e w' => e = .returned (.int .i64 (cmpI x y)) ∧ w' = w := by
  by_cases h1 : x < y
  · have hr : cmpI x y = -1 := by unfold cmpI; rw [if_pos h1]
    rw [hr]
    go_enter Try.func50, Try.ntmps50
    go_wp2
    go_ret
    exact ⟨rfl, rfl⟩
  · by_cases h2 : y < x
    · have hr : cmpI x y = 1 := by unfold cmpI; rw [if_neg h1, if_pos h2]
      rw [hr]
      go_enter Try.func50, Try.ntmps50
      go_wp2
      go_ret
      exact ⟨rfl, rfl⟩
    · have hr : cmpI x y = 0 := by unfold cmpI; rw [if_neg h1, if_neg h2]
      rw [hr]
      go_enter Try.func50, Try.ntmps50
      go_wp2
      go_ret
      exact ⟨rfl, rfl⟩

set_option maxRecDepth 100000 in
theorem cmpB_any (w : World) (x y : Nat) :
    Calls Try.prog 51 #[.int .u8 x, .int .u8 y] w fun e w' => e = .returned (.int .i64 (cmpI x y)) ∧ w' = w := by
  by_cases h1 : (x : Int) < y
  · have hr : cmpI x y = -1 := by unfold cmpI; rw [if_pos h1]
    rw [hr]
    have h3 : ((x : Int) < y) = True := by simp; omega
    go_enter Try.func51, Try.ntmps51
    go_wp2
    go_ret
    exact ⟨rfl, rfl⟩
  · have h3 : ((x : Int) < y) = False := by simp; omega
    by_cases h2 : (y : Int) < x
    · have hr : cmpI x y = 1 := by unfold cmpI; rw [if_neg h1, if_pos h2]
      rw [hr]
      have h4 : ((y : Int) < x) = True := by simp; omega
      clear h1 h2
      go_enter Try.func51, Try.ntmps51
      go_wp2
      go_ret
      exact ⟨rfl, rfl⟩
    · have hr : cmpI x y = 0 := by unfold cmpI; rw [if_neg h1, if_neg h2]
      rw [hr]
      have h4 : ((y : Int) < x) = False := by simp; omega
      clear h1 h2
      go_enter Try.func51, Try.ntmps51
      go_wp2
      go_ret
      exact ⟨rfl, rfl⟩

set_option maxRecDepth 100000 in
theorem cmpN_any (w : World) (x y : Int) :
    Calls Try.prog 52 #[.int .i64 x, .int .i64 y] w fun e w' => e = .returned (.int .i64 (cmpI x y)) ∧ w' = w := by
  by_cases h1 : x < y
  · have hr : cmpI x y = -1 := by unfold cmpI; rw [if_pos h1]
    rw [hr]
    go_enter Try.func52, Try.ntmps52
    go_wp2
    go_ret
    exact ⟨rfl, rfl⟩
  · by_cases h2 : y < x
    · have hr : cmpI x y = 1 := by unfold cmpI; rw [if_neg h1, if_pos h2]
      rw [hr]
      go_enter Try.func52, Try.ntmps52
      go_wp2
      go_ret
      exact ⟨rfl, rfl⟩
    · have hr : cmpI x y = 0 := by unfold cmpI; rw [if_neg h1, if_neg h2]
      rw [hr]
      go_enter Try.func52, Try.ntmps52
      go_wp2
      go_ret
      exact ⟨rfl, rfl⟩

set_option maxRecDepth 100000 in
theorem or_any (w : World) (b : Nat) (x y : Int) (c0 : w.cell? ⟨b, 0, none⟩ = some (.int .i64 x)) (c1 : w.cell? ⟨b, 1, none⟩ = some (.int .i64 y)) :
    Calls Try.prog 64 #[.slice (some ⟨b, 0, none⟩) 2 2] w fun e w' => e = .returned (.int .i64 (orI x y)) ∧ w' = w := by
  unfold orI
  by_cases h : x = 0
  · rw [if_neg (by simpa using h)]
    by_cases h2 : y = 0
    · subst h h2
      go_enter Try.func64, Try.ntmps64
      go_wp2
      refine wp_loop_rounds 3 ?_
      rw [rounds_succ]
      go_wp2
      rw [rounds_succ]
      go_wp2
      rw [rounds_succ]
      go_wp2
      go_ret
      exact ⟨rfl, rfl⟩
    · subst h
      go_enter Try.func64, Try.ntmps64
      go_wp2
      refine wp_loop_rounds 2 ?_
      rw [rounds_succ]
      go_wp2
      rw [rounds_succ]
      go_wp2
      go_ret
      exact ⟨rfl, rfl⟩
  · rw [if_pos h]
    go_enter Try.func64, Try.ntmps64
    go_wp2
    refine wp_loop_rounds 1 ?_
    rw [rounds_succ]
    go_wp2
    go_ret
    exact ⟨rfl, rfl⟩

/-- bytes as the model's -/
def u8l (bs : List Nat) : List UInt8 := bs.map fun x : Nat => (x : Int).toNat.toUInt8
theorem sees_bytes {w : World} {v : Value} {bs : List Nat} (h : Sees w v bs) : (Extern.Bytes.bytesOf v).run Try.prog w = .ok ⟨(u8l bs).toArray⟩ w := by
  obtain ⟨a, cap, rfl, _, _, _, h4⟩ := h
  have hu : Lib.bytesOf (bs.map fun x : Nat => (x : Int)) = u8l bs := by simp [Lib.bytesOf, u8l]
  cases a with
  | none =>
    rcases h4 with rfl | ⟨b, off, hh, _⟩
    · rfl
    · cases hh
  | some p =>
    have hx := Lib.run_loadBytesX (P := Try.prog) w (bs.map fun x : Nat => (x : Int)) p .empty (fun j x hj => by
      rcases h4 with rfl | ⟨b, off, hh, _, hc⟩
      · simp at hj
      · cases hh
        have hjl : j < bs.length := by have := (List.getElem?_eq_some_iff.1 hj).1; simpa using this
        have e : (⟨b, off, none⟩ : Addr).add j = ⟨b, off + j, none⟩ := by unfold Addr.add; split <;> simp_all
        rw [e, hc j hjl]
        simp [List.getElem?_eq_getElem hjl] at hj
        simp [List.getD, List.getElem?_eq_getElem hjl, hj])
    rw [List.length_map, hu] at hx
    have he : (⟨ByteArray.empty.data ++ (u8l bs).toArray⟩ : ByteArray) = ⟨(u8l bs).toArray⟩ := by
      apply ByteArray.ext
      show (#[] : Array UInt8) ++ (u8l bs).toArray = (u8l bs).toArray
      simp
    rw [he] at hx
    exact hx
theorem cmp_bytes (a b : List Nat) (ha : ∀ x ∈ a, x < 256) (hb : ∀ x ∈ b, x < 256) : Lib.compareBytes (u8l a) (u8l b) = cmpL a b := by
  induction a generalizing b with
  | nil => cases b <;> rfl
  | cons x a ih =>
    cases b with
    | nil => rfl
    | cons y b =>
      have hx := ha x (List.mem_cons_self ..)
      have hy := hb y (List.mem_cons_self ..)
      have e := ih b (fun z hz => ha z (List.mem_cons_of_mem _ hz)) (fun z hz => hb z (List.mem_cons_of_mem _ hz))
      have lt : ∀ p q : Nat, p < 256 → q < 256 → (((p : Int).toNat.toUInt8 < (q : Int).toNat.toUInt8) ↔ p < q) := by
        intro p q hp hq
        rw [UInt8.lt_iff_toNat_lt]
        simp [Nat.toUInt8, Nat.mod_eq_of_lt hp, Nat.mod_eq_of_lt hq]
      show (if (x : Int).toNat.toUInt8 < (y : Int).toNat.toUInt8 then (-1 : Int) else if (y : Int).toNat.toUInt8 < (x : Int).toNat.toUInt8 then 1 else Lib.compareBytes (u8l a) (u8l b)) = _
      rw [e]
      simp only [lt x y hx hy, lt y x hy hx, cmpL]
theorem run_cmp {w : World} {v1 v2 : Value} {a b : List Nat} (h1 : Sees w v1 a) (h2 : Sees w v2 b) : (callFunc 65 #[v1, v2]).run Try.prog w = .ok (.value (.int .i64 (cmpL a b))) w := by
  rw [run_callFunc_extern (f := 65) (fn := Try.f65) (by kernel_rfl) (by kernel_rfl) (by kernel_rfl) (by kernel_rfl) (e := Extern.BytealgCompare.compare) (by kernel_rfl)]
  have hs : (Extern.BytealgCompare.compare #[v1, v2]).run Try.prog w = .ok (.int .i64 (cmpL a b)) w := by
    change Sem.run Try.prog (do pure (goInt (Extern.BytealgCompare.cmp (← Extern.Bytes.bytesOf v1) (← Extern.Bytes.bytesOf v2)))) w = _
    simp only [Sem.run_bind, sees_bytes h1, sees_bytes h2, Result.andThen, Sem.run_pure]
    rw [Lib.cmp_eq]
    have hb1 : ∀ x ∈ a, x < 256 := by obtain ⟨_, _, _, _, _, h, _⟩ := h1; exact h
    have hb2 : ∀ x ∈ b, x < 256 := by obtain ⟨_, _, _, _, _, h, _⟩ := h2; exact h
    show Result.ok (goInt (Lib.compareBytes (u8l a) (u8l b))) w = _
    rw [cmp_bytes a b hb1 hb2]
    rfl
  rw [hs]
  rfl
set_option maxRecDepth 100000 in
set_option maxHeartbeats 400000 in
theorem bcmp_any {w : World} {v1 v2 : Value} {a b : List Nat} (h1 : Sees w v1 a) (h2 : Sees w v2 b) :
    Calls Try.prog 55 #[v1, v2] w fun e w' => e = .returned (.int .i64 (cmpL a b)) ∧ w' = w := by
  have hr := run_cmp h1 h2
  obtain ⟨a1, c1, rfl, -⟩ := h1
  obtain ⟨a2, c2, rfl, -⟩ := h2
  generalize cmpL a b = q at *
  generalize a.length = la at *
  generalize b.length = lb at *
  go_enter Try.func55, Try.ntmps55
  go_wp2
  go_ret
  exact ⟨rfl, rfl⟩

set_option maxRecDepth 100000 in
set_option maxHeartbeats 400000 in
theorem creal_any (x y : Nat) (hx : x < 18446744073709551616) (hy : y < 18446744073709551616) (w : World) :
    Calls Try.prog 53 #[.float .f64 x, .float .f64 y] w fun e w' => e = .returned (.int .i64 (cmpI (placeR x) (placeR y))) ∧ w' = w := by
  have HX := hide (preal_any x hx)
  have HY := hide (preal_any y hy)
  have HC := hide (fun w => cmpU_any w (placeR x) (placeR y))
  generalize cmpI (placeR x) (placeR y) = q at *
  generalize placeR x = px at *
  generalize placeR y = py at *
  go_enter Try.func53, Try.ntmps53
  go_wp2_with (first | (go_at_call 42; refine (unhide HX _).mono ?_; rintro e w' ⟨rfl, hq⟩; have hq' := hq.symm; subst hq'; clear HX) | (go_at_call 42; refine (unhide HY _).mono ?_; rintro e w' ⟨rfl, hq⟩; have hq' := hq.symm; subst hq') | (go_at_call 63; refine (unhide HC _).mono ?_; rintro e w' ⟨rfl, hq⟩; have hq' := hq.symm; subst hq'))
  go_ret
  exact ⟨rfl, rfl⟩

set_option maxRecDepth 100000 in
set_option maxHeartbeats 400000 in
theorem cpoint_any (x y u v : Nat) (hx : x < 18446744073709551616) (hy : y < 18446744073709551616) (hu : u < 18446744073709551616) (hv : v < 18446744073709551616) (w : World) :
    Calls Try.prog 54 #[.complex .f64 x u, .complex .f64 y v] w fun e w' => e = .returned (.int .i64 (orI (cmpI (placeR x) (placeR y)) (cmpI (placeR u) (placeR v)))) ∧ Kept [] w w' := by
  have HX := hide (creal_any x y hx hy)
  have HY := hide (creal_any u v hu hv)
  generalize cmpI (placeR x) (placeR y) = p at *
  generalize cmpI (placeR u) (placeR v) = q at *
  have HO := hide (or_any (w.alloc (.cells #[.int .i64 p, .int .i64 q] 3)) w.heap.size p q ((Blk.new w #[.int .i64 p, .int .i64 q] 3).cell 0) ((Blk.new w #[.int .i64 p, .int .i64 q] 3).cell 1))
  generalize orI p q = r at *
  go_enter Try.func54, Try.ntmps54
  go_wp2_with (first | (go_at_call 53; refine (unhide HX _).mono ?_; rintro e w' ⟨rfl, hq⟩; have hq' := hq.symm; subst hq'; clear HX) | (go_at_call 53; refine (unhide HY _).mono ?_; rintro e w' ⟨rfl, hq⟩; have hq' := hq.symm; subst hq') | (go_at_call 64; refine (unhide HO).mono ?_; rintro e w' ⟨rfl, hq⟩; have hq' := hq.symm; subst hq'))
  go_ret
  exact ⟨rfl, (Kept.refl [] w).alloc _⟩
end Go.Proofs.Ytigmofbammofbab
