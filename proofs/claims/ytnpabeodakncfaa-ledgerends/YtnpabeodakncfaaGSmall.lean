/- The ledger's short calls. -/
import Derived.Test.YtnpabeodakncfaaGKit
import Derived.Test.YtnpabeodakncfaaGPure
import Derived.Deep.RegionHeld3
namespace Go.Proofs.Ytnpabeodakncfaa
open Go.RowKit

def lc (l : Ld) : List Value := [.int .i64 l.ph, .int .i64 l.ep, .int .i64 l.pe]
def lv (l : Ld) : Value := .agg #[.int .i64 l.ph, .int .i64 l.ep, .int .i64 l.pe]
/-- a record, of which the ledger reads three fields -/
structure Rc where
  kind : Int
  shard : Int
  epoch : Int
  peer : Int
  client : Int
  seq : Int
  okind : Int
  okey : Value
  oval : Value
  orev : Int
  copy : Value
def rv (r : Rc) : Value := .agg #[.int .i64 r.kind, .int .i64 r.shard, .int .i64 r.epoch, .int .i64 r.peer, .int .i64 r.client, .int .i64 r.seq, .int .i64 r.okind, r.okey, r.oval, .int .i64 r.orev, r.copy]
theorem Kept.step {a b c : World} (h : Kept [] a b) (k : Kept [] b c) : Kept [] a c := h.trans k (fun _ hx => by cases hx)
theorem ret_bool {a b : Bool} (h : a = b) : Ending.returned (.bool a) = Ending.returned (.bool b) := by rw [h]
theorem ret_int {a b : Int} (h : a = b) : Ending.returned (.int .i64 a) = Ending.returned (.int .i64 b) := by rw [h]
theorem ret_two {a b c d : Int} (h : a = c) (k : b = d) : Ending.returned (.tuple #[.int .i64 a, .int .i64 b]) = Ending.returned (.tuple #[.int .i64 c, .int .i64 d]) := by rw [h, k]
theorem box3 {W : World} {b : Nat} {x y z : Value} {t : TypeId} (h : Blk W b #[x, y, z] t) : W.cell? ⟨b, 0, none⟩ = some x ∧ W.cell? ⟨b, 1, none⟩ = some y ∧ W.cell? ⟨b, 2, none⟩ = some z := ⟨h.cell 0, h.cell 1, h.cell 2⟩

set_option maxRecDepth 100000 in
theorem isServer_any (w : World) (n : Int) : Calls Try.prog 56 #[.int .i64 n] w fun e w' => e = .returned (.bool (srv n)) ∧ w' = w := by
  go_enter Try.func56, Try.ntmps56
  go_wp2_with fail
  all_goals
    go_ret
    refine ⟨ret_bool ?_, rfl⟩
    rw [Bool.eq_iff_iff]
    simp [srv]
    omega
set_option maxRecDepth 100000 in
theorem isOther_any (w : World) (s n : Int) : Calls Try.prog 39 #[.int .i64 s, .int .i64 n] w fun e w' => e = .returned (.bool (oth s n)) ∧ w' = w := by
  have H := fun W x => isServer_any W x
  go_enter Try.func39, Try.ntmps39
  go_wp2_with (go_at_call 56; refine (H _ _).mono ?_; rintro e w3 ⟨rfl, hq⟩; have hq2 := hq.symm; subst hq2)
  all_goals
    go_ret
    refine ⟨ret_bool ?_, rfl⟩
    rw [Bool.eq_iff_iff]
    simp [srv, oth] at *
    omega
set_option maxRecDepth 100000 in
theorem serves_any (w : World) (l : Ld) : Calls Try.prog 26 #[lv l] w fun e w' => e = .returned (.bool (decide (l.ph = 1))) ∧ Kept [] w w' := by
  unfold lv
  go_enter Try.func26, Try.ntmps26
  go_wp2_with fail
  go_ret
  refine ⟨ret_bool ?_, (Kept.refl _ _).alloc _⟩
  rw [Bool.eq_iff_iff]
  simp
set_option maxRecDepth 100000 in
theorem claims_any (w : World) (l : Ld) : Calls Try.prog 47 #[lv l] w fun e w' => e = .returned (.bool (clm l)) ∧ Kept [] w w' := by
  unfold lv
  go_enter Try.func47, Try.ntmps47
  go_wp2_with fail
  all_goals
    go_ret
    refine ⟨ret_bool ?_, (Kept.refl _ _).alloc _⟩
    rw [Bool.eq_iff_iff]
    simp_all [clm]
set_option maxRecDepth 100000 in
theorem keeps_any (w : World) (l : Ld) : Calls Try.prog 25 #[lv l] w fun e w' => e = .returned (.bool (kps l)) ∧ Kept [] w w' := by
  have H := fun W => claims_any W l
  unfold lv at *
  go_enter Try.func25, Try.ntmps25
  go_wp2_with (go_at_call 47; refine (H _).mono ?_; rintro e w3 ⟨rfl, hk⟩; obtain ⟨c0, c1, c2⟩ := box3 ((Blk.new w _ _).kept hk (by simp)))
  all_goals
    go_ret
    refine ⟨ret_bool ?_, ((Kept.refl _ _).alloc _).step hk⟩
    rw [Bool.eq_iff_iff]
    simp [clm, kps] at *
    omega
set_option maxRecDepth 100000 in
theorem nag_any (w : World) (l : Ld) : Calls Try.prog 24 #[lv l] w fun e w' => e = .returned (.int .i64 (nag l)) ∧ Kept [] w w' := by
  unfold lv
  go_enter Try.func24, Try.ntmps24
  go_wp2_with fail
  all_goals
    go_ret
    refine ⟨ret_int ?_, (Kept.refl _ _).alloc _⟩
    simp_all [nag]
set_option maxRecDepth 100000 in
theorem meets_any (w : World) (l : Ld) (x y : Int) : Calls Try.prog 60 #[lv l, .int .i64 x, .int .i64 y] w fun e w' => e = .returned (.bool (met l x y)) ∧ Kept [] w w' := by
  unfold lv
  go_enter Try.func60, Try.ntmps60
  go_wp2_with fail
  all_goals
    go_ret
    refine ⟨ret_bool ?_, (Kept.refl _ _).alloc _⟩
    rw [Bool.eq_iff_iff]
    simp_all [met]
set_option maxRecDepth 100000 in
theorem hasPlace_any (w : World) (p k : Int) : Calls Try.prog 57 #[.int .i64 p, .int .i64 k] w fun e w' => e = .returned (.bool (plc p k)) ∧ w' = w := by
  go_enter Try.func57, Try.ntmps57
  go_wp2_with fail
  all_goals
    go_ret
    refine ⟨ret_bool ?_, rfl⟩
    rw [Bool.eq_iff_iff]
    simp_all [plc]
set_option maxRecDepth 100000 in
theorem emb_any (w : World) (l : Ld) (r : Rc) : Calls Try.prog 58 #[lv l, rv r] w fun e w' => e = .returned (.bool (emb l r.kind r.epoch)) ∧ Kept [] w w' := by
  unfold lv rv
  go_enter Try.func58, Try.ntmps58
  go_wp2_with fail
  all_goals
    go_ret
    refine ⟨ret_bool ?_, ((Kept.refl _ _).alloc _).alloc _⟩
    rw [Bool.eq_iff_iff]
    simp_all [emb]
    try omega
set_option maxRecDepth 100000 in
theorem pmb_any (w : World) (s : Int) (r : Rc) : Calls Try.prog 59 #[.int .i64 s, rv r] w fun e w' => e = .returned (.bool (pmb s r.kind r.peer)) ∧ Kept [] w w' := by
  have H := fun W x y => isOther_any W x y
  unfold rv
  go_enter Try.func59, Try.ntmps59
  go_wp2_with (go_at_call 39; refine (H _ _ _).mono ?_; rintro e w3 ⟨rfl, hq⟩; have hq2 := hq.symm; subst hq2)
  all_goals
    go_ret
    refine ⟨ret_bool ?_, (Kept.refl _ _).alloc _⟩
    rw [Bool.eq_iff_iff]
    simp_all [pmb]
end Go.Proofs.Ytnpabeodakncfaa
