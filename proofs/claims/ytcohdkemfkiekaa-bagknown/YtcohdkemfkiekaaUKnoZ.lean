/- The law's known; its num, same, alike, ints. -/
import Derived.Test.YtcohdkemfkiekaaUFo2Z
import Derived.Lib.SlBytesConst
namespace Go.Proofs.Ytcohdkemfkiekaa
open Go.RowKit Go.Maps Go.Sort
set_option linter.unusedSimpArgs false

set_option maxRecDepth 100000 in
theorem num_any (w : World) (n : Int) : Calls Try.prog 15 #[.int .i64 n] w fun e w' => e = .returned (.int .i64 n) ∧ w' = w := by
  go_enter Try.func15, Try.ntmps15
  go_wp2_with fail
  go_ret
  exact ⟨rfl, rfl⟩
def mA : Ms := ⟨0, 1, [97]⟩
def mB : Ms := ⟨1, 0, [98]⟩
def mC : Ms := ⟨0, 1, []⟩
def gA : Bg := newB.put mA 1
def gB : Bg := gA.put mB 1
def gC : Bg := gB.put mC 1
def gD : Bg := gC.put mB 2
theorem mA_ok : mA.ok := ⟨by decide, by decide, by decide, by decide⟩
theorem mB_ok : mB.ok := ⟨by decide, by decide, by decide, by decide⟩
theorem mC_ok : mC.ok := ⟨by decide, by decide, by decide, by decide⟩
theorem known_look : look gC.row 1 = some mB := rfl
theorem sees_lit (w : World) (x : Nat) (t : TypeId) (fr : Nat × Nat) (hx : x < 256) : Sees (w.alloc (.cells #[.int .u8 (x : Int)] t fr)) (.slice (some ⟨w.heap.size, 0, none⟩) 1 1) [x] :=
  ⟨_, 1, rfl, Nat.le_refl _, by unfold maxLen; decide, by simpa using hx, Or.inr ⟨w.heap.size, 0, rfl, by simp, fun j hj => by
    have : j = 0 := by simpa using hj
    subst this
    rw [World.cell?_alloc_mark]; rfl⟩⟩
theorem send_A {w : World} {b : Nat} {F : List Nat} (h : Bk w b F newB) {v : Value} (hv : Sees w v [97]) : Calls Try.prog 14 #[.pointer (some ⟨b, 0, none⟩), .int .i64 0, .int .i64 1, v] w fun e w' => e = .returned (.tuple #[.int .i64 0, .int .i64 0]) ∧ BkP w b F gA w' := send_ok (m := mA) h (by decide) (by decide) mA_ok hv
theorem send_B {w : World} {b : Nat} {F : List Nat} (h : Bk w b F gA) {v : Value} (hv : Sees w v [98]) : Calls Try.prog 14 #[.pointer (some ⟨b, 0, none⟩), .int .i64 1, .int .i64 0, v] w fun e w' => e = .returned (.tuple #[.int .i64 1, .int .i64 0]) ∧ BkP w b F gB w' := send_ok (m := mB) h (by decide) (by decide) mB_ok hv
theorem send_C {w : World} {b : Nat} {F : List Nat} (h : Bk w b F gB) {v : Value} (hv : Sees w v []) : Calls Try.prog 14 #[.pointer (some ⟨b, 0, none⟩), .int .i64 0, .int .i64 1, v] w fun e w' => e = .returned (.tuple #[.int .i64 2, .int .i64 0]) ∧ BkP w b F gC w' := send_ok (m := mC) h (by decide) (by decide) mC_ok hv
theorem twice_D {w : World} {b : Nat} {F : List Nat} (h : Bk w b F gC) : Calls Try.prog 17 #[.pointer (some ⟨b, 0, none⟩), .int .i64 1] w fun e w' => e = .returned (.tuple #[.int .i64 3, .int .i64 0]) ∧ BkP w b F gD w' := twice_ok h (by decide) (by decide) (by decide) (by decide) known_look
theorem len_D {w : World} {b : Nat} {F : List Nat} (h : Bk w b F gD) : Calls Try.prog 12 #[.pointer (some ⟨b, 0, none⟩)] w fun e w' => e = .returned (.int .i64 4) ∧ Kept [] w w' := len_any h
/-- A bag of the call's own. -/
def Own (w0 w : World) (b : Nat) (g : Bg) : Prop := ∃ F, Bk w b F g ∧ Kept [] w0 w ∧ ∀ x ∈ F, w0.heap.size ≤ x
theorem Own.step {w0 w w' : World} {b : Nat} {g' : Bg} {F : List Nat} (h : BkP w b F g' w') (hk : Kept [] w0 w) (hF : ∀ x ∈ F, w0.heap.size ≤ x) : Own w0 w' b g' := by
  obtain ⟨F', h1, h2, h3⟩ := h
  exact ⟨F', h1, hk.trans h2 (fun x hx => Or.inr (hF x hx)), fun x hx => by rcases h3 x hx with h4 | h4; exact hF x h4; have := hk.size; omega⟩
theorem Own.kept {w0 w w' : World} {b : Nat} {g : Bg} (h : Own w0 w b g) (k : Kept [] w w') : Own w0 w' b g := by
  obtain ⟨F, h1, h2, h3⟩ := h
  exact ⟨F, h1.kept k (by simp), h2.trans k (by simp), h3⟩
theorem own_newB (w : World) : Calls Try.prog 8 #[] w fun e w' => ∃ b, e = .returned (.pointer (some ⟨b, 0, none⟩)) ∧ Own w w' b newB := (new_any w).mono (by
  rintro e w' ⟨b, he, h1, h2, h3⟩
  exact ⟨b, he, [b], h1, h2, by simpa using h3⟩)
theorem own_A {w0 w : World} {b : Nat} (h : Own w0 w b newB) {v : Value} (hv : Sees w v [97]) : Calls Try.prog 14 #[.pointer (some ⟨b, 0, none⟩), .int .i64 0, .int .i64 1, v] w fun e w' => e = .returned (.tuple #[.int .i64 0, .int .i64 0]) ∧ Own w0 w' b gA := by
  obtain ⟨F, h1, h2, h3⟩ := h
  exact (send_A h1 hv).mono fun e w' ⟨he, hq⟩ => ⟨he, Own.step hq h2 h3⟩
theorem own_B {w0 w : World} {b : Nat} (h : Own w0 w b gA) {v : Value} (hv : Sees w v [98]) : Calls Try.prog 14 #[.pointer (some ⟨b, 0, none⟩), .int .i64 1, .int .i64 0, v] w fun e w' => e = .returned (.tuple #[.int .i64 1, .int .i64 0]) ∧ Own w0 w' b gB := by
  obtain ⟨F, h1, h2, h3⟩ := h
  exact (send_B h1 hv).mono fun e w' ⟨he, hq⟩ => ⟨he, Own.step hq h2 h3⟩
theorem own_C {w0 w : World} {b : Nat} (h : Own w0 w b gB) {v : Value} (hv : Sees w v []) : Calls Try.prog 14 #[.pointer (some ⟨b, 0, none⟩), .int .i64 0, .int .i64 1, v] w fun e w' => e = .returned (.tuple #[.int .i64 2, .int .i64 0]) ∧ Own w0 w' b gC := by
  obtain ⟨F, h1, h2, h3⟩ := h
  exact (send_C h1 hv).mono fun e w' ⟨he, hq⟩ => ⟨he, Own.step hq h2 h3⟩
theorem own_D {w0 w : World} {b : Nat} (h : Own w0 w b gC) : Calls Try.prog 17 #[.pointer (some ⟨b, 0, none⟩), .int .i64 1] w fun e w' => e = .returned (.tuple #[.int .i64 3, .int .i64 0]) ∧ Own w0 w' b gD := by
  obtain ⟨F, h1, h2, h3⟩ := h
  exact (twice_D h1).mono fun e w' ⟨he, hq⟩ => ⟨he, Own.step hq h2 h3⟩
theorem own_lenD {w0 w : World} {b : Nat} (h : Own w0 w b gD) : Calls Try.prog 12 #[.pointer (some ⟨b, 0, none⟩)] w fun e w' => e = .returned (.int .i64 4) ∧ Kept [] w w' := by
  obtain ⟨F, h1, h2, h3⟩ := h
  exact len_D h1
set_option maxRecDepth 100000 in
theorem known_any (w : World) : Calls Try.prog 16 #[] w fun e w' => e = .returned (.bool true) ∧ Kept [] w w' := by
  have kc := fun (w : World) (C : Array Value) (n c : Nat) => Lib.run_convert_bytes_const (P := Try.prog) w 29 5 C n c Try.underlying29 Try.underlying5
  go_enter Try.func16, Try.ntmps16
  go_upto_region 4 with (go_at_call 8; refine (own_newB _).mono ?_; rintro e w1 ⟨b, rfl, hb⟩; have H1 := hide hb; clear hb)
  go_upto_region 5 with (go_at_call 14; refine (own_A ((unhide H1).kept ((Kept.refl [] w1).alloc _)) (sees_lit w1 97 _ _ (by decide))).mono ?_; rintro e w2 ⟨rfl, hb⟩; have H2 := hide hb; clear hb)
  go_upto_region 6 with (go_at_call 14; refine (own_B ((unhide H2).kept ((Kept.refl [] w2).alloc _)) (sees_lit w2 98 _ _ (by decide))).mono ?_; rintro e w3 ⟨rfl, hb⟩; have H3 := hide hb; clear hb)
  go_upto_region 7 with (go_at_call 14; refine (own_C (unhide H3) (Sees.nil _)).mono ?_; rintro e w4 ⟨rfl, hb⟩; have H4 := hide hb; clear hb)
  go_upto_region 8 with (go_at_call 17; refine (own_D (unhide H4)).mono ?_; rintro e w5 ⟨rfl, hb⟩; have H5 := hide hb; clear hb)
  clear H1 H2 H3 H4
  go_wp2_with (first
    | (go_at_call 15; refine (num_any _ _).mono ?_; rintro e w6 ⟨rfl, hq⟩; subst hq)
    | (go_at_call 12; refine (own_lenD (unhide H5)).mono ?_; rintro e w6 ⟨rfl, hk⟩; have H6 := hide hk; clear hk))
  go_ret
  obtain ⟨F, h1, h2, h3⟩ := unhide H5
  exact ⟨rfl, h2.trans (unhide H6) (by simp)⟩
end Go.Proofs.Ytcohdkemfkiekaa
