/- The reader's take where the reading gives up; Read, Num, Int, Done; same. -/
import Derived.Test.YtiabhgkndejigabNum
import Derived.Deep.RegionHeld3
namespace Go.Proofs.Ytiabhgkndejigab
open Go.RowKit

/-- A reader with a fault. -/
def RdF (w : World) (b : Nat) (c : Nat) : Prop := Blk w b #[nilS, nilS, .int .i64 (c : Int)] 62

theorem Blk.set3 {w : World} {b : Nat} {x0 x1 x2 y0 y1 y2 : Value} {t : TypeId} (h : Blk w b #[x0, x1, x2] t) :
    Blk (((w.setCell ⟨b, 0, none⟩ y0).setCell ⟨b, 1, none⟩ y1).setCell ⟨b, 2, none⟩ y2) b #[y0, y1, y2] t := by
  have h1 := h.set 0 y0
  have h2 := h1.set 1 y1
  have h3 := h2.set 2 y2
  simpa using h3

set_option maxRecDepth 100000 in
set_option maxHeartbeats 400000 in
theorem recover_panicking {w : World} (p b : Nat) (lv bv : Value) (l : List Nat) (u : TypeId) (pv : Value) (c : Nat) (hp : w.cell? ⟨p, 0, none⟩ = some (.pointer (some ⟨b, 0, none⟩)))
    (h : Rd w b lv bv l) (hf : (u = 8 ∧ c = 10) ∨ (u = 37 ∧ pv = .int .i64 c)) :
    CallsD Try.prog 79 #[.pointer (some ⟨p, 0, none⟩)] (.panicking [{ v := .iface u pv, recovered := false }]) w fun e u' w' =>
      e = .returned (.tuple #[]) ∧ u' = .panicking [{ v := .iface u pv, recovered := true }] ∧ RdF w' b c ∧ Kept [b] w w' := by
  have hcall : ∀ w, Calls Try.prog 80 #[.iface u pv] w fun e w' => e = .returned (.int .i64 c) ∧ w = w' := by
    intro w
    rcases hf with ⟨rfl, rfl⟩ | ⟨rfl, rfl⟩
    · exact faultOf_bounds pv w
    · exact faultOf_errno c w
  have HC := hide hcall
  obtain ⟨c0, c1, c2⟩ := blk3 h.blk
  have f0 := h.blk.frozen 0
  have f1 := h.blk.frozen 1
  have f2 := h.blk.frozen 2
  clear hcall hf
  refine callsD_of_wpS Try.func79 rfl fun c₀ cs hu => ?_
  apply wpS_seq
  apply wpS_region
  simp [wpOpsS, go_sem, recoverD, hu, Try.ntmps79, Exit.thenS]
  apply wpS_seq
  apply wpS_region
  simp [wpOpsS, go_sem, Exit.thenS, Array.replicate]
  refine wpS_cond (t := true) (by simp [Act.eval]) ?_
  simp only [if_true]
  refine wpS_of_wp ?_
  have HB := hide h
  clear h
  go_region_with (go_at_call 80; refine (unhide HC _).mono ?_; rintro e w' ⟨rfl, rfl⟩)
  all_goals
    simp [bodyPostS, results, Try.results79]
    exact ⟨(unhide HB).blk.set3.kept ((Kept.refl [] _).drew) (by simp), ((((Kept.refl [b] w).setCell (Or.inl (by simp)) _).setCell (Or.inl (by simp)) _).setCell (Or.inl (by simp)) _).drew⟩

set_option maxRecDepth 100000 in
set_option maxHeartbeats 400000 in
/-- take, whatever the reading does: it ends well, or it gives up and the reader has a fault. -/
theorem take_any {w : World} {b g : Nat} {lv bv : Value} {left : List Nat} (h : Rd w b lv bv left) (caps : Array Value) (R : World → Prop) (c : Nat) (F : List Nat) (hen : ∀ w, (callFunc g caps).run Try.prog w = .ok (.enter g caps) w) (hF : w.heap.size ∉ F)
    (hc : Calls Try.prog g caps (w.alloc (.cells #[.pointer (some ⟨b, 0, none⟩)] 25)) fun e w1 => (e = .returned (.tuple #[]) ∧ R w1) ∨ (Faulty e c ∧ (∃ lv' l', Rd w1 b lv' bv l') ∧ Kept F (w.alloc (.cells #[.pointer (some ⟨b, 0, none⟩)] 25)) w1)) :
    Calls Try.prog 55 #[.pointer (some ⟨b, 0, none⟩), .func (.func g) #[] caps] w fun e w' => e = .returned (.tuple #[]) ∧ (R w' ∨ (RdF w' b c ∧ Kept (b :: F) w w')) := by
  have hmf : ∀ (fn : Fn) (first cap : Array Value) (w : World), (Instr.makeFunc fn first cap).run Try.prog w = .ok (.func fn first cap) w := fun _ _ _ _ => rfl
  have hb := h.blk.lt
  have c2' : (w.alloc (.cells #[.pointer (some ⟨b, 0, none⟩)] 25)).cell? ⟨b, 2, none⟩ = some (.int .i64 0) := (blk3 (h.blk.alloc _)).2.2
  have HC := hide hc
  clear h hc
  go_enter_defers Try.func55, Try.ntmps55
  go_wp2_with fail
  refine (unhide HC).mono ?_
  rintro e w1 (⟨rfl, hR⟩ | ⟨⟨u, pv, rfl, hu⟩, ⟨lv', l', hrd⟩, hk⟩)
  · go_wp2
    refine leaves_cons (f := 79) (args := #[.pointer (some ⟨w.heap.size, 0, none⟩)]) (by simp) (by simp [go_sem]) ?_
    refine (recover_idle ⟨w.heap.size, 0, none⟩ _).mono ?_
    rintro e u' w'' ⟨rfl, rfl, rfl⟩
    simp [Leaves, settle, results, Try.results55, go_sem, hR]
  · go_wp2
    refine leaves_cons (f := 79) (args := #[.pointer (some ⟨w.heap.size, 0, none⟩)]) (by simp) (by simp [go_sem]) ?_
    have hp : w1.cell? ⟨w.heap.size, 0, none⟩ = some (.pointer (some ⟨b, 0, none⟩)) := by
      rw [hk.cell (p := ⟨w.heap.size, 0, none⟩) (by simp) hF]; exact blk1 (Blk.new _ _ _)
    refine (recover_panicking w.heap.size b lv' bv l' u pv c hp hrd hu).mono ?_
    rintro e u' w'' ⟨rfl, rfl, h1, h2⟩
    simp [Leaves, settle, results, Try.results55, go_sem]
    right
    refine ⟨h1, ?_⟩
    have k1 : Kept (b :: F) w w1 := ((Kept.refl [] w).alloc _ |>.mono (G := b :: F) (by simp)).trans hk (fun x hx => Or.inl (by simp [hx]))
    exact k1.trans h2 (fun x hx => Or.inl (by simp at hx; simp [hx]))

/-- The face of a call that takes: the reading ends well. q: the variable into which it lays its answer. -/
theorem face_ok {W : World} {b g : Nat} {lv bv : Value} {l : List Nat} (h : Rd W b lv bv l) (caps : Array Value) (hen : ∀ w, (callFunc g caps).run Try.prog w = .ok (.enter g caps) w) (Post : World → World → Prop)
    (hmono : ∀ w3 w', Kept [] W w3 → Post w3 w' → Post W w')
    (hc : ∀ w3, Kept [] W w3 → Calls Try.prog g caps w3 fun e w' => e = .returned (.tuple #[]) ∧ Post w3 w') :
    Calls Try.prog 55 #[.pointer (some ⟨b, 0, none⟩), .func (.func g) #[] caps] W fun e w' => e = .returned (.tuple #[]) ∧ Post W w' := by
  have k0 : Kept [] W (W.alloc (.cells #[.pointer (some ⟨b, 0, none⟩)] 25)) := (Kept.refl _ _).alloc _
  refine take_ok h caps (fun w' => Post W w') hen ?_
  refine (hc _ k0).mono ?_
  rintro e w' ⟨rfl, hp⟩
  exact ⟨rfl, hmono _ _ k0 hp⟩

/-- The face of a call that takes: the reading gives up. -/
theorem face_err {W : World} {b g : Nat} {lv bv : Value} {l : List Nat} (h : Rd W b lv bv l) (caps : Array Value) (c : Nat) (hen : ∀ w, (callFunc g caps).run Try.prog w = .ok (.enter g caps) w)
    (hc : ∀ w3, Kept [] W w3 → Calls Try.prog g caps w3 fun e w' => Faulty e c ∧ (∃ lv' l', Rd w' b lv' bv l') ∧ Kept [b] w3 w') :
    Calls Try.prog 55 #[.pointer (some ⟨b, 0, none⟩), .func (.func g) #[] caps] W fun e w' => e = .returned (.tuple #[]) ∧ RdF w' b c ∧ Kept [b] W w' := by
  have k0 : Kept [] W (W.alloc (.cells #[.pointer (some ⟨b, 0, none⟩)] 25)) := (Kept.refl _ _).alloc _
  have hb := h.blk.lt
  refine (take_any h caps (fun _ => False) c [b] hen (by simp; omega) ?_).mono ?_
  · refine (hc _ k0).mono ?_
    intro e w' hp
    exact Or.inr hp
  · rintro e w' ⟨rfl, hp | ⟨h1, h2⟩⟩
    · exact hp.elim
    · exact ⟨rfl, h1, h2.mono (fun x hx => by simp at hx; exact Or.inl (by simp [hx]))⟩
end Go.Proofs.Ytiabhgkndejigab
