/- The reader's Leave; Enter where it is refused. -/
import Derived.Test.YtiabhgkndejigabEnter
import Derived.Deep.DeepCutAuto
namespace Go.Proofs.Ytiabhgkndejigab
open Go.RowKit

theorem en115 (a : Array Value) (w : World) : (callFunc 56 a).run Try.prog w = .ok (.enter 56 a) w := by kernel_rfl
theorem en116 (a : Array Value) (w : World) : (callFunc 60 a).run Try.prog w = .ok (.enter 60 a) w := by kernel_rfl

/-- A way of a region that ends by a panic: nothing is left to be walked. -/
theorem stop_region (w : World) {p : Prop} (h : p) (_ : wpAny Try.prog default #[] (fun _ _ _ => True) 0 #[] { tmps := #[], defers := [] } w) : p := h

set_option maxRecDepth 100000 in
set_option maxHeartbeats 400000 in
theorem clos_enter_err {w : World} {b : Nat} {lv bv : Value} {hs : List Value} {l : List Nat} {behind : List (List Nat)} {D : Option Nat} (h : Rf w b lv bv hs l behind D) (hl : ∀ x ∈ l, x < 256) (p q c : Nat)
    (hp : w.cell? ⟨p, 0, none⟩ = some (.pointer (some ⟨b, 0, none⟩))) (hpb : p ≠ b)
    (hr : (behind.length = 16 ∧ c = 11) ∨ (behind.length < 16 ∧ (readNum 0 0 l = .inl c ∨ ∃ n r, readNum 0 0 l = .inr (n, r) ∧ r.length < n ∧ c = 10))) :
    Calls Try.prog 56 #[.pointer (some ⟨p, 0, none⟩), .pointer (some ⟨q, 0, none⟩)] w fun e w' => Faulty e c ∧ (∃ lv' l', Rd w' b lv' bv l') ∧ Kept [b] w w' := by
  have HH := hide h
  have HC : Hid (∀ wx, Kept [] w wx → Calls Try.prog 59 #[.pointer (some ⟨b, 0, none⟩)] wx fun e w' => (∀ n rest, readNum 0 0 l = .inr (n, rest) → e = .returned (.int .u64 (n : Nat)) ∧ ∃ lv', Rd w' b lv' bv rest ∧ lv'.ownBlock = lv.ownBlock) ∧ (∀ c, readNum 0 0 l = .inl c → Faulty e c ∧ ∃ lv' l', Rd w' b lv' bv l') ∧ Kept [b] wx w') := fun wx hk => number_any (h.rd.kept hk (by simp) (by simp)) hl
  have hpl := World.block_lt_of_cell? w ⟨p, 0, none⟩ hp
  obtain ⟨c0, c1, c2⟩ := blk3 h.rd.blk
  obtain ⟨ba, bc, hbv⟩ := own_len h.own
  rw [hbv] at c1
  have hlen := h.hl
  rcases hr with ⟨h16, rfl⟩ | ⟨h16, hr⟩
  · have hne16 : ((hs.length : Int) == 16) = true := by rw [beq_iff_eq]; omega
    clear h hl hbv hlen h16
    go_enter Try.func56, Try.ntmps56
    go_wp2_with (first | (go_at_call 57; refine (refuse_yes _ _).mono ?_; rintro e w'' ⟨rfl, rfl⟩))
    exact ⟨rfl, ⟨37, _, rfl, Or.inr ⟨rfl, rfl⟩⟩, ⟨_, _, (unhide HH).rd⟩, Kept.refl _ _⟩
  · have hne16 : ((hs.length : Int) == 16) = false := by rw [beq_eq_false_iff_ne]; omega
    clear h hl hbv hlen h16
    rcases hr with hr | ⟨n, r, hr, hrn, rfl⟩
    · have HR := hide hr
      clear hr
      go_enter Try.func56, Try.ntmps56
      go_wp2_with (first | (go_at_call 57; refine (refuse_no _ _).mono ?_; rintro e w'' ⟨rfl, rfl⟩))
      go_region_with (first
        | (go_at_call 59; refine (unhide HC w.drew (Kept.refl [] w).drew).mono ?_; rintro e w1 ⟨_, g1, hk1⟩; obtain ⟨⟨u, pv, rfl, hu⟩, hrd⟩ := g1 c (unhide HR); clear g1)
        | (refine stop_region w ⟨rfl, ⟨u, pv, rfl, hu⟩, hrd, (Kept.refl [b] w).drew.trans hk1 (fun x hx => Or.inl hx)⟩ ?_))
      all_goals trivial
    · have HR := hide hr
      clear hr
      go_enter Try.func56, Try.ntmps56
      go_wp2_with (first | (go_at_call 57; refine (refuse_no _ _).mono ?_; rintro e w'' ⟨rfl, rfl⟩))
      go_region_with (first
        | (go_at_call 59; refine (unhide HC w.drew (Kept.refl [] w).drew).mono ?_; rintro e w1 ⟨g1, _, hk1⟩; obtain ⟨rfl, lv1, hrd1, ho1⟩ := g1 n r (unhide HR); have hp1 := (hk1.cell (p := ⟨p, 0, none⟩) hpl (by simpa using hpb)).trans hp; have HC2 := hide (cut_end hrd1 n (by omega)); have HRD := hide hrd1; have HK1 := hide hk1; clear g1 hrd1 ho1 hk1)
        | (go_at_call 58; refine (unhide HC2).mono ?_; rintro e w2 ⟨⟨pv, rfl⟩, hq2⟩)
        | (refine stop_region w ⟨rfl, ⟨8, pv, rfl, Or.inl ⟨rfl, rfl⟩⟩, ⟨_, _, (unhide HRD).kept hq2.kept (by simp) (by simp)⟩, ((Kept.refl [b] w).drew.trans (unhide HK1) (fun x hx => Or.inl hx)).trans hq2.kept (by simp)⟩ ?_))
      all_goals trivial

end Go.Proofs.Ytiabhgkndejigab
