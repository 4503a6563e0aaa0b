/- The document's Of. -/
import Derived.Test.YthhgeobfolhpoaaVRf3
import Derived.Deep.RegionHeld3
namespace Go.Proofs.Ythhgeobfolhpoaa
open Go.RowKit

theorem flatH_at {l : List Ht} {k : Nat} {x : Ht} (hx : l[k]? = some x) : (flatH l)[k * 3]? = some (.int .i64 (x.s : Int)) ∧ (flatH l)[k * 3 + 1]? = some (.int .i64 (x.a : Int)) ∧ (flatH l)[k * 3 + 2]? = some (.float .f64 x.x) := by
  induction l generalizing k with
  | nil => simp at hx
  | cons y l ih =>
    cases k with
    | zero => simp at hx; subst hx; exact ⟨rfl, rfl, rfl⟩
    | succ k =>
      have := ih (k := k) (by simpa using hx)
      simp only [flatH, List.flatMap_cons] at this ⊢
      have e : ∀ j, (hc y ++ List.flatMap hc l)[(k + 1) * 3 + j]? = (List.flatMap hc l)[k * 3 + j]? := fun j => by
        rw [List.getElem?_append_right (by simp [hc]; omega)]
        congr 1
        simp [hc]; omega
      exact ⟨(e 0).trans this.1, (e 1).trans this.2.1, (e 2).trans this.2.2⟩
theorem Rp.hit_at {w : World} {b pc : Nat} {pa : Option Addr} {r : Rt} (h : Rp w b pa pc r) {k : Nat} (hk : k < r.all.length) : ∃ x g, r.all[k]? = some x ∧ pa = some ⟨g, 0, none⟩ ∧ w.cell? ⟨g, k * 3, none⟩ = some (.int .i64 (x.s : Int)) ∧ w.cell? ⟨g, k * 3 + 1, none⟩ = some (.int .i64 (x.a : Int)) ∧ w.cell? ⟨g, k * 3 + 2, none⟩ = some (.float .f64 x.x) := by
  have hx := List.getElem?_eq_getElem hk
  obtain ⟨q0, q1, q2⟩ := flatH_at hx
  rcases h.row.2 with ⟨_, h0⟩ | ⟨g, cap', cur, hq, _⟩
  · omega
  · injection hq with e1 e2 e3
    subst e1
    have d0 := h.row.cells (g := g) (by rw [e3]; rfl) _ _ q0
    have d1 := h.row.cells (g := g) (by rw [e3]; rfl) _ _ q1
    have d2 := h.row.cells (g := g) (by rw [e3]; rfl) _ _ q2
    rw [Addr.add_mid, Nat.zero_add] at d0 d1 d2
    exact ⟨_, g, hx, rfl, d0, d1, d2⟩
theorem acc_take {s : Nat} {l : List Ht} {k : Nat} {x : Ht} (hx : l[k]? = some x) : acc s (l.take (k + 1)) = stp s (acc s (l.take k)) x := by
  have : l.take (k + 1) = l.take k ++ [x] := by rw [List.take_add_one, hx]; rfl
  rw [this, acc_snoc]
theorem rise_at {l : List Ht} (h : l.Pairwise (fun x y => x.a ≤ y.a)) {k : Nat} {x : Ht} (hx : l[k]? = some x) : ∀ y ∈ l.take k, y.a ≤ x.a := by
  intro y hy
  obtain ⟨i, hi, e⟩ := List.mem_iff_getElem.1 hy
  simp at hi
  obtain ⟨hk, ex⟩ := List.getElem?_eq_some_iff.1 hx
  have := List.pairwise_iff_getElem.1 h i k (by omega) hk (by omega)
  rw [← ex]
  simp at e
  rw [← e]
  exact this

set_option maxRecDepth 100000 in
set_option maxHeartbeats 2000000 in
theorem rof_any {w : World} {b pc : Nat} {pa : Option Addr} {r : Rt} (h : Rp w b pa pc r) {m : Mt} (hm : Rel m r) (si : Int) (s : Nat) (hsi : ∀ x ∈ r.all, (x.s : Int) = si ↔ x.s = s) (hlen : r.all.length ≤ 9223372036854775807) :
    Calls Try.prog 32 #[.pointer (some ⟨b, 0, none⟩), .int .i64 si] w fun e w' => e = .returned (.float .f64 (ofR r s)) ∧ ∃ k, w' = w.drewN k := by
  obtain ⟨c0, c1, c2, c3⟩ := h.cells
  rw [hm.half] at c1
  rw [hm.now] at c2
  have H := hide h
  have HM := hide hm
  have HSI := hide hsi
  clear hsi
  have hh1 := hm.ok.h1
  have hh2 := hm.ok.h2
  have hcl := hm.ok.c
  have HOF : Hid (ofR r s = hlfN (acc s r.all).1 (m.clock / m.half - (acc s r.all).2)) := by unfold Hid ofR; rw [hm.half, hm.now]
  generalize hhf : m.half = hf at *
  generalize hcc : m.clock = cl at *
  have HHF := hide hhf
  have HCC := hide hcc
  obtain ⟨A, hA⟩ : ∃ A, cl / hf = A := ⟨_, rfl⟩
  have hAle : A ≤ 1099511627776 := by have : cl / hf ≤ cl := Nat.div_le_self _ _; omega
  have hqw : IntKind.i64.wrap ((cl : Int) / (hf : Int)) = (A : Int) := by
    rw [← Int.natCast_ediv, hA, IntKind.wrap_i64]
    omega
  have HA := hide hA
  rw [hA] at HOF
  rw [unhide HOF]
  have t7 : (hf = 0) = False := by simp; omega
  obtain ⟨L, hL⟩ : ∃ L, r.all.length = L := ⟨_, rfl⟩
  rw [hL] at c3 hlen
  have HL := hide hL
  clear h hm hhf hcc hA hL HOF
  go_enter Try.func32, Try.ntmps32
  go_wp2_with fail
  have HW1 : Hid (∀ x ∈ r.all, wok x.x) := fun x hx => ((unhide HM).hits x hx).2.2
  have HW2 : Hid (∀ x ∈ r.all, x.a ≤ A) := fun x hx => by have := ((unhide HM).hits x hx).2.1; rw [unhide HHF, unhide HCC, unhide HA] at this; exact this
  go_loopw [5, 6, 7] (fun v a i wr => ∃ k : Nat, k ≤ L ∧ i = .int .i64 (k : Int) ∧ v = .float .f64 (acc s (r.all.take k)).1 ∧ a = .int .i64 ((acc s (r.all.take k)).2 : Int) ∧ ∃ j, wr = w.drewN j) (fun _ _ i _ => L - (intOf i).toNat)
  case atStart => exact ⟨0, by omega, rfl, rfl, rfl, 0, rfl⟩
  case round =>
    obtain ⟨k, hk, rfl, rfl, rfl, j, rfl⟩ := hrel
    have hlow := acc_low (s := s) (l := r.all.take k) (fun x hx => unhide HW1 x (List.mem_of_mem_take hx))
    by_cases hkl : k < L
    · obtain ⟨x, g, hx, rfl, q0, q1, q2⟩ := (unhide H).hit_at (k := k) (by rw [unhide HL]; exact hkl)
      have hage := acc_age (s := s) (rise_at (unhide HM).rise hx)
      have HT := hide (acc_take (s := s) hx)
      have hxm : x ∈ r.all := List.mem_of_getElem? hx
      have hxw := unhide HW1 x hxm
      have hxA := unhide HW2 x hxm
      have hxs := unhide HSI x hxm
      have t1 : (k : Int) < (L : Int) := by omega
      have t0 : (0 : Int) ≤ (k : Int) := by omega
      obtain ⟨xs, xa, xx⟩ := x
      simp only at q0 q1 q2 hage hxw hxA hxs
      clear HW1 HW2 H HM hx hxm HSI
      by_cases hs : xs = s
      · have t2 : ((xs : Int) == si) = true := by simpa using hxs.2 hs
        subst hs
        have HT2 : Hid (acc xs (r.all.take (k + 1)) = (addF (hlfN (acc xs (r.all.take k)).1 (xa - (acc xs (r.all.take k)).2)) xx, xa)) := by unfold Hid; rw [unhide HT]; simp [stp]
        generalize acc xs (r.all.take k) = pp at *
        obtain ⟨p1, p2⟩ := pp
        simp only at *
        obtain ⟨d, hd⟩ : ∃ d, xa - p2 = d := ⟨_, rfl⟩
        rw [hd] at HT2
        have hsub : IntKind.i64.wrap ((xa : Int) - (p2 : Int)) = (d : Int) := by rw [IntKind.wrap_i64]; omega
        have HH := fun W => hide (rhalved_any W hlow d (by omega))
        have hadd := (add_eq (hlfN_low d hlow).good hxw.fair).1
        generalize hlfN p1 d = h1 at *
        generalize addF h1 xx = a1 at *
        have r1 : ∀ t w, (binOp .add t (.float .f64 h1) (.float .f64 xx)).run Try.prog w = .ok (.float .f64 a1) w := fun t w => run_float_arith w .add t .f64 _ _ _ hadd
        clear hadd hd hlow hage hxw HT hxs
        go_wp2_with fail
        go_region_held3 (fun W => W.cell? ⟨b, 3, none⟩ = some (.slice (some ⟨g, 0, none⟩) L pc) ∧ W.cell? ⟨g, k * 3 + 1, none⟩ = some (.int .i64 (xa : Int)) ∧ W.cell? ⟨g, k * 3 + 2, none⟩ = some (.float .f64 xx)) (go_keep)
          (first | (go_at_call 49; refine (unhide (HH _)).mono ?_; rintro e wq ⟨rfl, hq⟩; have hq' := hq.symm; subst hq'; clear hq))
        go_wp2_with fail
        exact ⟨⟨k + 1, by omega, by simp, by rw [unhide HT2], by rw [unhide HT2], j + 1, rfl⟩, by simp [intOf]; omega⟩
      · have HT2 : Hid (acc s (r.all.take (k + 1)) = acc s (r.all.take k)) := by unfold Hid; rw [unhide HT]; simp [stp, hs]
        have t2 : ((xs : Int) == si) = false := by simpa using fun e => hs (hxs.1 e)
        generalize acc s (r.all.take k) = pp at *
        clear HT hlow hage hxw hxs
        go_wp2_with fail
        exact ⟨⟨k + 1, by omega, by simp, by rw [unhide HT2], by rw [unhide HT2], j, rfl⟩, by simp [intOf]; omega⟩
    · obtain rfl : k = L := by omega
      have hfull : r.all.take k = r.all := by rw [← unhide HL, List.take_length]
      rw [hfull] at hlow
      rw [hfull]
      have hage := acc_age (s := s) (unhide HW2)
      obtain ⟨p1, hp1⟩ : ∃ p1, (acc s r.all).1 = p1 := ⟨_, rfl⟩
      obtain ⟨p2, hp2⟩ : ∃ p2, (acc s r.all).2 = p2 := ⟨_, rfl⟩
      rw [hp1] at hlow
      rw [hp2] at hage
      rw [hp1, hp2]
      obtain ⟨d, hd⟩ : ∃ d, A - p2 = d := ⟨_, rfl⟩
      have HP := hide (show hlfN (acc s r.all).1 (A - (acc s r.all).2) = hlfN p1 d by rw [hp1, hp2, hd])
      have hsub : IntKind.i64.wrap ((A : Int) - (p2 : Int)) = (d : Int) := by rw [IntKind.wrap_i64]; omega
      have HH := fun W => hide (rhalved_any W hlow d (by omega))
      clear hd hlow hage hfull HW1 HW2 H HM hp1 hp2 HSI
      generalize hlfN p1 d = h1 at *
      go_wp2_with fail
      go_region_held3 (fun W => W.cell? ⟨b, 2, none⟩ = some (.int .i64 (cl : Int)) ∧ W.cell? ⟨b, 1, none⟩ = some (.int .i64 (hf : Int))) (go_keep)
        (first | (go_at_call 49; refine (unhide (HH _)).mono ?_; rintro e wq ⟨rfl, hq⟩; have hq' := hq.symm; subst hq'; clear hq))
      go_wp2_with fail
      go_ret
      exact ⟨by rw [unhide HP]; rfl, j + 1, rfl⟩
end Go.Proofs.Ythhgeobfolhpoaa
