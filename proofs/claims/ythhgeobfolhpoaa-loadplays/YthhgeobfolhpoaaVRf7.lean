/- The document's Window, Side. -/
import Derived.Test.YthhgeobfolhpoaaVRf5
namespace Go.Proofs.Ythhgeobfolhpoaa
open Go.RowKit

theorem winA_take {g : Int} {l : List Ht} {k : Nat} {x : Ht} (hx : l[k]? = some x) : winA g (l.take (k + 1)) = if (x.a : Int) = g then addF (winA g (l.take k)) x.x else winA g (l.take k) := by
  have : l.take (k + 1) = l.take k ++ [x] := by rw [List.take_add_one, hx]; rfl
  rw [this, winA_snoc]
set_option maxRecDepth 100000 in
set_option maxHeartbeats 2000000 in
theorem rwin_any {w : World} {b pc : Nat} {pa : Option Addr} {r : Rt} (h : Rp w b pa pc r) {m : Mt} (hm : Rel m r) {t : Nat} (ht : t < 8) (hlen : r.all.length ≤ 9223372036854775807) :
    Calls Try.prog 50 #[.pointer (some ⟨b, 0, none⟩), .int .i64 (t : Int)] w fun e w' => e = .returned (.float .f64 (m.wins.getD t 0)) ∧ ∃ k, w' = w.drewN k := by
  obtain ⟨c0, c1, c2, c3⟩ := h.cells
  rw [hm.half] at c1
  rw [hm.now] at c2
  have H := hide h
  have HM := hide hm
  have hh1 := hm.ok.h1
  have hh2 := hm.ok.h2
  have hcl := hm.ok.c
  have HWR : Hid (m.wins.getD t 0 = winA (((m.clock / m.half : Nat) : Int) - 7 + (t : Int)) r.all) := by unfold Hid; rw [hm.win t ht]; unfold winR; rw [hm.half, hm.now]
  generalize hhf : m.half = hf at *
  generalize hcc : m.clock = cl at *
  obtain ⟨A, hA⟩ : ∃ A, cl / hf = A := ⟨_, rfl⟩
  have hAle : A ≤ 1099511627776 := by have : cl / hf ≤ cl := Nat.div_le_self _ _; omega
  have hqw : IntKind.i64.wrap ((cl : Int) / (hf : Int)) = (A : Int) := by
    rw [← Int.natCast_ediv, hA, IntKind.wrap_i64]
    omega
  rw [hA] at HWR
  rw [unhide HWR]
  obtain ⟨G, hG⟩ : ∃ G : Int, (A : Int) - 7 + (t : Int) = G := ⟨_, rfl⟩
  have hw1 : IntKind.i64.wrap ((A : Int) - 8) = (A : Int) - 8 := by rw [IntKind.wrap_i64]; omega
  have hw2 : IntKind.i64.wrap ((A : Int) - 8 + 1) = (A : Int) - 7 := by rw [IntKind.wrap_i64]; omega
  have hw3 : IntKind.i64.wrap ((A : Int) - 7 + (t : Int)) = G := by rw [IntKind.wrap_i64]; omega
  rw [hG]
  have t7 : (hf = 0) = False := by simp; omega
  obtain ⟨L, hL⟩ : ∃ L, r.all.length = L := ⟨_, rfl⟩
  rw [hL] at c3 hlen
  have HL := hide hL
  clear h hm hhf hcc hA hL HWR hG
  go_enter Try.func50, Try.ntmps50
  go_wp2_with fail
  have HW1 : Hid (∀ x ∈ r.all, wok x.x) := fun x hx => ((unhide HM).hits x hx).2.2
  go_loopw [5, 6] (fun v i wr => ∃ k : Nat, k ≤ L ∧ i = .int .i64 (k : Int) ∧ v = .float .f64 (winA G (r.all.take k)) ∧ ∃ j, wr = w.drewN j) (fun _ i _ => L - (intOf i).toNat)
  case atStart => exact ⟨0, by omega, rfl, rfl, 0, rfl⟩
  case round =>
    obtain ⟨k, hk, rfl, rfl, j, rfl⟩ := hrel
    have hlow := winA_low (g := G) (l := r.all.take k) (fun x hx => unhide HW1 x (List.mem_of_mem_take hx))
    by_cases hkl : k < L
    · obtain ⟨x, g, hx, rfl, q0, q1, q2⟩ := (unhide H).hit_at (k := k) (by rw [unhide HL]; exact hkl)
      have HT := hide (winA_take (g := G) hx)
      have hxw := unhide HW1 x (List.mem_of_getElem? hx)
      have t1 : (k : Int) < (L : Int) := by omega
      have t0 : (0 : Int) ≤ (k : Int) := by omega
      obtain ⟨xs, xa, xx⟩ := x
      simp only at q0 q1 q2 hxw
      clear HW1 H HM hx
      by_cases hs : (xa : Int) = G
      · have HT2 : Hid (winA G (r.all.take (k + 1)) = addF (winA G (r.all.take k)) xx) := by unfold Hid; rw [unhide HT, if_pos hs]
        have t2 : ((xa : Int) == G) = true := by simpa using hs
        have hadd := (add_eq hlow.good hxw.fair).1
        generalize winA G (r.all.take k) = v at *
        generalize addF v xx = a1 at *
        have r1 : ∀ t w, (binOp .add t (.float .f64 v) (.float .f64 xx)).run Try.prog w = .ok (.float .f64 a1) w := fun t w => run_float_arith w .add t .f64 _ _ _ hadd
        clear hadd hlow hxw HT hs
        go_wp2_with fail
        go_region_held3 (fun W => W.cell? ⟨b, 3, none⟩ = some (.slice (some ⟨g, 0, none⟩) L pc) ∧ W.cell? ⟨g, k * 3 + 1, none⟩ = some (.int .i64 (xa : Int)) ∧ W.cell? ⟨b, 2, none⟩ = some (.int .i64 (cl : Int)) ∧ W.cell? ⟨b, 1, none⟩ = some (.int .i64 (hf : Int))) (go_keep) (fail)
        go_wp2_with fail
        exact ⟨⟨k + 1, by omega, by simp, by rw [unhide HT2], j + 1, rfl⟩, by simp [intOf]; omega⟩
      · have HT2 : Hid (winA G (r.all.take (k + 1)) = winA G (r.all.take k)) := by unfold Hid; rw [unhide HT, if_neg hs]
        have t2 : ((xa : Int) == G) = false := by simpa using hs
        generalize winA G (r.all.take k) = v at *
        clear HT hlow hxw hs
        go_wp2_with fail
        go_region_held3 (fun W => W.cell? ⟨b, 3, none⟩ = some (.slice (some ⟨g, 0, none⟩) L pc) ∧ W.cell? ⟨g, k * 3 + 1, none⟩ = some (.int .i64 (xa : Int)) ∧ W.cell? ⟨b, 2, none⟩ = some (.int .i64 (cl : Int)) ∧ W.cell? ⟨b, 1, none⟩ = some (.int .i64 (hf : Int))) (go_keep) (fail)
        go_wp2_with fail
        exact ⟨⟨k + 1, by omega, by simp, by rw [unhide HT2], j + 1, rfl⟩, by simp [intOf]; omega⟩
    · obtain rfl : k = L := by omega
      have hfull : r.all.take k = r.all := by rw [← unhide HL, List.take_length]
      rw [hfull]
      clear HW1 H HM hlow hfull
      go_wp2_with fail
      go_ret
      exact ⟨rfl, j, rfl⟩
set_option maxRecDepth 100000 in
theorem rside_any (w : World) {n : Nat} (hn : n < 8) : Calls Try.prog 51 #[.int .i64 (n : Int)] w fun e w' => e = .returned (.float .f64 (reW n)) ∧ w' = w := by
  rcases (show n = 0 ∨ n = 1 ∨ n = 2 ∨ n = 3 ∨ n = 4 ∨ n = 5 ∨ n = 6 ∨ n = 7 by omega) with rfl | rfl | rfl | rfl | rfl | rfl | rfl | rfl <;>
  · go_enter Try.func51, Try.ntmps51
    go_wp2
    go_ret
    exact ⟨rfl, rfl⟩
end Go.Proofs.Ythhgeobfolhpoaa
