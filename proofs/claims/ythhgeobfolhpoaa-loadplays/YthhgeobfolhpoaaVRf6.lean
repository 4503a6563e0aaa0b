/- The document's Row. -/
import Derived.Test.YthhgeobfolhpoaaVRf5
namespace Go.Proofs.Ythhgeobfolhpoaa
open Go.RowKit

theorem infoF64 : (Try.prog.info? 46).map (fun i => (i.zero, i.size, i.bytes)) = some (some (.float .f64 0), 1, 8) := by kernel_rfl
theorem rof_at {w : World} {b pc : Nat} {pa : Option Addr} {r : Rt} (h : Rp w b pa pc r) {m : Mt} (hm : Rel m r) {k : Nat} (hk : k < m.loads.length) (hlen : r.all.length ≤ 9223372036854775807) :
    Calls Try.prog 32 #[.pointer (some ⟨b, 0, none⟩), .int .i64 (k : Int)] w fun e w' => e = .returned (.float .f64 (m.loads.getD k 0)) ∧ ∃ k, w' = w.drewN k := by
  rw [hm.load k hk]
  exact rof_any h hm (k : Int) k (fun x hx => by omega) hlen
theorem cell_new1 (w : World) (v : Value) (t : TypeId) : ∀ j u, [v][j]? = some u → (w.alloc (.cells #[v] t)).cell? ((⟨w.heap.size, 0, none⟩ : Addr).add j) = some u := by
  intro j u hu
  rw [Addr.add_mid, Nat.zero_add, (Blk.new w #[v] t).cell]
  simpa using hu
set_option maxRecDepth 100000 in
set_option maxHeartbeats 2000000 in
theorem rrow_any {w : World} {b pc : Nat} {pa : Option Addr} {r : Rt} (h : Rp w b pa pc r) {m : Mt} (hm : Rel m r) (hlen : r.all.length ≤ 9223372036854775807) :
    Calls Try.prog 37 #[.pointer (some ⟨b, 0, none⟩)] w fun e w' => ∃ v, e = .returned v ∧ w'.ownsRow w.heap.size 46 1 v m.loads.length (flts m.loads) ∧ Kept [] w w' := by
  obtain ⟨i0, hi, hz0, hz1, hz2⟩ := info_parts infoF64
  have HI := hide (⟨hi, hz0, hz1, hz2⟩ : _ ∧ _ ∧ _ ∧ _)
  clear hi hz0 hz1 hz2
  obtain ⟨c0, c1, c2, c3⟩ := h.cells
  rw [hm.n] at c0
  have hl2 := hm.ok.l2
  have HOF : Hid (∀ W, Kept [] w W → ∀ k, k < m.loads.length → Calls Try.prog 32 #[.pointer (some ⟨b, 0, none⟩), .int .i64 (k : Int)] W fun e w' => e = .returned (.float .f64 (m.loads.getD k 0)) ∧ Kept [] W w') := by
    intro W hW k hk
    exact (rof_at (h.kept hW (by simp) (by simp)) hm hk hlen).mono fun e w' ⟨he, j, hj⟩ => ⟨he, by rw [hj]; exact (Kept.refl _ _).drewN _⟩
  have HB := hide h.head
  clear h hm c1 c2 c3
  generalize hml : m.loads = l at *
  obtain ⟨L, hL⟩ : ∃ L, l.length = L := ⟨_, rfl⟩
  rw [hL] at c0 hl2 HOF ⊢
  have HL := hide hL
  clear hL
  go_enter Try.func37, Try.ntmps37
  go_wp2_with fail
  go_loopw [3, 4] (fun v i wr => ∃ k : Nat, k ≤ L ∧ i = .int .i64 (k : Int) ∧ wr.ownsRow w.heap.size 46 1 v k (flts (l.take k)) ∧ Kept [] w wr) (fun _ i _ => L - (intOf i).toNat)
  case atStart => exact ⟨0, by omega, rfl, World.ownsRow_nil _ _ _ _, Kept.refl _ _⟩
  case round =>
    obtain ⟨k, hk, rfl, ho, hkp⟩ := hrel
    obtain ⟨va, vc, rfl⟩ := own_len ho
    have HO := hide ho
    have HKP := hide hkp
    have d0 := (hkp.cell (p := ⟨b, 0, none⟩) (unhide HB).lt (by simp)).trans c0
    by_cases hkl : k < L
    · have HC := hide (unhide HOF _ hkp k hkl)
      have HT : Hid (flts (l.take (k + 1)) = flts (l.take k) ++ [.float .f64 (l.getD k 0)]) := by
        unfold Hid
        have hk' : k < l.length := by rw [unhide HL]; exact hkl
        rw [List.take_add_one, List.getElem?_eq_getElem hk', flts_append]
        simp [flts, hk']
      have t1 : (k : Int) < (L : Int) := by omega
      generalize l.getD k 0 = x at *
      clear ho hkp HOF
      go_wp2_with (first
        | (go_at_call 32; refine (unhide HC).mono ?_; rintro e w1 ⟨rfl, hk1⟩; have HK1 := hide hk1; have HO1 := hide (own_kept (unhide HO) hk1 (by simp)); clear HC hk1)
        | (at_builtin; refine wpList_append_own_at _ rfl _ _ 43 rfl w.heap.size 46 i0 _ 1 8 Try.underlying43 (unhide HI).1 (unhide HI).2.1 (unhide HI).2.2.1 (unhide HI).2.2.2 rfl (by decide) _ _ _ rfl ((unhide HO1).alloc _) ⟨w1.heap.size, 0, none⟩ 1 1 [.float .f64 x] rfl rfl (cell_new1 _ _ _) (by simp [Value.oneCell']) (by unfold maxLen; omega) (by omega) (by have := (unhide HKP).size; have := (unhide HK1).size; simp; omega) ?_))
      intro v2 w2 ho2 hg2 hx1 hx2
      obtain ⟨a2, c2, rfl⟩ := own_len ho2
      have HO2 := hide ho2
      have HK2 : Hid (Kept [] w w2) := (((unhide HKP).trans (unhide HK1) (by simp)).alloc _).grown hg2 (fun q hq => Or.inr ((unhide HO1).lt q hq).1)
      clear ho2 hg2 hx1 hx2
      go_wp2_with fail
      exact ⟨⟨k + 1, by omega, by simp, by rw [unhide HT]; exact unhide HO2, unhide HK2⟩, by simp [intOf]; omega⟩
    · obtain rfl : k = L := by omega
      have hfull : l.take k = l := by rw [← unhide HL, List.take_length]
      rw [hfull] at HO
      clear ho hkp HOF hfull
      go_wp2_with fail
      go_ret
      exact ⟨_, rfl, unhide HO, unhide HKP⟩
end Go.Proofs.Ythhgeobfolhpoaa
