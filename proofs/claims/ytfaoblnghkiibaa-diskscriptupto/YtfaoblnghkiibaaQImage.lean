/- Image. -/
import Derived.Test.YtfaoblnghkiibaaQCarry
import Derived.OwnWalk
namespace Go.Proofs.Ytfaoblnghkiibaa
open Go.RowKit

set_option maxRecDepth 100000 in
theorem nimage (w : World) : Calls Try.prog 27 #[.pointer none] w fun e w' => e = .returned (.slice none 0 0) ∧ w' = w := by
  go_enter Try.func27, Try.ntmps27
  go_wp2
  go_ret
  exact ⟨rfl, rfl⟩

theorem sect_succ {s : List Nat} {k : Nat} : s.take (64 * k) ++ sect s k = s.take (64 * (k + 1)) := by
  unfold sect
  rw [show 64 * (k + 1) = 64 * k + 64 by omega, List.take_add]

set_option maxRecDepth 100000 in
set_option maxHeartbeats 1000000 in
theorem image_any {w : World} {b : Nat} {F : List Nat} {d : Dm} (h : Dk w b F d) :
    Calls Try.prog 27 #[.pointer (some ⟨b, 0, none⟩)] w fun e w' => ∃ r cap, e = .returned (.slice (some ⟨r, 0, none⟩) (64 * d.n) cap) ∧ w'.ownsRow w.heap.size 5 1 (.slice (some ⟨r, 0, none⟩) (64 * d.n) cap) (64 * d.n) (u8s d.safe) ∧ Kept [] w w' := by
  obtain ⟨g, pa, pc, h, -⟩ := h
  obtain ⟨c0, -, -, -, -, -⟩ := dp_cells h
  obtain ⟨i0, hi, hz0, hz1, hz2⟩ := info_parts info5p
  have HI := hide (⟨hi, hz0, hz1, hz2⟩ : _ ∧ _ ∧ _ ∧ _)
  have H := hide h
  have hn := h.ok.most
  have hn1 := h.ok.one
  have HLEN := hide h.ok.len
  have HBY := hide h.ok.byte
  clear hi hz0 hz1 hz2 h
  generalize hN : d.n = n at *
  have HN := hide hN
  clear hN
  have hmx : 64 * n ≤ maxLen := by unfold maxLen; omega
  have e3 : ((n : Int) * 64) = ((64 * n : Nat) : Int) := by omega
  have HE3 := hide e3
  clear e3
  go_enter Try.func27, Try.ntmps27
  go_wp2_with (at_make; refine wpList_make_own _ rfl _ _ 22 rfl w.heap.size 5 i0 (.int .u8 0) 1 Try.underlying22 (unhide HI).1 (unhide HI).2.1 (unhide HI).2.2.1 .i64 .i64 _ (64 * n) rfl rfl (unhide HE3) ?b2 hmx (Nat.le_refl _) ?_)
  case b2 => rw [(unhide HI).2.2.2]; omega
  intro w1 ho1 hg1
  have HO1 : Hid (w1.ownsRow w.heap.size 5 1 (.slice (some ⟨w.heap.size, 0, none⟩) 0 (64 * n)) ([] : List Nat).length (u8s [])) := ho1
  have HK1 : Hid (Kept [] w w1) := (Kept.refl [] w).grown hg1 (fun k hk => by cases hk)
  have c0' : w1.cell? ⟨b, 0, none⟩ = some (.slice (some ⟨g, 0, none⟩) n n) := ((unhide HK1).cell (p := ⟨b, 0, none⟩) (unhide H).head.lt (by simp)).trans c0
  clear ho1 hg1
  go_wp2_with fail
  go_loopw [3, 20] (fun s i wr => ∃ k : Nat, k ≤ n ∧ i = .int .i64 k ∧ (∃ a c, s = .slice a (64 * k) c) ∧ wr.ownsRow w.heap.size 5 1 s (64 * k) (u8s (d.safe.take (64 * k))) ∧ Kept [] w wr) (fun _ i _ => n - (intOf i).toNat)
  case atStart => exact ⟨0, by omega, rfl, ⟨_, _, rfl⟩, unhide HO1, unhide HK1⟩
  case round =>
    obtain ⟨k, hk, rfl, ⟨sa, sc, rfl⟩, ho, hkp⟩ := hrel
    by_cases hkn : k < n
    · have hd := (unhide H).keep hkp (by simp) (by simp) (by simp)
      have HR := hide (dp_sect hd (k := k) (by rw [unhide HN]; exact hkn))
      have HSL := hide (sect_len (s := d.safe) (k := k) (unhide HLEN) hkn)
      have HSB := hide (sect_bytes (k := k) (unhide HBY))
      have HSU := hide (sect_succ (s := d.safe) (k := k))
      have HTL : Hid ((d.safe.take (64 * k)).length = 64 * k) := by unfold Hid; rw [List.length_take, unhide HLEN]; omega
      generalize d.safe.take (64 * k) = tk at *
      generalize sect d.safe k = sd at *
      have hka : Kept [] wr (wr.alloc (.cells (u8s sd).toArray 70)) := (Kept.refl _ _).alloc _
      have HKA : Hid (Kept [] w (wr.alloc (.cells (u8s sd).toArray 70))) := hkp.trans hka (fun _ hx => by cases hx)
      have HO : Hid ((wr.alloc (.cells (u8s sd).toArray 70)).ownsRow w.heap.size 5 1 (.slice sa (64 * k) sc) tk.length (u8s tk)) := by
        unfold Hid; rw [unhide HTL]; exact own_kept ho hka (by simp)
      have HS3 : Hid (Sees (wr.alloc (.cells (u8s sd).toArray 70)) (.slice (some ⟨wr.heap.size, 0, none⟩) 64 64) sd) := Sees.of_blk (unhide HSL) (Blk.new wr _ 70) (unhide HSB) 64 (by omega) (by omega)
      have hle := (unhide HKA).size
      have HLE := hide hle
      clear hle hka ho hkp hd
      have t1 : (k : Int) < (n : Int) := by omega
      go_wp2_with (first
        | (guard_target =~ wpList _ _ _ _ _ _; refine wpList_load_mid rfl 70 _ rfl g (k * 64) rfl (u8s sd) _ (unhide HR) Try.underlying70 rfl (by rw [u8s_length, unhide HSL]; exact size70) ?_)
        | (guard_target =~ wpList _ _ _ _ _ _; refine wpList_alloc_z 70 z70 rfl rfl zero70 ?_)
        | (guard_target =~ wpList _ _ _ _ _ _; refine wpList_store_new _ _ 70 z70.toArray (u8s sd) rfl rfl rfl rfl (by rw [u8s_length, unhide HSL]; exact size70) (by rw [u8s_length, unhide HSL]; simp [z70_len]) (u8s_one _) rfl ?_)
        | (at_builtin; refine wpList_append_sees _ rfl _ _ 22 rfl w.heap.size 5 i0 (.int .u8 0) Try.underlying22 (unhide HI).1 (unhide HI).2.1 (unhide HI).2.2.1 (unhide HI).2.2.2 rfl _ tk rfl (unhide HO) _ sd rfl (unhide HS3) (by rw [unhide HTL, unhide HSL]; omega) (unhide HLE) ?_; intro v2 w2 ho2 hg2 hat2; have hl2 : (tk ++ sd).length = 64 * (k + 1) := (by rw [List.length_append, unhide HTL, unhide HSL]; omega); rw [hl2, unhide HSU] at ho2; obtain ⟨a2, c2, rfl⟩ := own_len ho2; have HO2 := hide ho2; have HK2 := hide ((unhide HKA).grown hg2 (fun k hk => Or.inr ((unhide HO).lt k hk).1)); clear ho2 hg2 hat2 hl2))
      exact ⟨⟨k + 1, by omega, by simp, ⟨_, _, rfl⟩, unhide HO2, unhide HK2⟩, by simp [intOf]; omega⟩
    · obtain rfl : k = n := by omega
      have hfull : d.safe.take (64 * k) = d.safe := by rw [← unhide HLEN, List.take_length]
      rw [hfull] at ho
      obtain ⟨r, c, hv, h1, h2, h3, h4⟩ := row_of_own ho (by omega)
      injection hv with e1 e2 e3
      subst e1
      subst e3
      have HO := hide ho
      have HK := hide hkp
      clear ho hkp h1 h2 h3 h4 hfull e2
      go_wp2
      go_ret
      exact ⟨_, _, rfl, unhide HO, unhide HK⟩
end Go.Proofs.Ytfaoblnghkiibaa
