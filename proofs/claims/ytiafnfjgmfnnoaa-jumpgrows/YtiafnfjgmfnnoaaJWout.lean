/- without, place. -/
import Derived.Test.YtiafnfjgmfnnoaaJGrow
namespace Go.Proofs.Ytiafnfjgmfnnoaa
open Go.RowKit Go.Sort Go.Shelf

theorem wout_length (l : List Int) (n : Int) : (wout l n).length ≤ l.length := List.length_filter_le _ _

set_option maxRecDepth 100000 in
set_option maxHeartbeats 1000000 in
theorem without_any {w : World} {v : Value} {l : List Int} (hs : SeesI w v l) (hl : l.length ≤ 65536) (n : Int) :
    Calls Try.prog 29 #[v, .int .i64 n] w fun e w' => ∃ a cap, e = .returned (.slice a (wout l n).length cap) ∧ SeesI w' (.slice a (wout l n).length cap) (wout l n) ∧ Kept [] w w' := by
  obtain ⟨i0, hi, hz0, hz1, hz2⟩ := info_parts info3p
  have HI := hide (⟨hi, hz0, hz1, hz2⟩ : _ ∧ _ ∧ _ ∧ _)
  clear hi hz0 hz1 hz2
  have HS := hide hs
  obtain ⟨p, pc, hp, -⟩ := hs
  subst hp
  generalize hA : l.length = L at *
  have HA := hide hA
  clear hA
  go_enter Try.func29, Try.ntmps29
  go_wp2_with fail
  go_loopw [5, 6] (fun r i wr => ∃ k : Nat, k ≤ L ∧ i = .int .i64 k ∧ wr.ownsRow w.heap.size 3 1 r (wout (l.take k) n).length (ints (wout (l.take k) n)) ∧ Kept [] w wr) (fun _ i _ => L - (intOf i).toNat)
  case atStart => exact ⟨0, by omega, rfl, World.ownsRow_nil _ _ _ _, Kept.refl _ _⟩
  case round =>
    obtain ⟨k, hk, rfl, ho, hkp⟩ := hrel
    obtain ⟨ra, rc, rfl⟩ := own_len ho
    have HO := hide ho
    have HK := hide hkp
    clear ho hkp
    by_cases hkl : k < L
    · have hs1 := (unhide HS).kept (unhide HK) (Or.inr (by simp))
      obtain ⟨a', c', hv, -, -, h4⟩ := hs1
      have hv1 : a' = p := by cases hv; rfl
      subst hv1
      obtain ⟨b, off, hpa, hc⟩ := at_int (k := k) (unhide HA) h4 hkl
      subst hpa
      clear hv h4
      have hrl : (wout (l.take k) n).length ≤ 65536 := by
        have h1 := wout_length (l.take k) n
        have h2 : (l.take k).length ≤ k := by simp; omega
        omega
      have HE := hide (wout_take (n := n) (show k < l.length by rw [unhide HA]; exact hkl))
      have t1 : (k : Int) < (L : Int) := by omega
      generalize l.getD k 0 = x at *
      by_cases hx : x = n
      · subst hx
        rw [if_neg (by simp), List.append_nil] at HE
        rw [← unhide HE] at HO
        generalize hm : (wout (l.take (k + 1)) x).length = m at *
        have HM := hide hm
        clear hm
        go_wp2
        refine ⟨⟨k + 1, by omega, by simp, ?_, unhide HK⟩, by simp [intOf]; omega⟩
        rw [← unhide HE, unhide HM]; exact unhide HO
      · rw [if_pos hx] at HE
        generalize hw1 : wout (l.take (k + 1)) n = W1 at *
        have HW1 := hide hw1
        clear hw1
        generalize wout (l.take k) n = W0 at *
        generalize hm : W0.length = m at *
        have HM := hide hm
        clear hm
        have hxn : (x == n) = false := by simpa using hx
        go_wp2_with (first
          | (at_builtin; refine wpList_append_own_at _ rfl _ _ 25 rfl w.heap.size 3 i0 (.int .i64 0) 1 8 Try.underlying25 (unhide HI).1 (unhide HI).2.1 (unhide HI).2.2.1 (unhide HI).2.2.2 rfl (by decide) _ _ _ rfl ((unhide HO).alloc _) ⟨wr.heap.size, 0, none⟩ 1 1 [.int .i64 x] rfl rfl (cell_one_new _ _ _) (ints_oneCell .i64 [x]) (by unfold maxLen; omega) (by omega) (by have := (unhide HK).size; simp; omega) ?_))
        intro v' w2 hown' hgrow hnil hloc
        obtain ⟨va, vc, rfl⟩ := own_len hown'
        have HO2 : Hid (w2.ownsRow w.heap.size 3 1 (.slice va (m + 1) vc) W1.length (ints W1)) := by
          unfold Hid
          rw [unhide HE, ints_append, List.length_append, unhide HM]
          exact hown'
        have HK2 : Hid (Kept [] w w2) := ((unhide HK).alloc _).grown hgrow (fun k hk => Or.inr ((unhide HO).lt k hk).1)
        clear hown' hgrow hnil hloc
        go_wp2
        refine ⟨⟨k + 1, by omega, by simp, ?_, unhide HK2⟩, by simp [intOf]; omega⟩
        rw [unhide HW1]; exact unhide HO2
    · obtain rfl : k = L := by omega
      have hfull : l.take k = l := by rw [← unhide HA, List.take_length]
      rw [hfull] at HO ⊢
      have HSE := hide (SeesI.of_own (unhide HO))
      have t1 : ((k : Int) < (k : Int)) = False := by simp
      go_wp2
      go_ret
      exact ⟨ra, rc, rfl, unhide HSE, unhide HK⟩

set_option maxRecDepth 100000 in
set_option maxHeartbeats 400000 in
theorem place_any {w : World} {v : Value} {l : List Int} (hs : SeesI w v l) (n : Int) :
    Calls Try.prog 30 #[v, .int .i64 n] w fun e w' => e = .returned (.int .i64 (plc l n)) ∧ w' = w := by
  obtain ⟨p, pc, rfl, h1, h2, h4⟩ := hs
  have hml : l.length ≤ 9223372036854775807 := by unfold maxLen at h2; omega
  have H4 := hide h4
  clear h4
  have HPA := hide (fun k (a : k < l.length) b c => plc_at (n := n) a b c)
  have HPN := hide (plc_none (l := l) (n := n))
  generalize plc l n = P at *
  generalize hA : l.length = L at h1 hml HPA HPN
  have HA := hide hA
  clear hA
  go_enter Try.func30, Try.ntmps30
  go_wp2_with fail
  go_loop [5] (fun i => ∃ k : Nat, k ≤ L ∧ i = .int .i64 k ∧ ∀ j, j < k → l.getD j 0 ≠ n) (fun i => L - (intOf i).toNat)
  case atStart => exact ⟨0, by omega, rfl, fun j hj => by omega⟩
  case round =>
    obtain ⟨k, hk, rfl, hno⟩ := hrel
    have HNO := hide hno
    clear hno
    by_cases hkl : k < L
    · obtain ⟨b, off, rfl, hc⟩ := at_int (unhide HA) (unhide H4) hkl
      have t1 : (k : Int) < (L : Int) := by omega
      by_cases hx : l.getD k 0 = n
      · have hr := unhide HPA k hkl hx (unhide HNO)
        rw [hx] at hc
        subst hr
        clear hx
        go_wp2
        go_ret
        exact ⟨rfl, rfl⟩
      · have HN2 : Hid (∀ j, j < k + 1 → l.getD j 0 ≠ n) := fun j hj => by
          by_cases e : j = k
          · rw [e]; exact hx
          · exact unhide HNO j (by omega)
        generalize l.getD k 0 = x at hc hx
        have hxn : (x == n) = false := by simpa using hx
        clear hx
        go_wp2
        exact ⟨⟨k + 1, by omega, by simp, unhide HN2⟩, by simp [intOf]; omega⟩
    · obtain rfl : k = L := by omega
      have hr := unhide HPN (unhide HNO)
      subst hr
      have t1 : ((k : Int) < (k : Int)) = False := by simp
      go_wp2
      go_ret
      exact ⟨rfl, rfl⟩
end Go.Proofs.Ytiafnfjgmfnnoaa
