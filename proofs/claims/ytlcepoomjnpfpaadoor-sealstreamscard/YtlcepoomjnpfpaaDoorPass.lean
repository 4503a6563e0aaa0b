/- pass, Join, Turn, Tail. -/
import Derived.Test.YtlcepoomjnpfpaaDoorMany
import Derived.Test.YtlcepoomjnpfpaaDoorEql
import Derived.Deep.DeepCutAuto
namespace Go.Proofs.YtlcepoomjnpfpaaDoor
open Go.RowKit

/-- a world by a letter: what is known of it is named -/
theorem world_at {R C : World → Prop} {x : World} (h : R x) (H : ∀ wr, R wr → C wr) : C x := H x h

theorem guard42 : Tryd.prog.eqGuardType Tryd.prog.depth 60 = false := by kernel_rfl
theorem cellsOf22 : Tryd.prog.cellsOf 36 = 1 := by kernel_rfl
theorem info22 : (Tryd.prog.info? 36).isSome = true := by kernel_rfl

theorem eql42 (m n : Nat) (w : World) : ∃ r : Bool, (Op.equal 60 (.agg (sqc m)) (.agg (sqc n))).run Tryd.prog w = .ok r w ∧ (r = true ↔ ∀ i, i < 32 → stps m (2 ^ i) = stps n (2 ^ i)) := by
  obtain ⟨i, hi⟩ := Option.isSome_iff_exists.1 info22
  exact run_equal_ints w Tryd.underlying60 Tryd.underlying36 hi cellsOf22 _ _ (fun i => stps m (2 ^ i)) (fun i => stps n (2 ^ i)) (fun i h => sqc_at m i h) (fun i h => sqc_at n i h)

theorem many_agg (n : Int) (hn : n ≤ 9223372036854775807) (hn0 : -9223372036854775808 ≤ n) (w : World) :
    Calls Tryd.prog 33 #[.int .i64 n] w fun e w' => e = .returned (.agg (sqc (8 * n.toNat))) ∧ Kept [] w w' := many_any n hn hn0 w
theorem still_agg (w : World) :
    Calls Tryd.prog 34 #[] w fun e w' => e = .returned (.agg (sqc 0)) ∧ Kept [] w w' := still_any w
theorem of_agg (m r : Nat) (hr : r < 4294967296) (w : World) :
    Calls Tryd.prog 35 #[.agg (sqc m), .int .u32 r] w fun e w' => e = .returned (.int .u32 (stps m r : Nat)) ∧ Kept [] w w' := of_any m r hr w

set_option maxRecDepth 100000 in
set_option maxHeartbeats 1000000 in
theorem pass_any (r : Nat) (hr : r < 4294967296) (n : Int) (hn : n ≤ 9223372036854775807) (hn0 : -9223372036854775808 ≤ n) (w : World) :
    Calls Tryd.prog 28 #[.int .u32 r, .int .i64 n] w fun e w' => e = .returned (.int .u32 (stps (8 * n.toNat) r : Nat)) ∧ Kept [] w w' := by
  have HI := hide sqc_info
  have HO := hide sqc_one
  have HZ := hide sqc_size
  go_enter Tryd.func28, Tryd.ntmps28
  go_wp2_with (first | (go_at_call 33; refine (many_agg n hn hn0 _).mono ?_; rintro e w1 ⟨rfl, hk1⟩) | (guard_target =~ wpList _ _ _ _ _ _; refine wpList_store_arr _ _ 60 rfl rfl w1.heap.size _ (sqc (8 * n.toNat)) rfl rfl (Blk.new _ _ _) (unhide HI _) (by rw [unhide HZ]; rfl) (unhide HO _) rfl ?_))
  refine world_at (R := fun wr => Blk wr w1.heap.size (sqc (8 * n.toNat)) 60 ∧ Kept [] w wr) ⟨(Blk.new _ _ _).row, (hk1.alloc _).row (Or.inr hk1.size) _⟩ ?_
  rintro wr ⟨hb, hk⟩
  have HB := hide hb
  have HK := hide hk
  clear hk1 hb hk
  have HSA := hide (rangeAt_blk (l := sql (8 * n.toNat)) (unhide HB))
  have hlt := (unhide HB).lt
  have HT : Hid (∀ wx, Kept [] wr wx → ∃ r : Bool, (Op.equal 60 (.agg (sqc (8 * n.toNat))) (.agg (sqc 0))).run Tryd.prog wx = .ok r wx ∧ (r = true → ∀ x, x < 4294967296 → stps (8 * n.toNat) x = x)) := by
    intro wx _
    obtain ⟨r, h1, h2⟩ := eql42 (8 * n.toNat) 0 wx
    exact ⟨r, h1, fun hr x hx => stps_still _ (fun i hi => h2.1 hr i hi) hx⟩
  have hin : (Tryd.prog.info? 60).map (·.size) = some (sql (8 * n.toNat)).length := by rw [sql_length]; exact info42
  have HIN := hide hin
  clear hin
  go_cut [10] (fun t wc => ∃ r : Bool, t = .bool r ∧ Hid (Kept [] wr wc ∧ (r = true → ∀ x, x < 4294967296 → stps (8 * n.toNat) x = x)))
  case first =>
    refine wp_region_any (by kernel_rfl) ?_
    change wpAny _ _ _ _ _ _ _ (World.drew _)
    refine wpAny_ready (rs := [0, 1]) (by kernel_rfl) (by simp) ?_
    refine AllReady.cons rfl (fun K hK => ?_) (AllReady.cons rfl (fun K hK => ?_) AllReady.nil)
    · rw [if_pos (by rfl)]
      refine wp_load_mid 60 _ rfl w1.heap.size 0 rfl (sql (8 * n.toNat)) _ (unhide HSA) Tryd.underlying60 rfl (unhide HIN) ?_
      refine hK _ _ ?_
      clear hK K
      refine wpAny_ready (rs := [1]) (by kernel_rfl) (by simp) ?_
      refine AllReady.cons rfl (fun K hK => ?_) AllReady.nil
      go_simp
      go_wp2_with (first | (go_at_call 34; refine (still_agg _).mono ?_; rintro e w2 ⟨rfl, hk2⟩; have HK2 : Hid (Kept [] wr w2) := (((Kept.refl [] wr).drew).trans hk2 (by simp)); clear hk2))
      obtain ⟨b, hb1, hb2⟩ := unhide HT w2 (unhide HK2)
      have HB1 := hide hb1
      have HB2 := hide hb2
      clear hb1 hb2
      refine wpAny_ready (rs := [2]) (by kernel_rfl) (by simp) ?_
      refine AllReady.cons rfl (fun K hK => ?_) AllReady.nil
      rw [if_pos (by rfl)]
      refine wp_eql_arr 60 _ _ _ rfl (sqc (8 * n.toNat)) (sqc 0) rfl rfl guard42 b (unhide HB1) ?_
      refine hK _ _ ?_
      clear hK K
      refine wpAny_done (by kernel_rfl) ?_ _
      go_wp2_with fail
      go_meet
      case rel => exact ⟨b, rfl, hide ⟨unhide HK2, unhide HB2⟩⟩
    · go_simp
      go_wp2_with (first | (go_at_call 34; refine (still_agg _).mono ?_; rintro e w2 ⟨rfl, hk2⟩; have HK2 : Hid (Kept [] wr w2) := (((Kept.refl [] wr).drew).trans hk2 (by simp)); clear hk2))
      refine wpAny_ready (rs := [0]) (by kernel_rfl) (by simp) ?_
      refine AllReady.cons rfl (fun K hK => ?_) AllReady.nil
      rw [if_pos (by rfl)]
      refine wp_load_mid 60 _ rfl w1.heap.size 0 rfl (sql (8 * n.toNat)) _ (rangeAt_kept (unhide HSA) (unhide HK2) hlt (by simp)) Tryd.underlying60 rfl (unhide HIN) ?_
      refine hK _ _ ?_
      clear hK K
      obtain ⟨b, hb1, hb2⟩ := unhide HT w2 (unhide HK2)
      have HB1 := hide hb1
      have HB2 := hide hb2
      clear hb1 hb2
      refine wpAny_ready (rs := [2]) (by kernel_rfl) (by simp) ?_
      refine AllReady.cons rfl (fun K hK => ?_) AllReady.nil
      rw [if_pos (by rfl)]
      refine wp_eql_arr 60 _ _ _ rfl (sqc (8 * n.toNat)) (sqc 0) rfl rfl guard42 b (unhide HB1) ?_
      refine hK _ _ ?_
      clear hK K
      refine wpAny_done (by kernel_rfl) ?_ _
      go_wp2_with fail
      go_meet
      case rel => exact ⟨b, rfl, hide ⟨unhide HK2, unhide HB2⟩⟩
  case rest =>
    obtain ⟨b, rfl, HX⟩ := hcut
    have HBC : Hid (Blk wc w1.heap.size (sqc (8 * n.toNat)) 60) := (unhide HB).kept (unhide HX).1 (by simp)
    have HOF := hide (of_agg (8 * n.toNat) r hr)
    cases b
    · go_wp2_with (first | (guard_target =~ wpList _ _ _ _ _ _; refine wpList_load_arr _ 60 rfl rfl w1.heap.size 32 36 (sqc (8 * n.toNat)) rfl (unhide HBC) Tryd.underlying60 (unhide HI _) ?_) | (go_at_call 35; refine (unhide HOF _).mono ?_; rintro e w3 ⟨rfl, hk3⟩))
      go_ret
      exact ⟨rfl, ((unhide HK).trans (unhide HX).1 (by simp)).trans hk3 (by simp)⟩
    · go_wp2
      go_ret
      have hst := (unhide HX).2 (by simp) r hr
      exact ⟨by rw [hst]; rfl, (unhide HK).trans (unhide HX).1 (by simp)⟩
end Go.Proofs.YtlcepoomjnpfpaaDoor
