/- MailUnused. -/
import Derived.Test.YtfhfkpgfnlmfhabDoorMUnAZ
import Derived.Test.YtfhfkpgfnlmfhabDoorMUnBZ
import Derived.Test.YtfhfkpgfnlmfhabDoorMUnCZ
import Derived.Test.YtfhfkpgfnlmfhabDoorMUnDZ
import Derived.Test.YtfhfkpgfnlmfhabDoorMUnEZ
namespace Go.Proofs.YtfhfkpgfnlmfhabDoor
open Go.RowKit

set_option maxRecDepth 100000 in
set_option maxHeartbeats 1600000 in
theorem unused_none (w : World) (p : Ml) (l : Lm) (f : Int) (ht : Tab w) (hm : MW w p l) (hs : snd p = false) : Calls Tryd.prog 3 #[mv p l, .int .i64 f] w fun e w' => e = .returned (.bool true) ∧ Kept [] w w' := by
  have HT := hide (fun W (k : Kept [] w W) => ht.kept k (by simp))
  have HM := hide (fun W (k : Kept [] w W) => hm.kept k)
  have HS := hide hs
  clear ht hm hs
  unfold mv
  go_enter Tryd.func3, Tryd.ntmps3
  go_upto_region 1 with fail
  refine world_at (R := fun X => Blk X w.heap.size (mcc p l) 30 ∧ Kept [] w X) ⟨Blk.new _ _ _, (Kept.refl [] w).alloc _⟩ ?_
  rintro X ⟨hb, hk⟩
  have HB := hide hb
  have HK := hide hk
  clear hb hk
  go_wp2_with (first
    | (go_at_call 5; refine (awake_any _ (unhide HT _ (unhide HK))).mono ?_; rintro e w1 ⟨rfl, k1⟩; have HB1 := hide ((unhide HB).kept k1 (by simp)); have HK1 := hide ((unhide HK).step k1); clear k1 HB HK)
    | (refine wpList_load_guard 30 _ rfl _ rfl 30 _ (0, 0) _ (unhide HB1) Tryd.underlying30 rfl infoMail rfl ?_)
    | (go_at_call 6; refine (enc_bad (unhide HT _ (unhide HK1)) (unhide HM _ (unhide HK1)) (unhide HS)).mono ?_; rintro e w2 ⟨rfl, k2⟩; have HK2 := hide ((unhide HK1).step k2); clear k2))
  all_goals
    go_ret
    exact ⟨rfl, unhide HK2⟩
theorem unused_walk (w : World) (p : Ml) (l : Lm) (f : Int) (ht : Tab w) (hm : MW w p l) : Calls Tryd.prog 3 #[mv p l, .int .i64 f] w fun e w' => e = .returned (.bool true) ∧ Kept [] w w' := by
  cases hs : snd p with
  | false => exact unused_none w p l f ht hm hs
  | true =>
    by_cases e0 : f = 0
    · subst e0; exact un0 w p l ht hm hs
    by_cases e1 : f = 1
    · subst e1; exact un1 w p l ht hm hs
    by_cases e2 : f = 2
    · subst e2; exact un2 w p l ht hm hs
    by_cases e3 : f = 3
    · subst e3; exact un3 w p l ht hm hs
    by_cases e4 : f = 4
    · subst e4; exact un4 w p l ht hm hs
    by_cases e5 : f = 5
    · subst e5; exact un5 w p l ht hm hs
    by_cases e6 : f = 6
    · subst e6; exact un6 w p l ht hm hs
    by_cases e7 : f = 7
    · subst e7; exact un7 w p l ht hm hs
    by_cases e8 : f = 8
    · subst e8; exact un8 w p l ht hm hs
    by_cases e9 : f = 9
    · subst e9; exact un9 w p l ht hm hs
    by_cases e10 : f = 10
    · subst e10; exact un10 w p l ht hm hs
    by_cases e11 : f = 11
    · subst e11; exact un11 w p l ht hm hs
    by_cases e12 : f = 12
    · subst e12; exact un12 w p l ht hm hs
    by_cases e13 : f = 13
    · subst e13; exact un13 w p l ht hm hs
    refine uno w p l f ht hm hs ?_
    intro k hk
    match k, hk with
    | 0, _ => exact e0
    | 1, _ => exact e1
    | 2, _ => exact e2
    | 3, _ => exact e3
    | 4, _ => exact e4
    | 5, _ => exact e5
    | 6, _ => exact e6
    | 7, _ => exact e7
    | 8, _ => exact e8
    | 9, _ => exact e9
    | 10, _ => exact e10
    | 11, _ => exact e11
    | 12, _ => exact e12
    | 13, _ => exact e13
    | k + 14, hk => omega
end Go.Proofs.YtfhfkpgfnlmfhabDoor
