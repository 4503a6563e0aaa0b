/- RecordUnused, field by field. -/
import Derived.Test.YtocmgfmfalaebabLUnHZ
namespace Go.Proofs.Ytocmgfmfalaebab
open Go.RowKit
set_option linter.unusedVariables false

set_option maxRecDepth 100000 in
set_option maxHeartbeats 1600000 in
theorem un0 (w : World) (p : Pl) (l : Lo) (h : RecW w p l) (hs : snd p = true) (b1 b4 : Bool) (h1 : (p.kind == 1) = false) (h4 : (p.kind == 4) = b4) (hs2 : snd (setF p 0) = false) : Calls Try.prog 3 #[rv p l, .int .i64 0] w fun e w' => e = .returned (.bool true) ∧ Kept [] w w' := by
  have HW := hide h
  have HA := hide (fun W => awake_any W)
  have HE1 := hide (fun W (hf : RecFar W p l []) => encode_any W p l hf)
  clear h
  have HSP := hide hs
  clear hs
  have HS2 := hide hs2
  clear hs2
  rw [rv_lit] at *
  have HB0 := hide (Blk.new w #[.int .i64 p.kind, .int .i64 p.shard, .int .i64 p.epoch, .int .i64 p.peer, .int .i64 p.client, .int .i64 p.seq, .int .i64 p.okind, .slice l.ka p.key.length l.kc, .slice l.va p.val.length l.vc, .int .i64 p.rev, .slice l.ca p.copy.length l.cc] 26)
  have HK0 := hide ((Kept.refl [] w).alloc (.cells #[.int .i64 p.kind, .int .i64 p.shard, .int .i64 p.epoch, .int .i64 p.peer, .int .i64 p.client, .int .i64 p.seq, .int .i64 p.okind, .slice l.ka p.key.length l.kc, .slice l.va p.val.length l.vc, .int .i64 p.rev, .slice l.ca p.copy.length l.cc] 26))
  have HG1 : Hid True := trivial
  go_enter Try.func3, Try.ntmps3
  go_upto_region 6 with (first
    | (go_at_call 5; refine (unhide HA _).mono ?_; rintro e w1 ⟨rfl, k1⟩; have hb := (unhide HB0).kept k1 (by simp); obtain ⟨d0, d1, d2, d3, d4, d5, d6, d7, d8, d9, d10⟩ := box11 hb; have HB1 := hide hb; have HK1 := hide ((unhide HK0).step k1); clear hb k1)
    | (go_at_call 6; clear HG1; refine (unhide HE1 _ ((unhide HW).kept (unhide HK1)).far).mono ?_; rintro e w2 ⟨k2, hz⟩; rcases hz with ⟨-, a2, c2, rfl, -⟩ | ⟨hz, -⟩; rotate_left; (exact absurd hz (by rw [unhide HSP]; simp)); have hb := (unhide HB1).kept k2 (by simp); obtain ⟨d0, d1, d2, d3, d4, d5, d6, d7, d8, d9, d10⟩ := box11 hb; have f4 := hb.frozen 4; have HB2 := hide hb; have HK2 := hide ((unhide HK1).step k2); clear hb k2))
  go_cut [7, 8] (fun x y wc => x = .bool false ∧ y = .bool b4 ∧ Kept [] w2 wc)
  case first =>
    go_quiet (fail)
    go_wp2_with fail
    go_meet
    exact ⟨rfl, rfl, (Kept.refl [] w2).drewN _⟩
  case rest =>
    obtain ⟨rfl, rfl, k3⟩ := hcut
    have hb := (unhide HB2).kept k3 (by simp)
    obtain ⟨d0, d1, d2, d3, d4, d5, d6, d7, d8, d9, d10⟩ := box11 hb
    have f4 := hb.frozen 4
    have hlt := hb.lt
    have hne : w.heap.size ≠ wc.heap.size := by omega
    have HB3 := hide hb
    have HK3 := hide ((unhide HK2).step k3)
    clear hb k3
    go_wp2_with (go_at_call 6; refine (encode_any _ (setF p 0) l (recW_num ((unhide HW).kept ((unhide HK3).setCell (Or.inr (Nat.le_refl _)) _)) 0 (by decide)).far).mono ?_; rintro e w5 ⟨k5, hz⟩; rcases hz with ⟨hz, -⟩ | ⟨-, rfl⟩; (exact absurd hz (by rw [unhide HS2]; simp)); have HK5 : Hid (Kept [] w w5) := Kept.step ((unhide HK3).setCell (Or.inr (Nat.le_refl _)) _) k5; clear k5)
    all_goals
      go_ret
      exact ⟨rfl, unhide HK5⟩
set_option maxRecDepth 100000 in
set_option maxHeartbeats 1600000 in
theorem us1t (w : World) (p : Pl) (l : Lo) (h : RecW w p l) (hs : snd p = true) (b1 b4 : Bool) (h1 : (p.kind == 1) = true) (h4 : (p.kind == 4) = b4) (hs2 : snd (setF p 1) = true) : Calls Try.prog 3 #[rv p l, .int .i64 1] w fun e w' => e = .returned (.bool true) ∧ Kept [] w w' := by
  have HW := hide h
  have HA := hide (fun W => awake_any W)
  have HE1 := hide (fun W (hf : RecFar W p l []) => encode_any W p l hf)
  clear h
  have HSP := hide hs
  clear hs
  have HS2 := hide hs2
  clear hs2
  rw [rv_lit] at *
  have HB0 := hide (Blk.new w #[.int .i64 p.kind, .int .i64 p.shard, .int .i64 p.epoch, .int .i64 p.peer, .int .i64 p.client, .int .i64 p.seq, .int .i64 p.okind, .slice l.ka p.key.length l.kc, .slice l.va p.val.length l.vc, .int .i64 p.rev, .slice l.ca p.copy.length l.cc] 26)
  have HK0 := hide ((Kept.refl [] w).alloc (.cells #[.int .i64 p.kind, .int .i64 p.shard, .int .i64 p.epoch, .int .i64 p.peer, .int .i64 p.client, .int .i64 p.seq, .int .i64 p.okind, .slice l.ka p.key.length l.kc, .slice l.va p.val.length l.vc, .int .i64 p.rev, .slice l.ca p.copy.length l.cc] 26))
  have HG1 : Hid True := trivial
  go_enter Try.func3, Try.ntmps3
  go_upto_region 6 with (first
    | (go_at_call 5; refine (unhide HA _).mono ?_; rintro e w1 ⟨rfl, k1⟩; have hb := (unhide HB0).kept k1 (by simp); obtain ⟨d0, d1, d2, d3, d4, d5, d6, d7, d8, d9, d10⟩ := box11 hb; have HB1 := hide hb; have HK1 := hide ((unhide HK0).step k1); clear hb k1)
    | (go_at_call 6; clear HG1; refine (unhide HE1 _ ((unhide HW).kept (unhide HK1)).far).mono ?_; rintro e w2 ⟨k2, hz⟩; rcases hz with ⟨-, a2, c2, rfl, -⟩ | ⟨hz, -⟩; rotate_left; (exact absurd hz (by rw [unhide HSP]; simp)); have hb := (unhide HB1).kept k2 (by simp); obtain ⟨d0, d1, d2, d3, d4, d5, d6, d7, d8, d9, d10⟩ := box11 hb; have f4 := hb.frozen 5; have HB2 := hide hb; have HK2 := hide ((unhide HK1).step k2); clear hb k2))
  go_cut [7, 8] (fun x y wc => x = .bool true ∧ y = .bool b4 ∧ Kept [] w2 wc)
  case first =>
    go_quiet (fail)
    go_wp2_with fail
    go_meet
    exact ⟨rfl, rfl, (Kept.refl [] w2).drewN _⟩
  case rest =>
    obtain ⟨rfl, rfl, k3⟩ := hcut
    have hb := (unhide HB2).kept k3 (by simp)
    obtain ⟨d0, d1, d2, d3, d4, d5, d6, d7, d8, d9, d10⟩ := box11 hb
    have f4 := hb.frozen 5
    have hlt := hb.lt
    have hne : w.heap.size ≠ wc.heap.size := by omega
    have HB3 := hide hb
    have HK3 := hide ((unhide HK2).step k3)
    clear hb k3
    go_wp2_with (go_at_call 6; refine (encode_any _ (setF p 1) l (recW_num ((unhide HW).kept ((unhide HK3).setCell (Or.inr (Nat.le_refl _)) _)) 1 (by decide)).far).mono ?_; rintro e w5 ⟨k5, hz⟩; rcases hz with ⟨-, a5, c5, rfl, -⟩ | ⟨hz, -⟩; rotate_left; (exact absurd hz (by rw [unhide HS2]; simp)); have HK5 : Hid (Kept [] w w5) := Kept.step ((unhide HK3).setCell (Or.inr (Nat.le_refl _)) _) k5; clear k5)
    all_goals
      go_ret
      exact ⟨rfl, unhide HK5⟩
set_option maxRecDepth 100000 in
set_option maxHeartbeats 1600000 in
theorem us5f (w : World) (p : Pl) (l : Lo) (h : RecW w p l) (hs : snd p = true) (b1 b4 : Bool) (h1 : (p.kind == 1) = true) (h4 : (p.kind == 4) = b4) (hs2 : snd (setF p 5) = false) : Calls Try.prog 3 #[rv p l, .int .i64 5] w fun e w' => e = .returned (.bool true) ∧ Kept [] w w' := by
  have HW := hide h
  have HA := hide (fun W => awake_any W)
  have HE1 := hide (fun W (hf : RecFar W p l []) => encode_any W p l hf)
  clear h
  have HSP := hide hs
  clear hs
  have HS2 := hide hs2
  clear hs2
  rw [rv_lit] at *
  have HB0 := hide (Blk.new w #[.int .i64 p.kind, .int .i64 p.shard, .int .i64 p.epoch, .int .i64 p.peer, .int .i64 p.client, .int .i64 p.seq, .int .i64 p.okind, .slice l.ka p.key.length l.kc, .slice l.va p.val.length l.vc, .int .i64 p.rev, .slice l.ca p.copy.length l.cc] 26)
  have HK0 := hide ((Kept.refl [] w).alloc (.cells #[.int .i64 p.kind, .int .i64 p.shard, .int .i64 p.epoch, .int .i64 p.peer, .int .i64 p.client, .int .i64 p.seq, .int .i64 p.okind, .slice l.ka p.key.length l.kc, .slice l.va p.val.length l.vc, .int .i64 p.rev, .slice l.ca p.copy.length l.cc] 26))
  have HG1 : Hid True := trivial
  go_enter Try.func3, Try.ntmps3
  go_upto_region 6 with (first
    | (go_at_call 5; refine (unhide HA _).mono ?_; rintro e w1 ⟨rfl, k1⟩; have hb := (unhide HB0).kept k1 (by simp); obtain ⟨d0, d1, d2, d3, d4, d5, d6, d7, d8, d9, d10⟩ := box11 hb; have HB1 := hide hb; have HK1 := hide ((unhide HK0).step k1); clear hb k1)
    | (go_at_call 6; clear HG1; refine (unhide HE1 _ ((unhide HW).kept (unhide HK1)).far).mono ?_; rintro e w2 ⟨k2, hz⟩; rcases hz with ⟨-, a2, c2, rfl, -⟩ | ⟨hz, -⟩; rotate_left; (exact absurd hz (by rw [unhide HSP]; simp)); have hb := (unhide HB1).kept k2 (by simp); obtain ⟨d0, d1, d2, d3, d4, d5, d6, d7, d8, d9, d10⟩ := box11 hb; have f4 := hb.frozen 6; have HB2 := hide hb; have HK2 := hide ((unhide HK1).step k2); clear hb k2))
  go_cut [7, 8] (fun x y wc => x = .bool true ∧ y = .bool b4 ∧ Kept [] w2 wc)
  case first =>
    go_quiet (fail)
    go_wp2_with fail
    go_meet
    exact ⟨rfl, rfl, (Kept.refl [] w2).drewN _⟩
  case rest =>
    obtain ⟨rfl, rfl, k3⟩ := hcut
    have hb := (unhide HB2).kept k3 (by simp)
    obtain ⟨d0, d1, d2, d3, d4, d5, d6, d7, d8, d9, d10⟩ := box11 hb
    have f4 := hb.frozen 6
    have hlt := hb.lt
    have hne : w.heap.size ≠ wc.heap.size := by omega
    have HB3 := hide hb
    have HK3 := hide ((unhide HK2).step k3)
    clear hb k3
    go_wp2_with (go_at_call 6; refine (encode_any _ (setF p 5) l (recW_num ((unhide HW).kept ((unhide HK3).setCell (Or.inr (Nat.le_refl _)) _)) 5 (by decide)).far).mono ?_; rintro e w5 ⟨k5, hz⟩; rcases hz with ⟨hz, -⟩ | ⟨-, rfl⟩; (exact absurd hz (by rw [unhide HS2]; simp)); have HK5 : Hid (Kept [] w w5) := Kept.step ((unhide HK3).setCell (Or.inr (Nat.le_refl _)) _) k5; clear k5)
    all_goals
      go_ret
      exact ⟨rfl, unhide HK5⟩
set_option maxRecDepth 100000 in
set_option maxHeartbeats 1600000 in
theorem un3 (w : World) (p : Pl) (l : Lo) (h : RecW w p l) (hs : snd p = true) (b1 b4 : Bool) (h1 : (p.kind == 1) = b1) (h4 : (p.kind == 4) = false) (hs2 : snd (setF p 3) = false) : Calls Try.prog 3 #[rv p l, .int .i64 3] w fun e w' => e = .returned (.bool true) ∧ Kept [] w w' := by
  have HW := hide h
  have HA := hide (fun W => awake_any W)
  have HE1 := hide (fun W (hf : RecFar W p l []) => encode_any W p l hf)
  clear h
  have HSP := hide hs
  clear hs
  have HS2 := hide hs2
  clear hs2
  rw [rv_lit] at *
  have HB0 := hide (Blk.new w #[.int .i64 p.kind, .int .i64 p.shard, .int .i64 p.epoch, .int .i64 p.peer, .int .i64 p.client, .int .i64 p.seq, .int .i64 p.okind, .slice l.ka p.key.length l.kc, .slice l.va p.val.length l.vc, .int .i64 p.rev, .slice l.ca p.copy.length l.cc] 26)
  have HK0 := hide ((Kept.refl [] w).alloc (.cells #[.int .i64 p.kind, .int .i64 p.shard, .int .i64 p.epoch, .int .i64 p.peer, .int .i64 p.client, .int .i64 p.seq, .int .i64 p.okind, .slice l.ka p.key.length l.kc, .slice l.va p.val.length l.vc, .int .i64 p.rev, .slice l.ca p.copy.length l.cc] 26))
  have HG1 : Hid True := trivial
  go_enter Try.func3, Try.ntmps3
  go_upto_region 6 with (first
    | (go_at_call 5; refine (unhide HA _).mono ?_; rintro e w1 ⟨rfl, k1⟩; have hb := (unhide HB0).kept k1 (by simp); obtain ⟨d0, d1, d2, d3, d4, d5, d6, d7, d8, d9, d10⟩ := box11 hb; have HB1 := hide hb; have HK1 := hide ((unhide HK0).step k1); clear hb k1)
    | (go_at_call 6; clear HG1; refine (unhide HE1 _ ((unhide HW).kept (unhide HK1)).far).mono ?_; rintro e w2 ⟨k2, hz⟩; rcases hz with ⟨-, a2, c2, rfl, -⟩ | ⟨hz, -⟩; rotate_left; (exact absurd hz (by rw [unhide HSP]; simp)); have hb := (unhide HB1).kept k2 (by simp); obtain ⟨d0, d1, d2, d3, d4, d5, d6, d7, d8, d9, d10⟩ := box11 hb; have f4 := hb.frozen 2; have HB2 := hide hb; have HK2 := hide ((unhide HK1).step k2); clear hb k2))
  go_cut [7, 8] (fun x y wc => x = .bool b1 ∧ y = .bool false ∧ Kept [] w2 wc)
  case first =>
    go_quiet (fail)
    go_wp2_with fail
    go_meet
    exact ⟨rfl, rfl, (Kept.refl [] w2).drewN _⟩
  case rest =>
    obtain ⟨rfl, rfl, k3⟩ := hcut
    have hb := (unhide HB2).kept k3 (by simp)
    obtain ⟨d0, d1, d2, d3, d4, d5, d6, d7, d8, d9, d10⟩ := box11 hb
    have f4 := hb.frozen 2
    have hlt := hb.lt
    have hne : w.heap.size ≠ wc.heap.size := by omega
    have HB3 := hide hb
    have HK3 := hide ((unhide HK2).step k3)
    clear hb k3
    go_wp2_with (go_at_call 6; refine (encode_any _ (setF p 3) l (recW_num ((unhide HW).kept ((unhide HK3).setCell (Or.inr (Nat.le_refl _)) _)) 3 (by decide)).far).mono ?_; rintro e w5 ⟨k5, hz⟩; rcases hz with ⟨hz, -⟩ | ⟨-, rfl⟩; (exact absurd hz (by rw [unhide HS2]; simp)); have HK5 : Hid (Kept [] w w5) := Kept.step ((unhide HK3).setCell (Or.inr (Nat.le_refl _)) _) k5; clear k5)
    all_goals
      go_ret
      exact ⟨rfl, unhide HK5⟩
set_option maxRecDepth 100000 in
set_option maxHeartbeats 1600000 in
theorem us4t (w : World) (p : Pl) (l : Lo) (h : RecW w p l) (hs : snd p = true) (b1 b4 : Bool) (h1 : (p.kind == 1) = b1) (h4 : (p.kind == 4) = true) (hs2 : snd (setF p 4) = true) : Calls Try.prog 3 #[rv p l, .int .i64 4] w fun e w' => e = .returned (.bool true) ∧ Kept [] w w' := by
  have HW := hide h
  have HA := hide (fun W => awake_any W)
  have HE1 := hide (fun W (hf : RecFar W p l []) => encode_any W p l hf)
  clear h
  have HSP := hide hs
  clear hs
  have HS2 := hide hs2
  clear hs2
  rw [rv_lit] at *
  have HB0 := hide (Blk.new w #[.int .i64 p.kind, .int .i64 p.shard, .int .i64 p.epoch, .int .i64 p.peer, .int .i64 p.client, .int .i64 p.seq, .int .i64 p.okind, .slice l.ka p.key.length l.kc, .slice l.va p.val.length l.vc, .int .i64 p.rev, .slice l.ca p.copy.length l.cc] 26)
  have HK0 := hide ((Kept.refl [] w).alloc (.cells #[.int .i64 p.kind, .int .i64 p.shard, .int .i64 p.epoch, .int .i64 p.peer, .int .i64 p.client, .int .i64 p.seq, .int .i64 p.okind, .slice l.ka p.key.length l.kc, .slice l.va p.val.length l.vc, .int .i64 p.rev, .slice l.ca p.copy.length l.cc] 26))
  have HG1 : Hid True := trivial
  go_enter Try.func3, Try.ntmps3
  go_upto_region 6 with (first
    | (go_at_call 5; refine (unhide HA _).mono ?_; rintro e w1 ⟨rfl, k1⟩; have hb := (unhide HB0).kept k1 (by simp); obtain ⟨d0, d1, d2, d3, d4, d5, d6, d7, d8, d9, d10⟩ := box11 hb; have HB1 := hide hb; have HK1 := hide ((unhide HK0).step k1); clear hb k1)
    | (go_at_call 6; clear HG1; refine (unhide HE1 _ ((unhide HW).kept (unhide HK1)).far).mono ?_; rintro e w2 ⟨k2, hz⟩; rcases hz with ⟨-, a2, c2, rfl, -⟩ | ⟨hz, -⟩; rotate_left; (exact absurd hz (by rw [unhide HSP]; simp)); have hb := (unhide HB1).kept k2 (by simp); obtain ⟨d0, d1, d2, d3, d4, d5, d6, d7, d8, d9, d10⟩ := box11 hb; have f4 := hb.frozen 10; have HB2 := hide hb; have HK2 := hide ((unhide HK1).step k2); clear hb k2))
  go_cut [7, 8] (fun x y wc => x = .bool b1 ∧ y = .bool true ∧ Kept [] w2 wc)
  case first =>
    go_quiet (fail)
    go_wp2_with fail
    go_meet
    exact ⟨rfl, rfl, (Kept.refl [] w2).drewN _⟩
  case rest =>
    obtain ⟨rfl, rfl, k3⟩ := hcut
    have hb := (unhide HB2).kept k3 (by simp)
    obtain ⟨d0, d1, d2, d3, d4, d5, d6, d7, d8, d9, d10⟩ := box11 hb
    have f4 := hb.frozen 10
    have hlt := hb.lt
    have hne : w.heap.size ≠ wc.heap.size := by omega
    have HB3 := hide hb
    have HK3 := hide ((unhide HK2).step k3)
    clear hb k3
    go_wp2_with (go_at_call 6; refine (encode_any _ (setF p 4) _ (recW_copy (unhide HW) (((unhide HK3).setCell (Or.inr (Nat.le_refl _)) _).alloc _) (sees_put _ _)).far).mono ?_; rintro e w5 ⟨k5, hz⟩; rcases hz with ⟨-, a5, c5, rfl, -⟩ | ⟨hz, -⟩; rotate_left; (exact absurd hz (by rw [unhide HS2]; simp)); have HK5 : Hid (Kept [] w w5) := Kept.step (((unhide HK3).setCell (Or.inr (Nat.le_refl _)) _).alloc _) k5; clear k5)
    all_goals
      go_ret
      exact ⟨rfl, unhide HK5⟩
set_option maxRecDepth 100000 in
set_option maxHeartbeats 1600000 in
theorem us2bt (w : World) (p : Pl) (l : Lo) (h : RecW w p l) (hs : snd p = true) (b1 b4 : Bool) (h1 : (p.kind == 1) = b1) (h4 : (p.kind == 4) = false) (h2 : (p.kind == 2) = true) (hn2 : (p.kind != 2) = false) (hs2 : snd (setF p 2) = true) : Calls Try.prog 3 #[rv p l, .int .i64 2] w fun e w' => e = .returned (.bool true) ∧ Kept [] w w' := by
  have HW := hide h
  have HA := hide (fun W => awake_any W)
  have HE1 := hide (fun W (hf : RecFar W p l []) => encode_any W p l hf)
  clear h
  have HSP := hide hs
  clear hs
  have HS2 := hide hs2
  clear hs2
  rw [rv_lit] at *
  have HB0 := hide (Blk.new w #[.int .i64 p.kind, .int .i64 p.shard, .int .i64 p.epoch, .int .i64 p.peer, .int .i64 p.client, .int .i64 p.seq, .int .i64 p.okind, .slice l.ka p.key.length l.kc, .slice l.va p.val.length l.vc, .int .i64 p.rev, .slice l.ca p.copy.length l.cc] 26)
  have HK0 := hide ((Kept.refl [] w).alloc (.cells #[.int .i64 p.kind, .int .i64 p.shard, .int .i64 p.epoch, .int .i64 p.peer, .int .i64 p.client, .int .i64 p.seq, .int .i64 p.okind, .slice l.ka p.key.length l.kc, .slice l.va p.val.length l.vc, .int .i64 p.rev, .slice l.ca p.copy.length l.cc] 26))
  have HG1 : Hid True := trivial
  go_enter Try.func3, Try.ntmps3
  go_upto_region 6 with (first
    | (go_at_call 5; refine (unhide HA _).mono ?_; rintro e w1 ⟨rfl, k1⟩; have hb := (unhide HB0).kept k1 (by simp); obtain ⟨d0, d1, d2, d3, d4, d5, d6, d7, d8, d9, d10⟩ := box11 hb; have HB1 := hide hb; have HK1 := hide ((unhide HK0).step k1); clear hb k1)
    | (go_at_call 6; clear HG1; refine (unhide HE1 _ ((unhide HW).kept (unhide HK1)).far).mono ?_; rintro e w2 ⟨k2, hz⟩; rcases hz with ⟨-, a2, c2, rfl, -⟩ | ⟨hz, -⟩; rotate_left; (exact absurd hz (by rw [unhide HSP]; simp)); have hb := (unhide HB1).kept k2 (by simp); obtain ⟨d0, d1, d2, d3, d4, d5, d6, d7, d8, d9, d10⟩ := box11 hb; have f4 := hb.frozen 3; have HB2 := hide hb; have HK2 := hide ((unhide HK1).step k2); clear hb k2))
  go_cut [7, 8] (fun x y wc => x = .bool b1 ∧ y = .bool false ∧ Kept [] w2 wc)
  case first =>
    go_quiet (fail)
    go_wp2_with fail
    go_meet
    exact ⟨rfl, rfl, (Kept.refl [] w2).drewN _⟩
  case rest =>
    obtain ⟨rfl, rfl, k3⟩ := hcut
    have hb := (unhide HB2).kept k3 (by simp)
    obtain ⟨d0, d1, d2, d3, d4, d5, d6, d7, d8, d9, d10⟩ := box11 hb
    have f4 := hb.frozen 3
    have hlt := hb.lt
    have hne : w.heap.size ≠ wc.heap.size := by omega
    have HB3 := hide hb
    have HK3 := hide ((unhide HK2).step k3)
    clear hb k3
    go_wp2_with (go_at_call 6; refine (encode_any _ (setF p 2) l (recW_num ((unhide HW).kept ((unhide HK3).setCell (Or.inr (Nat.le_refl _)) _)) 2 (by decide)).far).mono ?_; rintro e w5 ⟨k5, hz⟩; rcases hz with ⟨-, a5, c5, rfl, -⟩ | ⟨hz, -⟩; rotate_left; (exact absurd hz (by rw [unhide HS2]; simp)); have HK5 : Hid (Kept [] w w5) := Kept.step ((unhide HK3).setCell (Or.inr (Nat.le_refl _)) _) k5; clear k5)
    all_goals
      go_ret
      exact ⟨rfl, unhide HK5⟩
set_option maxRecDepth 100000 in
set_option maxHeartbeats 1600000 in
theorem un7b (w : World) (p : Pl) (l : Lo) (h : RecW w p l) (hs : snd p = true) (b1 b4 : Bool) (h1 : (p.kind == 1) = true) (h4 : (p.kind == 4) = b4) (ho3 : (p.okind == 3) = true) (hs2 : snd (setF p 7) = false) : Calls Try.prog 3 #[rv p l, .int .i64 7] w fun e w' => e = .returned (.bool true) ∧ Kept [] w w' := by
  have HW := hide h
  have HA := hide (fun W => awake_any W)
  have HE1 := hide (fun W (hf : RecFar W p l []) => encode_any W p l hf)
  clear h
  have HSP := hide hs
  clear hs
  have HS2 := hide hs2
  clear hs2
  rw [rv_lit] at *
  have HB0 := hide (Blk.new w #[.int .i64 p.kind, .int .i64 p.shard, .int .i64 p.epoch, .int .i64 p.peer, .int .i64 p.client, .int .i64 p.seq, .int .i64 p.okind, .slice l.ka p.key.length l.kc, .slice l.va p.val.length l.vc, .int .i64 p.rev, .slice l.ca p.copy.length l.cc] 26)
  have HK0 := hide ((Kept.refl [] w).alloc (.cells #[.int .i64 p.kind, .int .i64 p.shard, .int .i64 p.epoch, .int .i64 p.peer, .int .i64 p.client, .int .i64 p.seq, .int .i64 p.okind, .slice l.ka p.key.length l.kc, .slice l.va p.val.length l.vc, .int .i64 p.rev, .slice l.ca p.copy.length l.cc] 26))
  have HG1 : Hid True := trivial
  go_enter Try.func3, Try.ntmps3
  go_upto_region 6 with (first
    | (go_at_call 5; refine (unhide HA _).mono ?_; rintro e w1 ⟨rfl, k1⟩; have hb := (unhide HB0).kept k1 (by simp); obtain ⟨d0, d1, d2, d3, d4, d5, d6, d7, d8, d9, d10⟩ := box11 hb; have HB1 := hide hb; have HK1 := hide ((unhide HK0).step k1); clear hb k1)
    | (go_at_call 6; clear HG1; refine (unhide HE1 _ ((unhide HW).kept (unhide HK1)).far).mono ?_; rintro e w2 ⟨k2, hz⟩; rcases hz with ⟨-, a2, c2, rfl, -⟩ | ⟨hz, -⟩; rotate_left; (exact absurd hz (by rw [unhide HSP]; simp)); have hb := (unhide HB1).kept k2 (by simp); obtain ⟨d0, d1, d2, d3, d4, d5, d6, d7, d8, d9, d10⟩ := box11 hb; have f4 := hb.frozen 8; have HB2 := hide hb; have HK2 := hide ((unhide HK1).step k2); clear hb k2))
  go_cut [7, 8] (fun x y wc => x = .bool true ∧ y = .bool b4 ∧ Kept [] w2 wc)
  case first =>
    go_quiet (fail)
    go_wp2_with fail
    go_meet
    exact ⟨rfl, rfl, (Kept.refl [] w2).drewN _⟩
  case rest =>
    obtain ⟨rfl, rfl, k3⟩ := hcut
    have hb := (unhide HB2).kept k3 (by simp)
    obtain ⟨d0, d1, d2, d3, d4, d5, d6, d7, d8, d9, d10⟩ := box11 hb
    have f4 := hb.frozen 8
    have hlt := hb.lt
    have hne : w.heap.size ≠ wc.heap.size := by omega
    have HB3 := hide hb
    have HK3 := hide ((unhide HK2).step k3)
    clear hb k3
    go_wp2_with (go_at_call 6; refine (encode_any _ (setF p 7) _ (recW_val (unhide HW) (((unhide HK3).setCell (Or.inr (Nat.le_refl _)) _).alloc _) (sees_put _ _)).far).mono ?_; rintro e w5 ⟨k5, hz⟩; rcases hz with ⟨hz, -⟩ | ⟨-, rfl⟩; (exact absurd hz (by rw [unhide HS2]; simp)); have HK5 : Hid (Kept [] w w5) := Kept.step (((unhide HK3).setCell (Or.inr (Nat.le_refl _)) _).alloc _) k5; clear k5)
    all_goals
      go_ret
      exact ⟨rfl, unhide HK5⟩
set_option maxRecDepth 100000 in
set_option maxHeartbeats 1600000 in
theorem un8b (w : World) (p : Pl) (l : Lo) (h : RecW w p l) (hs : snd p = true) (b1 b4 : Bool) (h1 : (p.kind == 1) = true) (h4 : (p.kind == 4) = b4) (ho4 : (p.okind == 4) = false) (hno4 : (p.okind != 4) = true) (hs2 : snd (setF p 8) = false) : Calls Try.prog 3 #[rv p l, .int .i64 8] w fun e w' => e = .returned (.bool true) ∧ Kept [] w w' := by
  have HW := hide h
  have HA := hide (fun W => awake_any W)
  have HE1 := hide (fun W (hf : RecFar W p l []) => encode_any W p l hf)
  clear h
  have HSP := hide hs
  clear hs
  have HS2 := hide hs2
  clear hs2
  rw [rv_lit] at *
  have HB0 := hide (Blk.new w #[.int .i64 p.kind, .int .i64 p.shard, .int .i64 p.epoch, .int .i64 p.peer, .int .i64 p.client, .int .i64 p.seq, .int .i64 p.okind, .slice l.ka p.key.length l.kc, .slice l.va p.val.length l.vc, .int .i64 p.rev, .slice l.ca p.copy.length l.cc] 26)
  have HK0 := hide ((Kept.refl [] w).alloc (.cells #[.int .i64 p.kind, .int .i64 p.shard, .int .i64 p.epoch, .int .i64 p.peer, .int .i64 p.client, .int .i64 p.seq, .int .i64 p.okind, .slice l.ka p.key.length l.kc, .slice l.va p.val.length l.vc, .int .i64 p.rev, .slice l.ca p.copy.length l.cc] 26))
  have HG1 : Hid True := trivial
  go_enter Try.func3, Try.ntmps3
  go_upto_region 6 with (first
    | (go_at_call 5; refine (unhide HA _).mono ?_; rintro e w1 ⟨rfl, k1⟩; have hb := (unhide HB0).kept k1 (by simp); obtain ⟨d0, d1, d2, d3, d4, d5, d6, d7, d8, d9, d10⟩ := box11 hb; have HB1 := hide hb; have HK1 := hide ((unhide HK0).step k1); clear hb k1)
    | (go_at_call 6; clear HG1; refine (unhide HE1 _ ((unhide HW).kept (unhide HK1)).far).mono ?_; rintro e w2 ⟨k2, hz⟩; rcases hz with ⟨-, a2, c2, rfl, -⟩ | ⟨hz, -⟩; rotate_left; (exact absurd hz (by rw [unhide HSP]; simp)); have hb := (unhide HB1).kept k2 (by simp); obtain ⟨d0, d1, d2, d3, d4, d5, d6, d7, d8, d9, d10⟩ := box11 hb; have f4 := hb.frozen 9; have HB2 := hide hb; have HK2 := hide ((unhide HK1).step k2); clear hb k2))
  go_cut [7, 8] (fun x y wc => x = .bool true ∧ y = .bool b4 ∧ Kept [] w2 wc)
  case first =>
    go_quiet (fail)
    go_wp2_with fail
    go_meet
    exact ⟨rfl, rfl, (Kept.refl [] w2).drewN _⟩
  case rest =>
    obtain ⟨rfl, rfl, k3⟩ := hcut
    have hb := (unhide HB2).kept k3 (by simp)
    obtain ⟨d0, d1, d2, d3, d4, d5, d6, d7, d8, d9, d10⟩ := box11 hb
    have f4 := hb.frozen 9
    have hlt := hb.lt
    have hne : w.heap.size ≠ wc.heap.size := by omega
    have HB3 := hide hb
    have HK3 := hide ((unhide HK2).step k3)
    clear hb k3
    go_wp2_with (go_at_call 6; refine (encode_any _ (setF p 8) l (recW_num ((unhide HW).kept ((unhide HK3).setCell (Or.inr (Nat.le_refl _)) _)) 8 (by decide)).far).mono ?_; rintro e w5 ⟨k5, hz⟩; rcases hz with ⟨hz, -⟩ | ⟨-, rfl⟩; (exact absurd hz (by rw [unhide HS2]; simp)); have HK5 : Hid (Kept [] w w5) := Kept.step ((unhide HK3).setCell (Or.inr (Nat.le_refl _)) _) k5; clear k5)
    all_goals
      go_ret
      exact ⟨rfl, unhide HK5⟩
end Go.Proofs.Ytocmgfmfalaebab
