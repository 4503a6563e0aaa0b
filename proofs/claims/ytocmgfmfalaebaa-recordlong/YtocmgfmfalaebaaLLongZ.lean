/- RecordLong. -/
import Derived.Test.YtocmgfmfalaebaaPkU
namespace Go.Proofs.Ytocmgfmfalaebaa
open Go.RowKit

set_option maxRecDepth 100000 in
set_option maxHeartbeats 800000 in
theorem long_no (w : World) (p : Pl) (l : Lo) (h : RecW w p l) (hs : snd p = false) : Calls Try.prog 8 #[rv p l] w fun e w' => e = .returned (.bool true) ∧ Kept [] w w' := by
  have HW := hide h.far
  have HA := hide (fun W => awake_any W)
  have HS := hide (fun W (hf : RecFar W p l []) => size_anyR W p l hf)
  have hkl := h.kl
  have hvl := h.vl
  have hcl := h.cl
  clear h
  have HSN := hide hs
  clear hs
  rw [rv_lit] at *
  have HB0 := hide (Blk.new w #[.int .i64 p.kind, .int .i64 p.shard, .int .i64 p.epoch, .int .i64 p.peer, .int .i64 p.client, .int .i64 p.seq, .int .i64 p.okind, .slice l.ka p.key.length l.kc, .slice l.va p.val.length l.vc, .int .i64 p.rev, .slice l.ca p.copy.length l.cc] 26)
  have HK0 := hide ((Kept.refl [] w).alloc (.cells #[.int .i64 p.kind, .int .i64 p.shard, .int .i64 p.epoch, .int .i64 p.peer, .int .i64 p.client, .int .i64 p.seq, .int .i64 p.okind, .slice l.ka p.key.length l.kc, .slice l.va p.val.length l.vc, .int .i64 p.rev, .slice l.ca p.copy.length l.cc] 26))
  generalize p.key.length = kl at *
  generalize p.val.length = vl at *
  generalize p.copy.length = cl' at *
  go_enter Try.func8, Try.ntmps8
  go_wp2_with (first
    | (go_at_call 22; refine (unhide HA _).mono ?_; rintro e w1 ⟨rfl, k1⟩; have hb := (unhide HB0).kept k1 (by simp); obtain ⟨d0, d1, d2, d3, d4, d5, d6, d7, d8, d9, d10⟩ := box11 hb; have HB1 := hide hb; have HK1 := hide ((unhide HK0).step k1); clear hb k1)
    | (go_at_call 13; refine (unhide HS _ ((unhide HW).quiet (unhide HK1))).mono ?_; rintro e w2 ⟨k2, hsz⟩; rcases hsz with ⟨hs, -⟩ | ⟨-, rfl⟩; (exact absurd hs (by rw [unhide HSN]; decide)); have hb := (unhide HB1).kept k2 (by simp); obtain ⟨d0, d1, d2, d3, d4, d5, d6, d7, d8, d9, d10⟩ := box11 hb; have HK2 := hide ((unhide HK1).step k2); clear hb k2))
  all_goals
    go_ret
    refine ⟨ret_bool ?_, unhide HK2⟩
    simp
    try omega
set_option maxRecDepth 100000 in
set_option maxHeartbeats 800000 in
theorem long_I (w : World) (p : Pl) (l : Lo) (h : RecW w p l) (hs : snd p = true) (hI : isI p) : Calls Try.prog 8 #[rv p l] w fun e w' => e = .returned (.bool true) ∧ Kept [] w w' := by
  have HW := hide h.far
  have HA := hide (fun W => awake_any W)
  have HS := hide (fun W (hf : RecFar W p l []) => size_anyR W p l hf)
  have hkl := h.kl
  have hvl := h.vl
  have hcl := h.cl
  clear h
  have HSN := hide hs
  have hL := len_I hI
  have hk4 : p.kind = 4 := hI.1
  have t4 : (p.kind == 4) = true := by simpa using hk4
  have hc2 : p.copy.length ≤ 262144 := hI.2.2.2.2.1
  have wr1 : IntKind.i64.wrap ((p.copy.length : Int) + 11) = (p.copy.length : Int) + 11 := by rw [IntKind.wrap_i64]; omega
  have wr2 : IntKind.i64.wrap ((p.copy.length : Int) + 5) = (p.copy.length : Int) + 5 := by rw [IntKind.wrap_i64]; omega
  clear hs hI hk4
  generalize hn : (enc p).length = N at *
  have HN := hide hn
  clear hn
  have q1 : (N : Int) ≤ (p.copy.length : Int) + 11 := by omega
  have q2 : (p.copy.length : Int) + 5 ≤ (N : Int) := by omega
  rw [rv_lit] at *
  have HB0 := hide (Blk.new w #[.int .i64 p.kind, .int .i64 p.shard, .int .i64 p.epoch, .int .i64 p.peer, .int .i64 p.client, .int .i64 p.seq, .int .i64 p.okind, .slice l.ka p.key.length l.kc, .slice l.va p.val.length l.vc, .int .i64 p.rev, .slice l.ca p.copy.length l.cc] 26)
  have HK0 := hide ((Kept.refl [] w).alloc (.cells #[.int .i64 p.kind, .int .i64 p.shard, .int .i64 p.epoch, .int .i64 p.peer, .int .i64 p.client, .int .i64 p.seq, .int .i64 p.okind, .slice l.ka p.key.length l.kc, .slice l.va p.val.length l.vc, .int .i64 p.rev, .slice l.ca p.copy.length l.cc] 26))
  generalize p.key.length = kl at *
  generalize p.val.length = vl at *
  generalize p.copy.length = cl' at *
  go_enter Try.func8, Try.ntmps8
  go_wp2_with (first
    | (go_at_call 22; refine (unhide HA _).mono ?_; rintro e w1 ⟨rfl, k1⟩; have hb := (unhide HB0).kept k1 (by simp); obtain ⟨d0, d1, d2, d3, d4, d5, d6, d7, d8, d9, d10⟩ := box11 hb; have HB1 := hide hb; have HK1 := hide ((unhide HK0).step k1); clear hb k1)
    | (go_at_call 13; refine (unhide HS _ ((unhide HW).quiet (unhide HK1))).mono ?_; rintro e w2 ⟨k2, hsz⟩; rcases hsz with ⟨-, rfl⟩ | ⟨hs, -⟩; rotate_left; (exact absurd hs (by rw [unhide HSN]; decide)); rw [unhide HN]; have hb := (unhide HB1).kept k2 (by simp); obtain ⟨d0, d1, d2, d3, d4, d5, d6, d7, d8, d9, d10⟩ := box11 hb; have HK2 := hide ((unhide HK1).step k2); clear hb k2))
  all_goals
    go_ret
    refine ⟨ret_bool ?_, unhide HK2⟩
    simp
    try omega
set_option maxRecDepth 100000 in
set_option maxHeartbeats 800000 in
theorem long_W (w : World) (p : Pl) (l : Lo) (h : RecW w p l) (hs : snd p = true) (hW : isW p) : Calls Try.prog 8 #[rv p l] w fun e w' => e = .returned (.bool true) ∧ Kept [] w w' := by
  have HW := hide h.far
  have HA := hide (fun W => awake_any W)
  have HS := hide (fun W (hf : RecFar W p l []) => size_anyR W p l hf)
  have hkl := h.kl
  have hvl := h.vl
  have hcl := h.cl
  clear h
  have HSN := hide hs
  have hL := len_W hW
  have hk1 : p.kind = 1 := hW.1
  have t4 : (p.kind == 4) = false := by rw [hk1]; rfl
  have t1 : (p.kind == 1) = true := by rw [hk1]; rfl
  have hb := wrt_iff.1 hW.2.2.2.2.1
  have hk2 : p.key.length ≤ 64 := hb.1.2
  have hv2 : p.val.length ≤ 256 := by omega
  have wr1 : IntKind.i64.wrap ((p.key.length : Int) + (p.val.length : Int)) = (p.key.length : Int) + (p.val.length : Int) := by rw [IntKind.wrap_i64]; omega
  have wr2 : IntKind.i64.wrap ((p.key.length : Int) + (p.val.length : Int) + 6) = (p.key.length : Int) + (p.val.length : Int) + 6 := by rw [IntKind.wrap_i64]; omega
  clear hs hW hk1 hb
  generalize hn : (enc p).length = N at *
  have HN := hide hn
  clear hn
  have q1 : (N : Int) ≤ 338 := by omega
  have q2 : (p.key.length : Int) + (p.val.length : Int) + 6 ≤ (N : Int) := by omega
  rw [rv_lit] at *
  have HB0 := hide (Blk.new w #[.int .i64 p.kind, .int .i64 p.shard, .int .i64 p.epoch, .int .i64 p.peer, .int .i64 p.client, .int .i64 p.seq, .int .i64 p.okind, .slice l.ka p.key.length l.kc, .slice l.va p.val.length l.vc, .int .i64 p.rev, .slice l.ca p.copy.length l.cc] 26)
  have HK0 := hide ((Kept.refl [] w).alloc (.cells #[.int .i64 p.kind, .int .i64 p.shard, .int .i64 p.epoch, .int .i64 p.peer, .int .i64 p.client, .int .i64 p.seq, .int .i64 p.okind, .slice l.ka p.key.length l.kc, .slice l.va p.val.length l.vc, .int .i64 p.rev, .slice l.ca p.copy.length l.cc] 26))
  generalize p.key.length = kl at *
  generalize p.val.length = vl at *
  generalize p.copy.length = cl' at *
  go_enter Try.func8, Try.ntmps8
  go_wp2_with (first
    | (go_at_call 22; refine (unhide HA _).mono ?_; rintro e w1 ⟨rfl, k1⟩; have hb := (unhide HB0).kept k1 (by simp); obtain ⟨d0, d1, d2, d3, d4, d5, d6, d7, d8, d9, d10⟩ := box11 hb; have HB1 := hide hb; have HK1 := hide ((unhide HK0).step k1); clear hb k1)
    | (go_at_call 13; refine (unhide HS _ ((unhide HW).quiet (unhide HK1))).mono ?_; rintro e w2 ⟨k2, hsz⟩; rcases hsz with ⟨-, rfl⟩ | ⟨hs, -⟩; rotate_left; (exact absurd hs (by rw [unhide HSN]; decide)); rw [unhide HN]; have hb := (unhide HB1).kept k2 (by simp); obtain ⟨d0, d1, d2, d3, d4, d5, d6, d7, d8, d9, d10⟩ := box11 hb; have HK2 := hide ((unhide HK1).step k2); clear hb k2))
  all_goals
    go_ret
    refine ⟨ret_bool ?_, unhide HK2⟩
    simp
    try omega
set_option maxRecDepth 100000 in
set_option maxHeartbeats 800000 in
theorem long_S (w : World) (p : Pl) (l : Lo) (h : RecW w p l) (hs : snd p = true) (hS : isS p ∨ isO p) : Calls Try.prog 8 #[rv p l] w fun e w' => e = .returned (.bool true) ∧ Kept [] w w' := by
  have HW := hide h.far
  have HA := hide (fun W => awake_any W)
  have HS := hide (fun W (hf : RecFar W p l []) => size_anyR W p l hf)
  have hkl := h.kl
  have hvl := h.vl
  have hcl := h.cl
  clear h
  have HSN := hide hs
  have hL : 2 ≤ (enc p).length ∧ (enc p).length ≤ 3 := by
    rcases hS with h | h
    · have := len_S h; omega
    · have := len_O h; omega
  have hk : p.kind ≠ 4 ∧ p.kind ≠ 1 := by rcases hS with h | h <;> (have := h.1; omega)
  have t4 : (p.kind == 4) = false := by simpa using hk.1
  have t1 : (p.kind == 1) = false := by simpa using hk.2
  clear hs hS hk
  generalize hn : (enc p).length = N at *
  have HN := hide hn
  clear hn
  have q1 : (N : Int) ≤ 3 := by omega
  have q2 : 2 ≤ (N : Int) := by omega
  rw [rv_lit] at *
  have HB0 := hide (Blk.new w #[.int .i64 p.kind, .int .i64 p.shard, .int .i64 p.epoch, .int .i64 p.peer, .int .i64 p.client, .int .i64 p.seq, .int .i64 p.okind, .slice l.ka p.key.length l.kc, .slice l.va p.val.length l.vc, .int .i64 p.rev, .slice l.ca p.copy.length l.cc] 26)
  have HK0 := hide ((Kept.refl [] w).alloc (.cells #[.int .i64 p.kind, .int .i64 p.shard, .int .i64 p.epoch, .int .i64 p.peer, .int .i64 p.client, .int .i64 p.seq, .int .i64 p.okind, .slice l.ka p.key.length l.kc, .slice l.va p.val.length l.vc, .int .i64 p.rev, .slice l.ca p.copy.length l.cc] 26))
  generalize p.key.length = kl at *
  generalize p.val.length = vl at *
  generalize p.copy.length = cl' at *
  go_enter Try.func8, Try.ntmps8
  go_wp2_with (first
    | (go_at_call 22; refine (unhide HA _).mono ?_; rintro e w1 ⟨rfl, k1⟩; have hb := (unhide HB0).kept k1 (by simp); obtain ⟨d0, d1, d2, d3, d4, d5, d6, d7, d8, d9, d10⟩ := box11 hb; have HB1 := hide hb; have HK1 := hide ((unhide HK0).step k1); clear hb k1)
    | (go_at_call 13; refine (unhide HS _ ((unhide HW).quiet (unhide HK1))).mono ?_; rintro e w2 ⟨k2, hsz⟩; rcases hsz with ⟨-, rfl⟩ | ⟨hs, -⟩; rotate_left; (exact absurd hs (by rw [unhide HSN]; decide)); rw [unhide HN]; have hb := (unhide HB1).kept k2 (by simp); obtain ⟨d0, d1, d2, d3, d4, d5, d6, d7, d8, d9, d10⟩ := box11 hb; have HK2 := hide ((unhide HK1).step k2); clear hb k2))
  all_goals
    go_ret
    refine ⟨ret_bool ?_, unhide HK2⟩
    simp
    try omega
theorem long_walk (w : World) (p : Pl) (l : Lo) (h : RecW w p l) : Calls Try.prog 8 #[rv p l] w fun e w' => e = .returned (.bool true) ∧ Kept [] w w' := by
  cases hs : snd p with
  | false => exact long_no w p l h hs
  | true =>
    rcases (snd_iff p).1 hs with g | g | g | g
    · exact long_W w p l h hs g
    · exact long_S w p l h hs (Or.inr g)
    · exact long_I w p l h hs g
    · exact long_S w p l h hs (Or.inl g)
end Go.Proofs.Ytocmgfmfalaebaa
