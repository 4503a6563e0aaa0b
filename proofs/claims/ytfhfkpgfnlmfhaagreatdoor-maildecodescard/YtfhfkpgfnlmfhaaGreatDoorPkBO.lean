/- Texts laid one behind the other: RSm RSo RS0 RS1 RS2n RS3 RS4 RSy. -/
import Derived.Test.YtfhfkpgfnlmfhaaGreatDoorPkBM
import Derived.Deep.RegionHeld3
/- The document's small questions about a message. -/
namespace Go.Proofs.YtfhfkpgfnlmfhaaGreatDoor
open Go.RowKit

set_option maxRecDepth 100000 in
theorem rserver_any (w : World) (n : Int) : Calls Tryz.prog 28 #[.int .i64 n] w fun e w' => e = .returned (.bool (srv n)) ∧ Kept [] w w' := by
  go_enter Tryz.func28, Tryz.ntmps28
  go_wp2_with fail
  all_goals
    go_ret
    refine ⟨ret_bool ?_, Kept.refl _ _⟩
    rw [Bool.eq_iff_iff]
    simp [srv, wthn]
    try omega
set_option maxRecDepth 100000 in
theorem rclient_any (w : World) (m n : Int) (h1 : -9223372036854775808 ≤ n) (h2 : n ≤ 9223372036854775807) : Calls Tryz.prog 27 #[.int .i64 m, .int .i64 n] w fun e w' => e = .returned (.bool (cli n m)) ∧ Kept [] w w' := by
  by_cases h0 : 0 ≤ n ∧ n < 16
  · have e1 : wrap64 (100 + n) = 100 + n := by unfold wrap64; omega
    go_enter Tryz.func27, Tryz.ntmps27
    go_wp2_with fail
    all_goals
      go_ret
      refine ⟨ret_bool ?_, Kept.refl _ _⟩
      rw [Bool.eq_iff_iff]
      simp_all [cli, wthn]
      try omega
  · go_enter Tryz.func27, Tryz.ntmps27
    go_wp2_with fail
    all_goals
      go_ret
      refine ⟨ret_bool ?_, Kept.refl _ _⟩
      rw [Bool.eq_iff_iff]
      simp_all [cli, wthn]
      try omega
set_option maxRecDepth 100000 in
theorem rnoOp_any (w : World) (k : Int) (ka : Option Addr) (kl kc : Nat) (va : Option Addr) (vl vc : Nat) (rev : Int) : Calls Tryz.prog 30 #[ov k ka kl kc va vl vc rev] w fun e w' => e = .returned (.bool (blo k kl vl rev)) ∧ Kept [] w w' := by
  unfold ov
  go_enter Tryz.func30, Tryz.ntmps30
  go_wp2_with fail
  all_goals
    go_ret
    refine ⟨ret_bool ?_, (Kept.refl _ _).alloc _⟩
    rw [Bool.eq_iff_iff]
    simp [blo]
    try omega
set_option maxRecDepth 100000 in
theorem rnoAns_any (w : World) (d : Bool) (ka : Option Addr) (kl kc : Nat) (va : Option Addr) (vl vc : Nat) (rev at_ : Int) : Calls Tryz.prog 26 #[av d ka kl kc va vl vc rev at_] w fun e w' => e = .returned (.bool (bla d kl vl rev at_)) ∧ Kept [] w w' := by
  unfold av
  cases d <;>
  · go_enter Tryz.func26, Tryz.ntmps26
    go_wp2_with fail
    all_goals
      go_ret
      refine ⟨ret_bool ?_, (Kept.refl _ _).alloc _⟩
      rw [Bool.eq_iff_iff]
      simp [bla]
      try omega
set_option maxRecDepth 100000 in
set_option maxHeartbeats 800000 in
theorem rfit_any (w : World) (d : Bool) (ka : Option Addr) (kl kc : Nat) (va : Option Addr) (vl vc : Nat) (rev at_ : Int) : Calls Tryz.prog 54 #[av d ka kl kc va vl vc rev at_] w fun e w' => e = .returned (.bool (fit kl vl rev at_)) ∧ Kept [] w w' := by
  unfold av
  go_enter Tryz.func54, Tryz.ntmps54
  go_wp2_with fail
  all_goals
    go_ret
    refine ⟨ret_bool ?_, (Kept.refl _ _).alloc _⟩
    rw [Bool.eq_iff_iff]
    simp_all [fit]
    try omega
def rgt2 (k : Int) (kl vl : Nat) (rev : Int) : Bool := decide (((k = 1 ∨ k = 3) ∧ 1 ≤ kl ∧ kl ≤ 64 ∧ vl = 0 ∧ rev = 0) ∨ (k = 2 ∧ 1 ≤ kl ∧ kl ≤ 64 ∧ vl ≤ 256 ∧ rev = 0) ∨ (k = 4 ∧ 1 ≤ kl ∧ kl ≤ 64 ∧ vl ≤ 256 ∧ 0 ≤ rev ∧ rev ≤ 1099511627776) ∨ (k = 5 ∧ kl ≤ 65 ∧ vl = 0 ∧ rev = 0))
set_option maxRecDepth 100000 in
set_option maxHeartbeats 1600000 in
theorem rright_any (w : World) (k : Int) (ka : Option Addr) (kl kc : Nat) (va : Option Addr) (vl vc : Nat) (rev : Int) : Calls Tryz.prog 29 #[ov k ka kl kc va vl vc rev] w fun e w' => e = .returned (.bool (rgt2 k kl vl rev)) ∧ Kept [] w w' := by
  unfold ov at *
  go_enter Tryz.func29, Tryz.ntmps29
  go_wp2_with fail
  refine world_at (R := fun W => Kept [] w W ∧ Blk W w.heap.size #[.int .i64 k, .slice ka kl kc, .slice va vl vc, .int .i64 rev] 25) ⟨(Kept.refl _ _).alloc _, Blk.new _ _ _⟩ ?_
  rintro W ⟨hkW, hbW⟩
  have c0 := hbW.cell 0
  have c1 := hbW.cell 1
  have c2 := hbW.cell 2
  have c3 := hbW.cell 3
  simp at c0 c1 c2 c3
  go_region_held3 (fun w' => w'.cell? ⟨w.heap.size, 0, none⟩ = some (.int .i64 k) ∧ w'.cell? ⟨w.heap.size, 1, none⟩ = some (.slice ka kl kc) ∧ w'.cell? ⟨w.heap.size, 2, none⟩ = some (.slice va vl vc) ∧ w'.cell? ⟨w.heap.size, 3, none⟩ = some (.int .i64 rev)) (go_keep) (fail)
  go_wp2_with fail
  all_goals
    go_ret
    refine ⟨ret_bool ?_, by first | exact hkW | exact hkW.drew⟩
    rw [Bool.eq_iff_iff]
    simp [rgt2] at *
    try omega
theorem rgt_same (k : Int) (kl vl : Nat) (rev : Int) : rgt2 k kl vl rev = rgt k kl vl rev := by
  unfold rgt2 rgt
  rw [Bool.eq_iff_iff]
  repeat' split
  all_goals (simp; omega)
end Go.Proofs.YtfhfkpgfnlmfhaaGreatDoor

/- The document's Sound. -/
namespace Go.Proofs.YtfhfkpgfnlmfhaaGreatDoor
open Go.RowKit

/-- The message's box. -/
structure RB (w : World) (p : Ml) (l : Lm) (X : World) : Prop where
  blk : Blk X w.heap.size (mcc p l) 30
  kept : Kept [] w X
theorem RB.go {w : World} {p : Ml} {l : Lm} {X Y : World} (h : RB w p l X) (k : Kept [] X Y) : RB w p l Y := ⟨h.blk.kept k (by simp), h.kept.step k⟩
theorem RB.begin (w : World) (p : Ml) (l : Lm) : RB w p l (w.alloc (.cells (mcc p l) 30)) := ⟨Blk.new _ _ _, (Kept.refl [] w).alloc _⟩
set_option linter.unusedSimpArgs false
set_option maxRecDepth 100000 in
set_option maxHeartbeats 1600000 in
theorem rreplies_any (w : World) (p : Ml) (l : Lm) : Calls Tryz.prog 31 #[.agg (mcc p l)] w fun e w' => e = .returned (.bool (sVerd p)) ∧ Kept [] w w' := by
  go_enter Tryz.func31, Tryz.ntmps31
  go_upto_region 1 with fail
  refine world_at (R := fun X => RB w p l X) (RB.begin w p l) ?_
  rintro X hx
  have H0 := hide hx
  clear hx
  obtain ⟨c0, c1, c2, c3, c4, c5, c6, c7, c8, c9, c10, c11, c12, c13, c14, c15, c16, c17, c18, c19⟩ := box20 (unhide H0).blk
  go_wp2_with (first
    | (go_at_call 54; refine (rfit_any _ _ _ _ _ _ _ _ _ _).mono ?_; rintro e w2 ⟨rfl, k2⟩; have H1 := hide ((unhide H0).go k2); clear k2 H0 c0 c1 c2 c3 c4 c5 c6 c7 c8 c9 c10 c11 c12 c13 c14 c15 c16 c17 c18 c19; obtain ⟨c0, c1, c2, c3, c4, c5, c6, c7, c8, c9, c10, c11, c12, c13, c14, c15, c16, c17, c18, c19⟩ := box20 (unhide H1).blk)
    | (go_at_call 26; refine (rnoAns_any _ _ _ _ _ _ _ _ _ _).mono ?_; rintro e w2 ⟨rfl, k2⟩; have H1 := hide ((unhide H0).go k2); clear k2 H0 c0 c1 c2 c3 c4 c5 c6 c7 c8 c9 c10 c11 c12 c13 c14 c15 c16 c17 c18 c19; obtain ⟨c0, c1, c2, c3, c4, c5, c6, c7, c8, c9, c10, c11, c12, c13, c14, c15, c16, c17, c18, c19⟩ := box20 (unhide H1).blk)
    | (go_at_call 28; refine (rserver_any _ _).mono ?_; rintro e w3 ⟨rfl, k3⟩; have H2 := hide ((unhide H1).go k3); clear k3 H1))
  all_goals
    go_ret
    refine ⟨ret_bool ?_, by first | exact (unhide H2).kept | exact (unhide H1).kept | exact (unhide H0).kept⟩
    simp_all [sVerd, fitB, ansB]
    try (rw [Bool.eq_iff_iff]; simp)
theorem snd_k1 {p : Ml} (hk : p.kind = 1) (h0 : 0 ≤ p.shard) (h1 : p.shard < 64) : snd p = (noTrans p && noVerd p && cli p.client p.frm && srv p.dst && decide (1 ≤ p.seq) && decide (p.seq ≤ 1073741824) && rgt2 p.okind p.key.length p.val.length p.rev) := by
  have hw : wthn p.shard 0 63 = true := by simp [wthn]; omega
  rw [rgt_same, snd, sKind, hw, if_pos hk, Bool.eq_iff_iff]
  simp [seqB, wthn]
  constructor
  · rintro ⟨⟨⟨⟨⟨a, b⟩, c⟩, d⟩, e⟩, f⟩; simp_all
  · rintro ⟨⟨⟨⟨⟨⟨a, b⟩, c⟩, d⟩, e⟩, f⟩, g⟩; simp_all
theorem snd_k2 {p : Ml} (hk : p.kind = 2) (h0 : 0 ≤ p.shard) (h1 : p.shard < 64) : snd p = (noTrans p && opB p && srv p.frm && cli p.client p.dst && decide (1 ≤ p.seq) && decide (p.seq ≤ 1073741824) && sVerd p) := by
  have hw : wthn p.shard 0 63 = true := by simp [wthn]; omega
  rw [snd, sKind, hw, if_neg (by omega), if_pos hk, Bool.eq_iff_iff]
  simp [seqB, wthn]
  constructor
  · rintro ⟨⟨⟨⟨⟨a, b⟩, c⟩, d⟩, e⟩, f⟩; simp_all
  · rintro ⟨⟨⟨⟨⟨⟨a, b⟩, c⟩, d⟩, e⟩, f⟩, g⟩; simp_all
theorem snd_kh {p : Ml} (hk : 3 ≤ p.kind) (hk8 : p.kind ≤ 8) (h0 : 0 ≤ p.shard) (h1 : p.shard < 64) : snd p = (noVerd p && opB p && decide (p.client = 0) && decide (p.seq = 0) && srv p.frm && srv p.dst && decide (p.frm ≠ p.dst) && decide (1 ≤ p.epoch) && decide (p.epoch ≤ 1073741824) && (if p.kind = 3 then decide (p.copy.length ≤ 262144) else decide (p.root = 0) && decide (p.copy.length = 0))) := by
  have hw : wthn p.shard 0 63 = true := by simp [wthn]; omega
  rw [snd, sKind, hw, if_neg (by omega), if_neg (by omega), Bool.eq_iff_iff]
  by_cases h3 : p.kind = 3
  · rw [if_pos h3, if_pos h3]
    simp [hand, noCall, wthn]
    constructor
    · rintro ⟨a, ⟨⟨⟨b, c⟩, d⟩, e⟩, ⟨f, g⟩, h⟩; simp_all
    · rintro ⟨⟨⟨⟨⟨⟨⟨⟨⟨a, b⟩, c⟩, d⟩, e⟩, f⟩, g⟩, h⟩, i⟩, j⟩; simp_all
  · rw [if_neg h3, if_pos (by omega), if_neg h3]
    simp only [hand, noCall, noCopy, wthn, Bool.true_and, Bool.and_eq_true, decide_eq_true_eq]
    constructor
    · intro h; simp_all
    · intro h; simp_all
end Go.Proofs.YtfhfkpgfnlmfhaaGreatDoor

/- The document's Sound: kinds and shards that there are not. -/
namespace Go.Proofs.YtfhfkpgfnlmfhaaGreatDoor
open Go.RowKit
set_option linter.unusedSimpArgs false

theorem snd_out {p : Ml} (hb : p.kind < 1 ∨ 8 < p.kind ∨ p.shard < 0 ∨ 64 ≤ p.shard) : snd p = false := by
  cases h : snd p
  · rfl
  · obtain ⟨a, b⟩ := (snd_iff p).1 h
    unfold shardP at a
    rcases b with ⟨h1, _⟩ | ⟨h1, _⟩ | ⟨h1, _⟩ | ⟨h1, _⟩ <;> omega
set_option maxRecDepth 100000 in
set_option maxHeartbeats 3200000 in
theorem rsound_0 (w : World) (p : Ml) (l : Lm) (hb : p.kind < 1 ∨ 8 < p.kind ∨ p.shard < 0 ∨ 64 ≤ p.shard) : Calls Tryz.prog 11 #[.agg (mcc p l)] w fun e w' => e = .returned (.bool (snd p)) ∧ Kept [] w w' := by
  have HSK := hide (snd_out hb)
  have q : ((p.kind < 1) = True) ∨ ((p.kind < 1) = False ∧ ((8 : Int) < p.kind) = True) ∨ ((p.kind < 1) = False ∧ ((8 : Int) < p.kind) = False ∧ (p.shard < 0) = True) ∨ ((p.kind < 1) = False ∧ ((8 : Int) < p.kind) = False ∧ (p.shard < 0) = False ∧ ((64 : Int) ≤ p.shard) = True) := by
    simp only [eq_iff_iff, iff_true, iff_false]
    omega
  clear hb
  rcases q with k1 | ⟨k1, k2⟩ | ⟨k1, k2, g0⟩ | ⟨k1, k2, g0, g1⟩
  all_goals
    go_enter Tryz.func11, Tryz.ntmps11
    go_upto_region 1 with fail
    refine world_at (R := fun X => RB w p l X) (RB.begin w p l) ?_
    rintro X hx
    have H0 := hide hx
    clear hx
    obtain ⟨c0, c1, c2, c3, c4, c5, c6, c7, c8, c9, c10, c11, c12, c13, c14, c15, c16, c17, c18, c19⟩ := box20 (unhide H0).blk
    go_wp2_with fail
    all_goals
      go_ret
      refine ⟨ret_bool ?_, (unhide H0).kept⟩
      rw [unhide HSK]
end Go.Proofs.YtfhfkpgfnlmfhaaGreatDoor

/- The document's Sound, by kinds. -/
namespace Go.Proofs.YtfhfkpgfnlmfhaaGreatDoor
open Go.RowKit
set_option linter.unusedSimpArgs false

set_option maxRecDepth 100000 in
set_option maxHeartbeats 6400000 in
theorem rsound_1 (w : World) (p : Ml) (l : Lm) (hk : p.kind = 1) (h0 : 0 ≤ p.shard) (h1 : p.shard < 64) (hc1 : -9223372036854775808 ≤ p.client) (hc2 : p.client ≤ 9223372036854775807) : Calls Tryz.prog 11 #[.agg (mcc p l)] w fun e w' => e = .returned (.bool (snd p)) ∧ Kept [] w w' := by
  have HSK := hide (snd_k1 hk h0 h1)
  have HCI := hide (And.intro hc1 hc2)
  have g0 : (p.shard < 0) = False := eq_false (by omega)
  have g1 : ((64 : Int) ≤ p.shard) = False := eq_false (by omega)
  have k1 : (p.kind < 1) = False := eq_false (by omega)
  have k2 : ((8 : Int) < p.kind) = False := eq_false (by omega)
  clear h0 h1 hc1 hc2
  go_enter Tryz.func11, Tryz.ntmps11
  go_upto_region 1 with fail
  refine world_at (R := fun X => RB w p l X) (RB.begin w p l) ?_
  rintro X hx
  have H0 := hide hx
  clear hx
  obtain ⟨c0, c1, c2, c3, c4, c5, c6, c7, c8, c9, c10, c11, c12, c13, c14, c15, c16, c17, c18, c19⟩ := box20 (unhide H0).blk
  go_upto_region 3 with fail
  obtain ⟨b3, hb3⟩ : ∃ b, noVerd p = b := ⟨_, rfl⟩
  obtain ⟨b4, hb4⟩ : ∃ b, noTrans p = b := ⟨_, rfl⟩
  have HB3 := hide hb3
  have HB4 := hide hb4
  clear hb3 hb4
  go_cut [3] (fun t wc => ∃ Z, Z = wc ∧ t = .bool b3 ∧ Hid (Kept [] X Z))
  case first =>
    go_wp2_with (go_at_call 26; refine (rnoAns_any _ _ _ _ _ _ _ _ _ _).mono ?_; rintro e w2 ⟨rfl, k2⟩; have HK2 := hide k2; have H1 := hide ((unhide H0).go k2); clear k2 H0 c0 c1 c2 c3 c4 c5 c6 c7 c8 c9 c10 c11 c12 c13 c14 c15 c16 c17 c18 c19; obtain ⟨c0, c1, c2, c3, c4, c5, c6, c7, c8, c9, c10, c11, c12, c13, c14, c15, c16, c17, c18, c19⟩ := box20 (unhide H1).blk)
    all_goals
      go_meet
      refine ⟨_, rfl, ?_, hide (by first | exact unhide HK2 | exact Kept.refl _ _)⟩
      rw [← unhide HB3]
      simp_all [noVerd, ansB]
      try (rw [Bool.eq_iff_iff]; simp)
  case rest =>
    obtain ⟨Z, rfl, rfl, hz⟩ := hcut
    have H1 := hide ((unhide H0).go (unhide hz))
    clear H0 hz c0 c1 c2 c3 c4 c5 c6 c7 c8 c9 c10 c11 c12 c13 c14 c15 c16 c17 c18 c19
    obtain ⟨c0, c1, c2, c3, c4, c5, c6, c7, c8, c9, c10, c11, c12, c13, c14, c15, c16, c17, c18, c19⟩ := box20 (unhide H1).blk
    go_upto_region 4 with fail
    go_cut [4] (fun t wc => Z = wc ∧ t = .bool b4)
    case first =>
      go_wp2_with fail
      all_goals
        go_meet
        refine ⟨rfl, ?_⟩
        rw [← unhide HB4]
        simp_all [noTrans, noCopy]
        try (rw [Bool.eq_iff_iff]; simp)
    case rest =>
      obtain ⟨hz, rfl⟩ := hcut
      subst hz
      cases b3 <;> cases b4
      all_goals
        go_wp2_with (first
          | (go_at_call 27; refine (rclient_any _ _ _ (unhide HCI).1 (unhide HCI).2).mono ?_; rintro e w2 ⟨rfl, k2⟩; have H1 := hide ((unhide H1).go k2); clear k2 c0 c1 c2 c3 c4 c5 c6 c7 c8 c9 c10 c11 c12 c13 c14 c15 c16 c17 c18 c19; obtain ⟨c0, c1, c2, c3, c4, c5, c6, c7, c8, c9, c10, c11, c12, c13, c14, c15, c16, c17, c18, c19⟩ := box20 (unhide H1).blk)
          | (go_at_call 28; refine (rserver_any _ _).mono ?_; rintro e w3 ⟨rfl, k3⟩; have H1 := hide ((unhide H1).go k3); clear k3 c0 c1 c2 c3 c4 c5 c6 c7 c8 c9 c10 c11 c12 c13 c14 c15 c16 c17 c18 c19; obtain ⟨c0, c1, c2, c3, c4, c5, c6, c7, c8, c9, c10, c11, c12, c13, c14, c15, c16, c17, c18, c19⟩ := box20 (unhide H1).blk)
          | (go_at_call 30; refine (rnoOp_any _ _ _ _ _ _ _ _ _).mono ?_; rintro e w3 ⟨rfl, k3⟩; have H1 := hide ((unhide H1).go k3); clear k3 c0 c1 c2 c3 c4 c5 c6 c7 c8 c9 c10 c11 c12 c13 c14 c15 c16 c17 c18 c19; obtain ⟨c0, c1, c2, c3, c4, c5, c6, c7, c8, c9, c10, c11, c12, c13, c14, c15, c16, c17, c18, c19⟩ := box20 (unhide H1).blk)
          | (go_at_call 29; refine (rright_any _ _ _ _ _ _ _ _ _).mono ?_; rintro e w3 ⟨rfl, k3⟩; have H1 := hide ((unhide H1).go k3); clear k3 c0 c1 c2 c3 c4 c5 c6 c7 c8 c9 c10 c11 c12 c13 c14 c15 c16 c17 c18 c19)
          | (refine wpList_load_guard 30 _ rfl _ rfl 30 _ (0, 0) _ (unhide H1).blk Tryz.underlying30 rfl infoMail rfl ?_)
          | (go_at_call 31; refine (rreplies_any _ p l).mono ?_; rintro e w3 ⟨rfl, k3⟩; have H1 := hide ((unhide H1).go k3); clear k3 c0 c1 c2 c3 c4 c5 c6 c7 c8 c9 c10 c11 c12 c13 c14 c15 c16 c17 c18 c19))
      all_goals
        go_ret
        refine ⟨ret_bool ?_, (unhide H1).kept⟩
        have e3 := unhide HB3
        have e4 := unhide HB4
        rw [unhide HSK]
        simp_all [opB]
        try (first | omega | (rw [Bool.eq_iff_iff]; simp; try omega))
end Go.Proofs.YtfhfkpgfnlmfhaaGreatDoor

/- The document's Sound, kind 2: one text for each place where the chain of tests ends (written by mkrs2.py). -/
namespace Go.Proofs.YtfhfkpgfnlmfhaaGreatDoor
open Go.RowKit
set_option linter.unusedSimpArgs false

set_option maxRecDepth 100000 in
set_option maxHeartbeats 3200000 in
theorem rsound_2_0 (w : World) (p : Ml) (l : Lm) (hk : p.kind = 2) (h0 : 0 ≤ p.shard) (h1 : p.shard < 64) (hc1 : -9223372036854775808 ≤ p.client) (hc2 : p.client ≤ 9223372036854775807) (t0 : noTrans p = false) : Calls Tryz.prog 11 #[.agg (mcc p l)] w fun e w' => e = .returned (.bool false) ∧ Kept [] w w' := by
  have HCI := hide (And.intro hc1 hc2)
  have g0 : (p.shard < 0) = False := eq_false (by omega)
  have g1 : ((64 : Int) ≤ p.shard) = False := eq_false (by omega)
  have k1 : (p.kind < 1) = False := eq_false (by omega)
  have k2 : ((8 : Int) < p.kind) = False := eq_false (by omega)
  have k3 : (p.kind == 1) = false := by rw [beq_eq_false_iff_ne]; omega
  have k4 : (p.kind == 2) = true := by rw [beq_iff_eq]; omega
  have HT := hide t0
  clear t0
  clear hk
  clear h0 h1 hc1 hc2
  go_enter Tryz.func11, Tryz.ntmps11
  go_upto_region 1 with fail
  refine world_at (R := fun X => RB w p l X) (RB.begin w p l) ?_
  rintro X hx
  have H0 := hide hx
  clear hx
  obtain ⟨c0, c1, c2, c3, c4, c5, c6, c7, c8, c9, c10, c11, c12, c13, c14, c15, c16, c17, c18, c19⟩ := box20 (unhide H0).blk
  go_upto_region 3 with fail
  obtain ⟨b3, hb3⟩ : ∃ b, noVerd p = b := ⟨_, rfl⟩
  have HB3 := hide hb3
  clear hb3
  go_cut [3] (fun t wc => ∃ Z, Z = wc ∧ t = .bool b3 ∧ Hid (Kept [] X Z))
  case first =>
    go_wp2_with (go_at_call 26; refine (rnoAns_any _ _ _ _ _ _ _ _ _ _).mono ?_; rintro e w2 ⟨rfl, k2⟩; have HK2 := hide k2; have H1 := hide ((unhide H0).go k2); clear k2 H0 c0 c1 c2 c3 c4 c5 c6 c7 c8 c9 c10 c11 c12 c13 c14 c15 c16 c17 c18 c19; obtain ⟨c0, c1, c2, c3, c4, c5, c6, c7, c8, c9, c10, c11, c12, c13, c14, c15, c16, c17, c18, c19⟩ := box20 (unhide H1).blk)
    all_goals
      go_meet
      refine ⟨_, rfl, ?_, hide (by first | exact unhide HK2 | exact Kept.refl _ _)⟩
      rw [← unhide HB3]
      simp_all [noVerd, ansB]
      try (rw [Bool.eq_iff_iff]; simp)
  case rest =>
    obtain ⟨Z, rfl, rfl, hz⟩ := hcut
    have H1 := hide ((unhide H0).go (unhide hz))
    clear H0 hz HB3 c0 c1 c2 c3 c4 c5 c6 c7 c8 c9 c10 c11 c12 c13 c14 c15 c16 c17 c18 c19
    obtain ⟨c0, c1, c2, c3, c4, c5, c6, c7, c8, c9, c10, c11, c12, c13, c14, c15, c16, c17, c18, c19⟩ := box20 (unhide H1).blk
    go_upto_region 4 with fail
    go_cut [4] (fun t wc => Z = wc ∧ t = .bool false)
    case first =>
      go_wp2_with fail
      all_goals
        go_meet
        refine ⟨rfl, ?_⟩
        have e4 := unhide HT
        clear HT
        simp only [noTrans, noCopy] at e4
        simp_all
    case rest =>
      obtain ⟨hz, rfl⟩ := hcut
      subst hz
      clear HT
      go_wp2_with (first
        | (refine wpList_load_guard 30 _ rfl _ rfl 30 _ (0, 0) _ (unhide H1).blk Tryz.underlying30 rfl infoMail rfl ?_)
        | fail)
      all_goals
        go_ret
        exact ⟨ret_bool rfl, (unhide H1).kept⟩

set_option maxRecDepth 100000 in
set_option maxHeartbeats 3200000 in
theorem rsound_2_1 (w : World) (p : Ml) (l : Lm) (hk : p.kind = 2) (h0 : 0 ≤ p.shard) (h1 : p.shard < 64) (hc1 : -9223372036854775808 ≤ p.client) (hc2 : p.client ≤ 9223372036854775807) (t0 : noTrans p = true) (t1 : blo p.okind p.key.length p.val.length p.rev = false) : Calls Tryz.prog 11 #[.agg (mcc p l)] w fun e w' => e = .returned (.bool false) ∧ Kept [] w w' := by
  have HCI := hide (And.intro hc1 hc2)
  have g0 : (p.shard < 0) = False := eq_false (by omega)
  have g1 : ((64 : Int) ≤ p.shard) = False := eq_false (by omega)
  have k1 : (p.kind < 1) = False := eq_false (by omega)
  have k2 : ((8 : Int) < p.kind) = False := eq_false (by omega)
  have k3 : (p.kind == 1) = false := by rw [beq_eq_false_iff_ne]; omega
  have k4 : (p.kind == 2) = true := by rw [beq_iff_eq]; omega
  have HT := hide t0
  clear t0
  have HO := hide t1
  clear t1
  clear hk
  clear h0 h1 hc1 hc2
  go_enter Tryz.func11, Tryz.ntmps11
  go_upto_region 1 with fail
  refine world_at (R := fun X => RB w p l X) (RB.begin w p l) ?_
  rintro X hx
  have H0 := hide hx
  clear hx
  obtain ⟨c0, c1, c2, c3, c4, c5, c6, c7, c8, c9, c10, c11, c12, c13, c14, c15, c16, c17, c18, c19⟩ := box20 (unhide H0).blk
  go_upto_region 3 with fail
  obtain ⟨b3, hb3⟩ : ∃ b, noVerd p = b := ⟨_, rfl⟩
  have HB3 := hide hb3
  clear hb3
  go_cut [3] (fun t wc => ∃ Z, Z = wc ∧ t = .bool b3 ∧ Hid (Kept [] X Z))
  case first =>
    go_wp2_with (go_at_call 26; refine (rnoAns_any _ _ _ _ _ _ _ _ _ _).mono ?_; rintro e w2 ⟨rfl, k2⟩; have HK2 := hide k2; have H1 := hide ((unhide H0).go k2); clear k2 H0 c0 c1 c2 c3 c4 c5 c6 c7 c8 c9 c10 c11 c12 c13 c14 c15 c16 c17 c18 c19; obtain ⟨c0, c1, c2, c3, c4, c5, c6, c7, c8, c9, c10, c11, c12, c13, c14, c15, c16, c17, c18, c19⟩ := box20 (unhide H1).blk)
    all_goals
      go_meet
      refine ⟨_, rfl, ?_, hide (by first | exact unhide HK2 | exact Kept.refl _ _)⟩
      rw [← unhide HB3]
      simp_all [noVerd, ansB]
      try (rw [Bool.eq_iff_iff]; simp)
  case rest =>
    obtain ⟨Z, rfl, rfl, hz⟩ := hcut
    have H1 := hide ((unhide H0).go (unhide hz))
    clear H0 hz HB3 c0 c1 c2 c3 c4 c5 c6 c7 c8 c9 c10 c11 c12 c13 c14 c15 c16 c17 c18 c19
    obtain ⟨c0, c1, c2, c3, c4, c5, c6, c7, c8, c9, c10, c11, c12, c13, c14, c15, c16, c17, c18, c19⟩ := box20 (unhide H1).blk
    go_upto_region 4 with fail
    go_cut [4] (fun t wc => Z = wc ∧ t = .bool true)
    case first =>
      go_wp2_with fail
      all_goals
        go_meet
        refine ⟨rfl, ?_⟩
        have e4 := unhide HT
        clear HT
        simp only [noTrans, noCopy] at e4
        simp_all
    case rest =>
      obtain ⟨hz, rfl⟩ := hcut
      subst hz
      clear HT
      go_wp2_with (first
        | (refine wpList_load_guard 30 _ rfl _ rfl 30 _ (0, 0) _ (unhide H1).blk Tryz.underlying30 rfl infoMail rfl ?_)
        | (go_at_call 30; refine (rnoOp_any _ _ _ _ _ _ _ _ _).mono ?_; rintro e w3 ⟨he, k3⟩; rw [unhide HO] at he; subst he; have H1 := hide ((unhide H1).go k3); clear k3 c0 c1 c2 c3 c4 c5 c6 c7 c8 c9 c10 c11 c12 c13 c14 c15 c16 c17 c18 c19; obtain ⟨c0, c1, c2, c3, c4, c5, c6, c7, c8, c9, c10, c11, c12, c13, c14, c15, c16, c17, c18, c19⟩ := box20 (unhide H1).blk))
      all_goals
        go_ret
        exact ⟨ret_bool rfl, (unhide H1).kept⟩

set_option maxRecDepth 100000 in
set_option maxHeartbeats 3200000 in
theorem rsound_2_2 (w : World) (p : Ml) (l : Lm) (hk : p.kind = 2) (h0 : 0 ≤ p.shard) (h1 : p.shard < 64) (hc1 : -9223372036854775808 ≤ p.client) (hc2 : p.client ≤ 9223372036854775807) (t0 : noTrans p = true) (t1 : blo p.okind p.key.length p.val.length p.rev = true) (t2 : srv p.frm = false) : Calls Tryz.prog 11 #[.agg (mcc p l)] w fun e w' => e = .returned (.bool false) ∧ Kept [] w w' := by
  have HCI := hide (And.intro hc1 hc2)
  have g0 : (p.shard < 0) = False := eq_false (by omega)
  have g1 : ((64 : Int) ≤ p.shard) = False := eq_false (by omega)
  have k1 : (p.kind < 1) = False := eq_false (by omega)
  have k2 : ((8 : Int) < p.kind) = False := eq_false (by omega)
  have k3 : (p.kind == 1) = false := by rw [beq_eq_false_iff_ne]; omega
  have k4 : (p.kind == 2) = true := by rw [beq_iff_eq]; omega
  have HT := hide t0
  clear t0
  have HO := hide t1
  clear t1
  have HS := hide t2
  clear t2
  clear hk
  clear h0 h1 hc1 hc2
  go_enter Tryz.func11, Tryz.ntmps11
  go_upto_region 1 with fail
  refine world_at (R := fun X => RB w p l X) (RB.begin w p l) ?_
  rintro X hx
  have H0 := hide hx
  clear hx
  obtain ⟨c0, c1, c2, c3, c4, c5, c6, c7, c8, c9, c10, c11, c12, c13, c14, c15, c16, c17, c18, c19⟩ := box20 (unhide H0).blk
  go_upto_region 3 with fail
  obtain ⟨b3, hb3⟩ : ∃ b, noVerd p = b := ⟨_, rfl⟩
  have HB3 := hide hb3
  clear hb3
  go_cut [3] (fun t wc => ∃ Z, Z = wc ∧ t = .bool b3 ∧ Hid (Kept [] X Z))
  case first =>
    go_wp2_with (go_at_call 26; refine (rnoAns_any _ _ _ _ _ _ _ _ _ _).mono ?_; rintro e w2 ⟨rfl, k2⟩; have HK2 := hide k2; have H1 := hide ((unhide H0).go k2); clear k2 H0 c0 c1 c2 c3 c4 c5 c6 c7 c8 c9 c10 c11 c12 c13 c14 c15 c16 c17 c18 c19; obtain ⟨c0, c1, c2, c3, c4, c5, c6, c7, c8, c9, c10, c11, c12, c13, c14, c15, c16, c17, c18, c19⟩ := box20 (unhide H1).blk)
    all_goals
      go_meet
      refine ⟨_, rfl, ?_, hide (by first | exact unhide HK2 | exact Kept.refl _ _)⟩
      rw [← unhide HB3]
      simp_all [noVerd, ansB]
      try (rw [Bool.eq_iff_iff]; simp)
  case rest =>
    obtain ⟨Z, rfl, rfl, hz⟩ := hcut
    have H1 := hide ((unhide H0).go (unhide hz))
    clear H0 hz HB3 c0 c1 c2 c3 c4 c5 c6 c7 c8 c9 c10 c11 c12 c13 c14 c15 c16 c17 c18 c19
    obtain ⟨c0, c1, c2, c3, c4, c5, c6, c7, c8, c9, c10, c11, c12, c13, c14, c15, c16, c17, c18, c19⟩ := box20 (unhide H1).blk
    go_upto_region 4 with fail
    go_cut [4] (fun t wc => Z = wc ∧ t = .bool true)
    case first =>
      go_wp2_with fail
      all_goals
        go_meet
        refine ⟨rfl, ?_⟩
        have e4 := unhide HT
        clear HT
        simp only [noTrans, noCopy] at e4
        simp_all
    case rest =>
      obtain ⟨hz, rfl⟩ := hcut
      subst hz
      clear HT
      go_wp2_with (first
        | (refine wpList_load_guard 30 _ rfl _ rfl 30 _ (0, 0) _ (unhide H1).blk Tryz.underlying30 rfl infoMail rfl ?_)
        | (go_at_call 30; refine (rnoOp_any _ _ _ _ _ _ _ _ _).mono ?_; rintro e w3 ⟨he, k3⟩; rw [unhide HO] at he; subst he; have H1 := hide ((unhide H1).go k3); clear k3 c0 c1 c2 c3 c4 c5 c6 c7 c8 c9 c10 c11 c12 c13 c14 c15 c16 c17 c18 c19; obtain ⟨c0, c1, c2, c3, c4, c5, c6, c7, c8, c9, c10, c11, c12, c13, c14, c15, c16, c17, c18, c19⟩ := box20 (unhide H1).blk)
        | (go_at_call 28; refine (rserver_any _ _).mono ?_; rintro e w3 ⟨he, k3⟩; rw [unhide HS] at he; subst he; have H1 := hide ((unhide H1).go k3); clear k3 c0 c1 c2 c3 c4 c5 c6 c7 c8 c9 c10 c11 c12 c13 c14 c15 c16 c17 c18 c19; obtain ⟨c0, c1, c2, c3, c4, c5, c6, c7, c8, c9, c10, c11, c12, c13, c14, c15, c16, c17, c18, c19⟩ := box20 (unhide H1).blk))
      all_goals
        go_ret
        exact ⟨ret_bool rfl, (unhide H1).kept⟩

set_option maxRecDepth 100000 in
set_option maxHeartbeats 3200000 in
theorem rsound_2_3 (w : World) (p : Ml) (l : Lm) (hk : p.kind = 2) (h0 : 0 ≤ p.shard) (h1 : p.shard < 64) (hc1 : -9223372036854775808 ≤ p.client) (hc2 : p.client ≤ 9223372036854775807) (t0 : noTrans p = true) (t1 : blo p.okind p.key.length p.val.length p.rev = true) (t2 : srv p.frm = true) (t3 : cli p.client p.dst = false) : Calls Tryz.prog 11 #[.agg (mcc p l)] w fun e w' => e = .returned (.bool false) ∧ Kept [] w w' := by
  have HCI := hide (And.intro hc1 hc2)
  have g0 : (p.shard < 0) = False := eq_false (by omega)
  have g1 : ((64 : Int) ≤ p.shard) = False := eq_false (by omega)
  have k1 : (p.kind < 1) = False := eq_false (by omega)
  have k2 : ((8 : Int) < p.kind) = False := eq_false (by omega)
  have k3 : (p.kind == 1) = false := by rw [beq_eq_false_iff_ne]; omega
  have k4 : (p.kind == 2) = true := by rw [beq_iff_eq]; omega
  have HT := hide t0
  clear t0
  have HO := hide t1
  clear t1
  have HS := hide t2
  clear t2
  have HC := hide t3
  clear t3
  clear hk
  clear h0 h1 hc1 hc2
  go_enter Tryz.func11, Tryz.ntmps11
  go_upto_region 1 with fail
  refine world_at (R := fun X => RB w p l X) (RB.begin w p l) ?_
  rintro X hx
  have H0 := hide hx
  clear hx
  obtain ⟨c0, c1, c2, c3, c4, c5, c6, c7, c8, c9, c10, c11, c12, c13, c14, c15, c16, c17, c18, c19⟩ := box20 (unhide H0).blk
  go_upto_region 3 with fail
  obtain ⟨b3, hb3⟩ : ∃ b, noVerd p = b := ⟨_, rfl⟩
  have HB3 := hide hb3
  clear hb3
  go_cut [3] (fun t wc => ∃ Z, Z = wc ∧ t = .bool b3 ∧ Hid (Kept [] X Z))
  case first =>
    go_wp2_with (go_at_call 26; refine (rnoAns_any _ _ _ _ _ _ _ _ _ _).mono ?_; rintro e w2 ⟨rfl, k2⟩; have HK2 := hide k2; have H1 := hide ((unhide H0).go k2); clear k2 H0 c0 c1 c2 c3 c4 c5 c6 c7 c8 c9 c10 c11 c12 c13 c14 c15 c16 c17 c18 c19; obtain ⟨c0, c1, c2, c3, c4, c5, c6, c7, c8, c9, c10, c11, c12, c13, c14, c15, c16, c17, c18, c19⟩ := box20 (unhide H1).blk)
    all_goals
      go_meet
      refine ⟨_, rfl, ?_, hide (by first | exact unhide HK2 | exact Kept.refl _ _)⟩
      rw [← unhide HB3]
      simp_all [noVerd, ansB]
      try (rw [Bool.eq_iff_iff]; simp)
  case rest =>
    obtain ⟨Z, rfl, rfl, hz⟩ := hcut
    have H1 := hide ((unhide H0).go (unhide hz))
    clear H0 hz HB3 c0 c1 c2 c3 c4 c5 c6 c7 c8 c9 c10 c11 c12 c13 c14 c15 c16 c17 c18 c19
    obtain ⟨c0, c1, c2, c3, c4, c5, c6, c7, c8, c9, c10, c11, c12, c13, c14, c15, c16, c17, c18, c19⟩ := box20 (unhide H1).blk
    go_upto_region 4 with fail
    go_cut [4] (fun t wc => Z = wc ∧ t = .bool true)
    case first =>
      go_wp2_with fail
      all_goals
        go_meet
        refine ⟨rfl, ?_⟩
        have e4 := unhide HT
        clear HT
        simp only [noTrans, noCopy] at e4
        simp_all
    case rest =>
      obtain ⟨hz, rfl⟩ := hcut
      subst hz
      clear HT
      go_wp2_with (first
        | (refine wpList_load_guard 30 _ rfl _ rfl 30 _ (0, 0) _ (unhide H1).blk Tryz.underlying30 rfl infoMail rfl ?_)
        | (go_at_call 30; refine (rnoOp_any _ _ _ _ _ _ _ _ _).mono ?_; rintro e w3 ⟨he, k3⟩; rw [unhide HO] at he; subst he; have H1 := hide ((unhide H1).go k3); clear k3 c0 c1 c2 c3 c4 c5 c6 c7 c8 c9 c10 c11 c12 c13 c14 c15 c16 c17 c18 c19; obtain ⟨c0, c1, c2, c3, c4, c5, c6, c7, c8, c9, c10, c11, c12, c13, c14, c15, c16, c17, c18, c19⟩ := box20 (unhide H1).blk)
        | (go_at_call 28; refine (rserver_any _ _).mono ?_; rintro e w3 ⟨he, k3⟩; rw [unhide HS] at he; subst he; have H1 := hide ((unhide H1).go k3); clear k3 c0 c1 c2 c3 c4 c5 c6 c7 c8 c9 c10 c11 c12 c13 c14 c15 c16 c17 c18 c19; obtain ⟨c0, c1, c2, c3, c4, c5, c6, c7, c8, c9, c10, c11, c12, c13, c14, c15, c16, c17, c18, c19⟩ := box20 (unhide H1).blk)
        | (go_at_call 27; refine (rclient_any _ _ _ (unhide HCI).1 (unhide HCI).2).mono ?_; rintro e w3 ⟨he, k3⟩; rw [unhide HC] at he; subst he; have H1 := hide ((unhide H1).go k3); clear k3 c0 c1 c2 c3 c4 c5 c6 c7 c8 c9 c10 c11 c12 c13 c14 c15 c16 c17 c18 c19; obtain ⟨c0, c1, c2, c3, c4, c5, c6, c7, c8, c9, c10, c11, c12, c13, c14, c15, c16, c17, c18, c19⟩ := box20 (unhide H1).blk))
      all_goals
        go_ret
        exact ⟨ret_bool rfl, (unhide H1).kept⟩

set_option maxRecDepth 100000 in
set_option maxHeartbeats 3200000 in
theorem rsound_2_4 (w : World) (p : Ml) (l : Lm) (hk : p.kind = 2) (h0 : 0 ≤ p.shard) (h1 : p.shard < 64) (hc1 : -9223372036854775808 ≤ p.client) (hc2 : p.client ≤ 9223372036854775807) (t0 : noTrans p = true) (t1 : blo p.okind p.key.length p.val.length p.rev = true) (t2 : srv p.frm = true) (t3 : cli p.client p.dst = true) (t4 : ¬ 1 ≤ p.seq) : Calls Tryz.prog 11 #[.agg (mcc p l)] w fun e w' => e = .returned (.bool false) ∧ Kept [] w w' := by
  have HCI := hide (And.intro hc1 hc2)
  have g0 : (p.shard < 0) = False := eq_false (by omega)
  have g1 : ((64 : Int) ≤ p.shard) = False := eq_false (by omega)
  have k1 : (p.kind < 1) = False := eq_false (by omega)
  have k2 : ((8 : Int) < p.kind) = False := eq_false (by omega)
  have k3 : (p.kind == 1) = false := by rw [beq_eq_false_iff_ne]; omega
  have k4 : (p.kind == 2) = true := by rw [beq_iff_eq]; omega
  have HT := hide t0
  clear t0
  have HO := hide t1
  clear t1
  have HS := hide t2
  clear t2
  have HC := hide t3
  clear t3
  have q4 : (1 ≤ p.seq) = False := eq_false t4
  clear t4
  clear hk
  clear h0 h1 hc1 hc2
  go_enter Tryz.func11, Tryz.ntmps11
  go_upto_region 1 with fail
  refine world_at (R := fun X => RB w p l X) (RB.begin w p l) ?_
  rintro X hx
  have H0 := hide hx
  clear hx
  obtain ⟨c0, c1, c2, c3, c4, c5, c6, c7, c8, c9, c10, c11, c12, c13, c14, c15, c16, c17, c18, c19⟩ := box20 (unhide H0).blk
  go_upto_region 3 with fail
  obtain ⟨b3, hb3⟩ : ∃ b, noVerd p = b := ⟨_, rfl⟩
  have HB3 := hide hb3
  clear hb3
  go_cut [3] (fun t wc => ∃ Z, Z = wc ∧ t = .bool b3 ∧ Hid (Kept [] X Z))
  case first =>
    go_wp2_with (go_at_call 26; refine (rnoAns_any _ _ _ _ _ _ _ _ _ _).mono ?_; rintro e w2 ⟨rfl, k2⟩; have HK2 := hide k2; have H1 := hide ((unhide H0).go k2); clear k2 H0 c0 c1 c2 c3 c4 c5 c6 c7 c8 c9 c10 c11 c12 c13 c14 c15 c16 c17 c18 c19; obtain ⟨c0, c1, c2, c3, c4, c5, c6, c7, c8, c9, c10, c11, c12, c13, c14, c15, c16, c17, c18, c19⟩ := box20 (unhide H1).blk)
    all_goals
      go_meet
      refine ⟨_, rfl, ?_, hide (by first | exact unhide HK2 | exact Kept.refl _ _)⟩
      rw [← unhide HB3]
      simp_all [noVerd, ansB]
      try (rw [Bool.eq_iff_iff]; simp)
  case rest =>
    obtain ⟨Z, rfl, rfl, hz⟩ := hcut
    have H1 := hide ((unhide H0).go (unhide hz))
    clear H0 hz HB3 c0 c1 c2 c3 c4 c5 c6 c7 c8 c9 c10 c11 c12 c13 c14 c15 c16 c17 c18 c19
    obtain ⟨c0, c1, c2, c3, c4, c5, c6, c7, c8, c9, c10, c11, c12, c13, c14, c15, c16, c17, c18, c19⟩ := box20 (unhide H1).blk
    go_upto_region 4 with fail
    go_cut [4] (fun t wc => Z = wc ∧ t = .bool true)
    case first =>
      go_wp2_with fail
      all_goals
        go_meet
        refine ⟨rfl, ?_⟩
        have e4 := unhide HT
        clear HT
        simp only [noTrans, noCopy] at e4
        simp_all
    case rest =>
      obtain ⟨hz, rfl⟩ := hcut
      subst hz
      clear HT
      go_wp2_with (first
        | (refine wpList_load_guard 30 _ rfl _ rfl 30 _ (0, 0) _ (unhide H1).blk Tryz.underlying30 rfl infoMail rfl ?_)
        | (go_at_call 30; refine (rnoOp_any _ _ _ _ _ _ _ _ _).mono ?_; rintro e w3 ⟨he, k3⟩; rw [unhide HO] at he; subst he; have H1 := hide ((unhide H1).go k3); clear k3 c0 c1 c2 c3 c4 c5 c6 c7 c8 c9 c10 c11 c12 c13 c14 c15 c16 c17 c18 c19; obtain ⟨c0, c1, c2, c3, c4, c5, c6, c7, c8, c9, c10, c11, c12, c13, c14, c15, c16, c17, c18, c19⟩ := box20 (unhide H1).blk)
        | (go_at_call 28; refine (rserver_any _ _).mono ?_; rintro e w3 ⟨he, k3⟩; rw [unhide HS] at he; subst he; have H1 := hide ((unhide H1).go k3); clear k3 c0 c1 c2 c3 c4 c5 c6 c7 c8 c9 c10 c11 c12 c13 c14 c15 c16 c17 c18 c19; obtain ⟨c0, c1, c2, c3, c4, c5, c6, c7, c8, c9, c10, c11, c12, c13, c14, c15, c16, c17, c18, c19⟩ := box20 (unhide H1).blk)
        | (go_at_call 27; refine (rclient_any _ _ _ (unhide HCI).1 (unhide HCI).2).mono ?_; rintro e w3 ⟨he, k3⟩; rw [unhide HC] at he; subst he; have H1 := hide ((unhide H1).go k3); clear k3 c0 c1 c2 c3 c4 c5 c6 c7 c8 c9 c10 c11 c12 c13 c14 c15 c16 c17 c18 c19; obtain ⟨c0, c1, c2, c3, c4, c5, c6, c7, c8, c9, c10, c11, c12, c13, c14, c15, c16, c17, c18, c19⟩ := box20 (unhide H1).blk))
      all_goals
        go_ret
        exact ⟨ret_bool rfl, (unhide H1).kept⟩

set_option maxRecDepth 100000 in
set_option maxHeartbeats 3200000 in
theorem rsound_2_5 (w : World) (p : Ml) (l : Lm) (hk : p.kind = 2) (h0 : 0 ≤ p.shard) (h1 : p.shard < 64) (hc1 : -9223372036854775808 ≤ p.client) (hc2 : p.client ≤ 9223372036854775807) (t0 : noTrans p = true) (t1 : blo p.okind p.key.length p.val.length p.rev = true) (t2 : srv p.frm = true) (t3 : cli p.client p.dst = true) (t4 : 1 ≤ p.seq) (t5 : ¬ p.seq ≤ 1073741824) : Calls Tryz.prog 11 #[.agg (mcc p l)] w fun e w' => e = .returned (.bool false) ∧ Kept [] w w' := by
  have HCI := hide (And.intro hc1 hc2)
  have g0 : (p.shard < 0) = False := eq_false (by omega)
  have g1 : ((64 : Int) ≤ p.shard) = False := eq_false (by omega)
  have k1 : (p.kind < 1) = False := eq_false (by omega)
  have k2 : ((8 : Int) < p.kind) = False := eq_false (by omega)
  have k3 : (p.kind == 1) = false := by rw [beq_eq_false_iff_ne]; omega
  have k4 : (p.kind == 2) = true := by rw [beq_iff_eq]; omega
  have HT := hide t0
  clear t0
  have HO := hide t1
  clear t1
  have HS := hide t2
  clear t2
  have HC := hide t3
  clear t3
  have q4 : (1 ≤ p.seq) = True := eq_true t4
  clear t4
  have q5 : (p.seq ≤ 1073741824) = False := eq_false t5
  clear t5
  clear hk
  clear h0 h1 hc1 hc2
  go_enter Tryz.func11, Tryz.ntmps11
  go_upto_region 1 with fail
  refine world_at (R := fun X => RB w p l X) (RB.begin w p l) ?_
  rintro X hx
  have H0 := hide hx
  clear hx
  obtain ⟨c0, c1, c2, c3, c4, c5, c6, c7, c8, c9, c10, c11, c12, c13, c14, c15, c16, c17, c18, c19⟩ := box20 (unhide H0).blk
  go_upto_region 3 with fail
  obtain ⟨b3, hb3⟩ : ∃ b, noVerd p = b := ⟨_, rfl⟩
  have HB3 := hide hb3
  clear hb3
  go_cut [3] (fun t wc => ∃ Z, Z = wc ∧ t = .bool b3 ∧ Hid (Kept [] X Z))
  case first =>
    go_wp2_with (go_at_call 26; refine (rnoAns_any _ _ _ _ _ _ _ _ _ _).mono ?_; rintro e w2 ⟨rfl, k2⟩; have HK2 := hide k2; have H1 := hide ((unhide H0).go k2); clear k2 H0 c0 c1 c2 c3 c4 c5 c6 c7 c8 c9 c10 c11 c12 c13 c14 c15 c16 c17 c18 c19; obtain ⟨c0, c1, c2, c3, c4, c5, c6, c7, c8, c9, c10, c11, c12, c13, c14, c15, c16, c17, c18, c19⟩ := box20 (unhide H1).blk)
    all_goals
      go_meet
      refine ⟨_, rfl, ?_, hide (by first | exact unhide HK2 | exact Kept.refl _ _)⟩
      rw [← unhide HB3]
      simp_all [noVerd, ansB]
      try (rw [Bool.eq_iff_iff]; simp)
  case rest =>
    obtain ⟨Z, rfl, rfl, hz⟩ := hcut
    have H1 := hide ((unhide H0).go (unhide hz))
    clear H0 hz HB3 c0 c1 c2 c3 c4 c5 c6 c7 c8 c9 c10 c11 c12 c13 c14 c15 c16 c17 c18 c19
    obtain ⟨c0, c1, c2, c3, c4, c5, c6, c7, c8, c9, c10, c11, c12, c13, c14, c15, c16, c17, c18, c19⟩ := box20 (unhide H1).blk
    go_upto_region 4 with fail
    go_cut [4] (fun t wc => Z = wc ∧ t = .bool true)
    case first =>
      go_wp2_with fail
      all_goals
        go_meet
        refine ⟨rfl, ?_⟩
        have e4 := unhide HT
        clear HT
        simp only [noTrans, noCopy] at e4
        simp_all
    case rest =>
      obtain ⟨hz, rfl⟩ := hcut
      subst hz
      clear HT
      go_wp2_with (first
        | (refine wpList_load_guard 30 _ rfl _ rfl 30 _ (0, 0) _ (unhide H1).blk Tryz.underlying30 rfl infoMail rfl ?_)
        | (go_at_call 30; refine (rnoOp_any _ _ _ _ _ _ _ _ _).mono ?_; rintro e w3 ⟨he, k3⟩; rw [unhide HO] at he; subst he; have H1 := hide ((unhide H1).go k3); clear k3 c0 c1 c2 c3 c4 c5 c6 c7 c8 c9 c10 c11 c12 c13 c14 c15 c16 c17 c18 c19; obtain ⟨c0, c1, c2, c3, c4, c5, c6, c7, c8, c9, c10, c11, c12, c13, c14, c15, c16, c17, c18, c19⟩ := box20 (unhide H1).blk)
        | (go_at_call 28; refine (rserver_any _ _).mono ?_; rintro e w3 ⟨he, k3⟩; rw [unhide HS] at he; subst he; have H1 := hide ((unhide H1).go k3); clear k3 c0 c1 c2 c3 c4 c5 c6 c7 c8 c9 c10 c11 c12 c13 c14 c15 c16 c17 c18 c19; obtain ⟨c0, c1, c2, c3, c4, c5, c6, c7, c8, c9, c10, c11, c12, c13, c14, c15, c16, c17, c18, c19⟩ := box20 (unhide H1).blk)
        | (go_at_call 27; refine (rclient_any _ _ _ (unhide HCI).1 (unhide HCI).2).mono ?_; rintro e w3 ⟨he, k3⟩; rw [unhide HC] at he; subst he; have H1 := hide ((unhide H1).go k3); clear k3 c0 c1 c2 c3 c4 c5 c6 c7 c8 c9 c10 c11 c12 c13 c14 c15 c16 c17 c18 c19; obtain ⟨c0, c1, c2, c3, c4, c5, c6, c7, c8, c9, c10, c11, c12, c13, c14, c15, c16, c17, c18, c19⟩ := box20 (unhide H1).blk))
      all_goals
        go_ret
        exact ⟨ret_bool rfl, (unhide H1).kept⟩

set_option maxRecDepth 100000 in
set_option maxHeartbeats 3200000 in
theorem rsound_2_6 (w : World) (p : Ml) (l : Lm) (hk : p.kind = 2) (h0 : 0 ≤ p.shard) (h1 : p.shard < 64) (hc1 : -9223372036854775808 ≤ p.client) (hc2 : p.client ≤ 9223372036854775807) (t0 : noTrans p = true) (t1 : blo p.okind p.key.length p.val.length p.rev = true) (t2 : srv p.frm = true) (t3 : cli p.client p.dst = true) (t4 : 1 ≤ p.seq) (t5 : p.seq ≤ 1073741824) : Calls Tryz.prog 11 #[.agg (mcc p l)] w fun e w' => e = .returned (.bool (sVerd p)) ∧ Kept [] w w' := by
  have HCI := hide (And.intro hc1 hc2)
  have g0 : (p.shard < 0) = False := eq_false (by omega)
  have g1 : ((64 : Int) ≤ p.shard) = False := eq_false (by omega)
  have k1 : (p.kind < 1) = False := eq_false (by omega)
  have k2 : ((8 : Int) < p.kind) = False := eq_false (by omega)
  have k3 : (p.kind == 1) = false := by rw [beq_eq_false_iff_ne]; omega
  have k4 : (p.kind == 2) = true := by rw [beq_iff_eq]; omega
  have HT := hide t0
  clear t0
  have HO := hide t1
  clear t1
  have HS := hide t2
  clear t2
  have HC := hide t3
  clear t3
  have q4 : (1 ≤ p.seq) = True := eq_true t4
  clear t4
  have q5 : (p.seq ≤ 1073741824) = True := eq_true t5
  clear t5
  clear hk
  clear h0 h1 hc1 hc2
  go_enter Tryz.func11, Tryz.ntmps11
  go_upto_region 1 with fail
  refine world_at (R := fun X => RB w p l X) (RB.begin w p l) ?_
  rintro X hx
  have H0 := hide hx
  clear hx
  obtain ⟨c0, c1, c2, c3, c4, c5, c6, c7, c8, c9, c10, c11, c12, c13, c14, c15, c16, c17, c18, c19⟩ := box20 (unhide H0).blk
  go_upto_region 3 with fail
  obtain ⟨b3, hb3⟩ : ∃ b, noVerd p = b := ⟨_, rfl⟩
  have HB3 := hide hb3
  clear hb3
  go_cut [3] (fun t wc => ∃ Z, Z = wc ∧ t = .bool b3 ∧ Hid (Kept [] X Z))
  case first =>
    go_wp2_with (go_at_call 26; refine (rnoAns_any _ _ _ _ _ _ _ _ _ _).mono ?_; rintro e w2 ⟨rfl, k2⟩; have HK2 := hide k2; have H1 := hide ((unhide H0).go k2); clear k2 H0 c0 c1 c2 c3 c4 c5 c6 c7 c8 c9 c10 c11 c12 c13 c14 c15 c16 c17 c18 c19; obtain ⟨c0, c1, c2, c3, c4, c5, c6, c7, c8, c9, c10, c11, c12, c13, c14, c15, c16, c17, c18, c19⟩ := box20 (unhide H1).blk)
    all_goals
      go_meet
      refine ⟨_, rfl, ?_, hide (by first | exact unhide HK2 | exact Kept.refl _ _)⟩
      rw [← unhide HB3]
      simp_all [noVerd, ansB]
      try (rw [Bool.eq_iff_iff]; simp)
  case rest =>
    obtain ⟨Z, rfl, rfl, hz⟩ := hcut
    have H1 := hide ((unhide H0).go (unhide hz))
    clear H0 hz HB3 c0 c1 c2 c3 c4 c5 c6 c7 c8 c9 c10 c11 c12 c13 c14 c15 c16 c17 c18 c19
    obtain ⟨c0, c1, c2, c3, c4, c5, c6, c7, c8, c9, c10, c11, c12, c13, c14, c15, c16, c17, c18, c19⟩ := box20 (unhide H1).blk
    go_upto_region 4 with fail
    go_cut [4] (fun t wc => Z = wc ∧ t = .bool true)
    case first =>
      go_wp2_with fail
      all_goals
        go_meet
        refine ⟨rfl, ?_⟩
        have e4 := unhide HT
        clear HT
        simp only [noTrans, noCopy] at e4
        simp_all
    case rest =>
      obtain ⟨hz, rfl⟩ := hcut
      subst hz
      clear HT
      go_wp2_with (first
        | (refine wpList_load_guard 30 _ rfl _ rfl 30 _ (0, 0) _ (unhide H1).blk Tryz.underlying30 rfl infoMail rfl ?_)
        | (go_at_call 30; refine (rnoOp_any _ _ _ _ _ _ _ _ _).mono ?_; rintro e w3 ⟨he, k3⟩; rw [unhide HO] at he; subst he; have H1 := hide ((unhide H1).go k3); clear k3 c0 c1 c2 c3 c4 c5 c6 c7 c8 c9 c10 c11 c12 c13 c14 c15 c16 c17 c18 c19; obtain ⟨c0, c1, c2, c3, c4, c5, c6, c7, c8, c9, c10, c11, c12, c13, c14, c15, c16, c17, c18, c19⟩ := box20 (unhide H1).blk)
        | (go_at_call 28; refine (rserver_any _ _).mono ?_; rintro e w3 ⟨he, k3⟩; rw [unhide HS] at he; subst he; have H1 := hide ((unhide H1).go k3); clear k3 c0 c1 c2 c3 c4 c5 c6 c7 c8 c9 c10 c11 c12 c13 c14 c15 c16 c17 c18 c19; obtain ⟨c0, c1, c2, c3, c4, c5, c6, c7, c8, c9, c10, c11, c12, c13, c14, c15, c16, c17, c18, c19⟩ := box20 (unhide H1).blk)
        | (go_at_call 27; refine (rclient_any _ _ _ (unhide HCI).1 (unhide HCI).2).mono ?_; rintro e w3 ⟨he, k3⟩; rw [unhide HC] at he; subst he; have H1 := hide ((unhide H1).go k3); clear k3 c0 c1 c2 c3 c4 c5 c6 c7 c8 c9 c10 c11 c12 c13 c14 c15 c16 c17 c18 c19; obtain ⟨c0, c1, c2, c3, c4, c5, c6, c7, c8, c9, c10, c11, c12, c13, c14, c15, c16, c17, c18, c19⟩ := box20 (unhide H1).blk)
        | (go_at_call 31; refine (rreplies_any _ p l).mono ?_; rintro e w3 ⟨rfl, k3⟩; have H1 := hide ((unhide H1).go k3); clear k3 c0 c1 c2 c3 c4 c5 c6 c7 c8 c9 c10 c11 c12 c13 c14 c15 c16 c17 c18 c19))
      all_goals
        go_ret
        exact ⟨ret_bool rfl, (unhide H1).kept⟩

theorem rsound_2 (w : World) (p : Ml) (l : Lm) (hk : p.kind = 2) (h0 : 0 ≤ p.shard) (h1 : p.shard < 64) (hc1 : -9223372036854775808 ≤ p.client) (hc2 : p.client ≤ 9223372036854775807) : Calls Tryz.prog 11 #[.agg (mcc p l)] w fun e w' => e = .returned (.bool (snd p)) ∧ Kept [] w w' := by
  rw [snd_k2 hk h0 h1]
  unfold opB
  cases t0 : noTrans p with
  | false => exact rsound_2_0 w p l hk h0 h1 hc1 hc2 t0
  | true =>
    cases t1 : blo p.okind p.key.length p.val.length p.rev with
    | false => exact rsound_2_1 w p l hk h0 h1 hc1 hc2 t0 t1
    | true =>
      cases t2 : srv p.frm with
      | false => exact rsound_2_2 w p l hk h0 h1 hc1 hc2 t0 t1 t2
      | true =>
        cases t3 : cli p.client p.dst with
        | false => exact rsound_2_3 w p l hk h0 h1 hc1 hc2 t0 t1 t2 t3
        | true =>
          by_cases t4 : 1 ≤ p.seq
          · by_cases t5 : p.seq ≤ 1073741824
            · rw [decide_eq_true t4, decide_eq_true t5]
              exact rsound_2_6 w p l hk h0 h1 hc1 hc2 t0 t1 t2 t3 t4 t5
            · rw [decide_eq_true t4, decide_eq_false t5]
              exact rsound_2_5 w p l hk h0 h1 hc1 hc2 t0 t1 t2 t3 t4 t5
          · rw [decide_eq_false t4]
            exact rsound_2_4 w p l hk h0 h1 hc1 hc2 t0 t1 t2 t3 t4
end Go.Proofs.YtfhfkpgfnlmfhaaGreatDoor

/- The document's Sound, by kinds. -/
namespace Go.Proofs.YtfhfkpgfnlmfhaaGreatDoor
open Go.RowKit
set_option linter.unusedSimpArgs false

set_option maxRecDepth 100000 in
set_option maxHeartbeats 6400000 in
theorem rsound_3 (w : World) (p : Ml) (l : Lm) (hk : p.kind = 3) (h0 : 0 ≤ p.shard) (h1 : p.shard < 64) (hc1 : -9223372036854775808 ≤ p.client) (hc2 : p.client ≤ 9223372036854775807) : Calls Tryz.prog 11 #[.agg (mcc p l)] w fun e w' => e = .returned (.bool (snd p)) ∧ Kept [] w w' := by
  have HSK := hide ((snd_kh (by omega) (by omega) h0 h1).trans (by rw [if_pos hk]))
  have HCI := hide (And.intro hc1 hc2)
  have g0 : (p.shard < 0) = False := eq_false (by omega)
  have g1 : ((64 : Int) ≤ p.shard) = False := eq_false (by omega)
  have k1 : (p.kind < 1) = False := eq_false (by omega)
  have k2 : ((8 : Int) < p.kind) = False := eq_false (by omega)
  have k3 : (p.kind == 1) = false := by rw [beq_eq_false_iff_ne]; omega
  have k4 : (p.kind == 2) = false := by rw [beq_eq_false_iff_ne]; omega
  have k5 : (p.kind == 3) = true := by rw [beq_iff_eq]; omega
  clear hk
  clear h0 h1 hc1 hc2
  go_enter Tryz.func11, Tryz.ntmps11
  go_upto_region 1 with fail
  refine world_at (R := fun X => RB w p l X) (RB.begin w p l) ?_
  rintro X hx
  have H0 := hide hx
  clear hx
  obtain ⟨c0, c1, c2, c3, c4, c5, c6, c7, c8, c9, c10, c11, c12, c13, c14, c15, c16, c17, c18, c19⟩ := box20 (unhide H0).blk
  go_upto_region 3 with fail
  obtain ⟨b3, hb3⟩ : ∃ b, noVerd p = b := ⟨_, rfl⟩
  obtain ⟨b4, hb4⟩ : ∃ b, noTrans p = b := ⟨_, rfl⟩
  have HB3 := hide hb3
  have HB4 := hide hb4
  clear hb3 hb4
  go_cut [3] (fun t wc => ∃ Z, Z = wc ∧ t = .bool b3 ∧ Hid (Kept [] X Z))
  case first =>
    go_wp2_with (go_at_call 26; refine (rnoAns_any _ _ _ _ _ _ _ _ _ _).mono ?_; rintro e w2 ⟨rfl, k2⟩; have HK2 := hide k2; have H1 := hide ((unhide H0).go k2); clear k2 H0 c0 c1 c2 c3 c4 c5 c6 c7 c8 c9 c10 c11 c12 c13 c14 c15 c16 c17 c18 c19; obtain ⟨c0, c1, c2, c3, c4, c5, c6, c7, c8, c9, c10, c11, c12, c13, c14, c15, c16, c17, c18, c19⟩ := box20 (unhide H1).blk)
    all_goals
      go_meet
      refine ⟨_, rfl, ?_, hide (by first | exact unhide HK2 | exact Kept.refl _ _)⟩
      rw [← unhide HB3]
      simp_all [noVerd, ansB]
      try (rw [Bool.eq_iff_iff]; simp)
  case rest =>
    obtain ⟨Z, rfl, rfl, hz⟩ := hcut
    have H1 := hide ((unhide H0).go (unhide hz))
    clear H0 hz c0 c1 c2 c3 c4 c5 c6 c7 c8 c9 c10 c11 c12 c13 c14 c15 c16 c17 c18 c19
    obtain ⟨c0, c1, c2, c3, c4, c5, c6, c7, c8, c9, c10, c11, c12, c13, c14, c15, c16, c17, c18, c19⟩ := box20 (unhide H1).blk
    go_upto_region 4 with fail
    go_cut [4] (fun t wc => Z = wc ∧ t = .bool b4)
    case first =>
      go_wp2_with fail
      all_goals
        go_meet
        refine ⟨rfl, ?_⟩
        rw [← unhide HB4]
        simp_all [noTrans, noCopy]
        try (rw [Bool.eq_iff_iff]; simp)
    case rest =>
      obtain ⟨hz, rfl⟩ := hcut
      subst hz
      cases b3
      all_goals as_aux_lemma =>
        go_wp2_with (first
          | (go_at_call 27; refine (rclient_any _ _ _ (unhide HCI).1 (unhide HCI).2).mono ?_; rintro e w2 ⟨rfl, k2⟩; have H1 := hide ((unhide H1).go k2); clear k2 c0 c1 c2 c3 c4 c5 c6 c7 c8 c9 c10 c11 c12 c13 c14 c15 c16 c17 c18 c19; obtain ⟨c0, c1, c2, c3, c4, c5, c6, c7, c8, c9, c10, c11, c12, c13, c14, c15, c16, c17, c18, c19⟩ := box20 (unhide H1).blk)
          | (go_at_call 28; refine (rserver_any _ _).mono ?_; rintro e w3 ⟨rfl, k3⟩; have H1 := hide ((unhide H1).go k3); clear k3 c0 c1 c2 c3 c4 c5 c6 c7 c8 c9 c10 c11 c12 c13 c14 c15 c16 c17 c18 c19; obtain ⟨c0, c1, c2, c3, c4, c5, c6, c7, c8, c9, c10, c11, c12, c13, c14, c15, c16, c17, c18, c19⟩ := box20 (unhide H1).blk)
          | (go_at_call 30; refine (rnoOp_any _ _ _ _ _ _ _ _ _).mono ?_; rintro e w3 ⟨rfl, k3⟩; have H1 := hide ((unhide H1).go k3); clear k3 c0 c1 c2 c3 c4 c5 c6 c7 c8 c9 c10 c11 c12 c13 c14 c15 c16 c17 c18 c19; obtain ⟨c0, c1, c2, c3, c4, c5, c6, c7, c8, c9, c10, c11, c12, c13, c14, c15, c16, c17, c18, c19⟩ := box20 (unhide H1).blk)
          | (go_at_call 29; refine (rright_any _ _ _ _ _ _ _ _ _).mono ?_; rintro e w3 ⟨rfl, k3⟩; have H1 := hide ((unhide H1).go k3); clear k3 c0 c1 c2 c3 c4 c5 c6 c7 c8 c9 c10 c11 c12 c13 c14 c15 c16 c17 c18 c19)
          | (refine wpList_load_guard 30 _ rfl _ rfl 30 _ (0, 0) _ (unhide H1).blk Tryz.underlying30 rfl infoMail rfl ?_)
          | (go_at_call 31; refine (rreplies_any _ p l).mono ?_; rintro e w3 ⟨rfl, k3⟩; have H1 := hide ((unhide H1).go k3); clear k3 c0 c1 c2 c3 c4 c5 c6 c7 c8 c9 c10 c11 c12 c13 c14 c15 c16 c17 c18 c19))
        all_goals as_aux_lemma =>
          go_ret
          refine ⟨ret_bool ?_, (unhide H1).kept⟩
          (try clear c0 c1 c2 c3 c4 c5 c6 c7 c8 c9 c10 c11 c12 c13 c14 c15 c16 c17 c18 c19)
          clear H1
          have e3 := unhide HB3
          have e4 := unhide HB4
          rw [unhide HSK]
          clear HSK HCI HB3 HB4
          simp_all [opB]
          try (first | omega | (rw [Bool.eq_iff_iff]; simp; try omega))
end Go.Proofs.YtfhfkpgfnlmfhaaGreatDoor

/- The document's Sound, by kinds. -/
namespace Go.Proofs.YtfhfkpgfnlmfhaaGreatDoor
open Go.RowKit
set_option linter.unusedSimpArgs false

set_option maxRecDepth 100000 in
set_option maxHeartbeats 6400000 in
theorem rsound_4 (w : World) (p : Ml) (l : Lm) (hk : 4 ≤ p.kind) (hk8 : p.kind ≤ 8) (h0 : 0 ≤ p.shard) (h1 : p.shard < 64) (hc1 : -9223372036854775808 ≤ p.client) (hc2 : p.client ≤ 9223372036854775807) : Calls Tryz.prog 11 #[.agg (mcc p l)] w fun e w' => e = .returned (.bool (snd p)) ∧ Kept [] w w' := by
  have HSK := hide (snd_kh (by omega) hk8 h0 h1)
  have HCI := hide (And.intro hc1 hc2)
  have g0 : (p.shard < 0) = False := eq_false (by omega)
  have g1 : ((64 : Int) ≤ p.shard) = False := eq_false (by omega)
  have k1 : (p.kind < 1) = False := eq_false (by omega)
  have k2 : ((8 : Int) < p.kind) = False := eq_false (by omega)
  have k3 : (p.kind == 1) = false := by rw [beq_eq_false_iff_ne]; omega
  have k4 : (p.kind == 2) = false := by rw [beq_eq_false_iff_ne]; omega
  have k5 : (p.kind == 3) = false := by rw [beq_eq_false_iff_ne]; omega
  have k6 : ¬ p.kind = 3 := by omega
  have k7 : ¬ p.kind = 1 := by omega
  have k8 : ¬ p.kind = 2 := by omega
  clear hk hk8
  clear h0 h1 hc1 hc2
  go_enter Tryz.func11, Tryz.ntmps11
  go_upto_region 1 with fail
  refine world_at (R := fun X => RB w p l X) (RB.begin w p l) ?_
  rintro X hx
  have H0 := hide hx
  clear hx
  obtain ⟨c0, c1, c2, c3, c4, c5, c6, c7, c8, c9, c10, c11, c12, c13, c14, c15, c16, c17, c18, c19⟩ := box20 (unhide H0).blk
  go_upto_region 3 with fail
  obtain ⟨b3, hb3⟩ : ∃ b, noVerd p = b := ⟨_, rfl⟩
  obtain ⟨b4, hb4⟩ : ∃ b, noTrans p = b := ⟨_, rfl⟩
  have HB3 := hide hb3
  have HB4 := hide hb4
  clear hb3 hb4
  go_cut [3] (fun t wc => ∃ Z, Z = wc ∧ t = .bool b3 ∧ Hid (Kept [] X Z))
  case first =>
    go_wp2_with (go_at_call 26; refine (rnoAns_any _ _ _ _ _ _ _ _ _ _).mono ?_; rintro e w2 ⟨rfl, k2⟩; have HK2 := hide k2; have H1 := hide ((unhide H0).go k2); clear k2 H0 c0 c1 c2 c3 c4 c5 c6 c7 c8 c9 c10 c11 c12 c13 c14 c15 c16 c17 c18 c19; obtain ⟨c0, c1, c2, c3, c4, c5, c6, c7, c8, c9, c10, c11, c12, c13, c14, c15, c16, c17, c18, c19⟩ := box20 (unhide H1).blk)
    all_goals
      go_meet
      refine ⟨_, rfl, ?_, hide (by first | exact unhide HK2 | exact Kept.refl _ _)⟩
      rw [← unhide HB3]
      simp_all [noVerd, ansB]
      try (rw [Bool.eq_iff_iff]; simp)
  case rest =>
    obtain ⟨Z, rfl, rfl, hz⟩ := hcut
    have H1 := hide ((unhide H0).go (unhide hz))
    clear H0 hz c0 c1 c2 c3 c4 c5 c6 c7 c8 c9 c10 c11 c12 c13 c14 c15 c16 c17 c18 c19
    obtain ⟨c0, c1, c2, c3, c4, c5, c6, c7, c8, c9, c10, c11, c12, c13, c14, c15, c16, c17, c18, c19⟩ := box20 (unhide H1).blk
    go_upto_region 4 with fail
    go_cut [4] (fun t wc => Z = wc ∧ t = .bool b4)
    case first =>
      go_wp2_with fail
      all_goals
        go_meet
        refine ⟨rfl, ?_⟩
        rw [← unhide HB4]
        simp_all [noTrans, noCopy]
        try (rw [Bool.eq_iff_iff]; simp)
    case rest =>
      obtain ⟨hz, rfl⟩ := hcut
      subst hz
      cases b3 <;> cases b4
      all_goals
        go_wp2_with (first
          | (go_at_call 27; refine (rclient_any _ _ _ (unhide HCI).1 (unhide HCI).2).mono ?_; rintro e w2 ⟨rfl, k2⟩; have H1 := hide ((unhide H1).go k2); clear k2 c0 c1 c2 c3 c4 c5 c6 c7 c8 c9 c10 c11 c12 c13 c14 c15 c16 c17 c18 c19; obtain ⟨c0, c1, c2, c3, c4, c5, c6, c7, c8, c9, c10, c11, c12, c13, c14, c15, c16, c17, c18, c19⟩ := box20 (unhide H1).blk)
          | (go_at_call 28; refine (rserver_any _ _).mono ?_; rintro e w3 ⟨rfl, k3⟩; have H1 := hide ((unhide H1).go k3); clear k3 c0 c1 c2 c3 c4 c5 c6 c7 c8 c9 c10 c11 c12 c13 c14 c15 c16 c17 c18 c19; obtain ⟨c0, c1, c2, c3, c4, c5, c6, c7, c8, c9, c10, c11, c12, c13, c14, c15, c16, c17, c18, c19⟩ := box20 (unhide H1).blk)
          | (go_at_call 30; refine (rnoOp_any _ _ _ _ _ _ _ _ _).mono ?_; rintro e w3 ⟨rfl, k3⟩; have H1 := hide ((unhide H1).go k3); clear k3 c0 c1 c2 c3 c4 c5 c6 c7 c8 c9 c10 c11 c12 c13 c14 c15 c16 c17 c18 c19; obtain ⟨c0, c1, c2, c3, c4, c5, c6, c7, c8, c9, c10, c11, c12, c13, c14, c15, c16, c17, c18, c19⟩ := box20 (unhide H1).blk)
          | (go_at_call 29; refine (rright_any _ _ _ _ _ _ _ _ _).mono ?_; rintro e w3 ⟨rfl, k3⟩; have H1 := hide ((unhide H1).go k3); clear k3 c0 c1 c2 c3 c4 c5 c6 c7 c8 c9 c10 c11 c12 c13 c14 c15 c16 c17 c18 c19)
          | (refine wpList_load_guard 30 _ rfl _ rfl 30 _ (0, 0) _ (unhide H1).blk Tryz.underlying30 rfl infoMail rfl ?_)
          | (go_at_call 31; refine (rreplies_any _ p l).mono ?_; rintro e w3 ⟨rfl, k3⟩; have H1 := hide ((unhide H1).go k3); clear k3 c0 c1 c2 c3 c4 c5 c6 c7 c8 c9 c10 c11 c12 c13 c14 c15 c16 c17 c18 c19))
      all_goals
        go_ret
        refine ⟨ret_bool ?_, (unhide H1).kept⟩
        have e3 := unhide HB3
        have e4 := unhide HB4
        rw [unhide HSK]
        simp_all [opB]
        try (first | omega | (rw [Bool.eq_iff_iff]; simp; try omega))
end Go.Proofs.YtfhfkpgfnlmfhaaGreatDoor

/- The document's Sound of any message. -/
namespace Go.Proofs.YtfhfkpgfnlmfhaaGreatDoor
open Go.RowKit

theorem rsound_any (w : World) (p : Ml) (l : Lm) (hc : -9223372036854775808 ≤ p.client ∧ p.client ≤ 9223372036854775807) : Calls Tryz.prog 11 #[.agg (mcc p l)] w fun e w' => e = .returned (.bool (snd p)) ∧ Kept [] w w' := by
  by_cases hb : p.kind < 1 ∨ 8 < p.kind ∨ p.shard < 0 ∨ 64 ≤ p.shard
  · exact rsound_0 w p l hb
  · have h0 : 0 ≤ p.shard := by omega
    have h1 : p.shard < 64 := by omega
    have hk : p.kind = 1 ∨ p.kind = 2 ∨ p.kind = 3 ∨ (4 ≤ p.kind ∧ p.kind ≤ 8) := by omega
    rcases hk with hk | hk | hk | ⟨hk, hk8⟩
    · exact rsound_1 w p l hk h0 h1 hc.1 hc.2
    · exact rsound_2 w p l hk h0 h1 hc.1 hc.2
    · exact rsound_3 w p l hk h0 h1 hc.1 hc.2
    · exact rsound_4 w p l hk hk8 h0 h1 hc.1 hc.2
end Go.Proofs.YtfhfkpgfnlmfhaaGreatDoor
