/- Texts laid one behind the other: PVe PLd FA FB FC FD. -/
import Derived.Test.YtocmgfmfalaebaaPkBA
import Derived.Test.YtocmgfmfalaebaaPkBB
import Derived.Test.YtocmgfmfalaebaaPkY
import Derived.Test.YtocmgfmfalaebaaPkT
import Derived.Test.YtocmgfmfalaebaaPkU
/- The document's writer: Close. -/
namespace Go.Proofs.Ytocmgfmfalaebaa
open Go.RowKit

end Go.Proofs.Ytocmgfmfalaebaa

/- Bytes that are lent, looked at again, and written over. -/
namespace Go.Proofs.Ytocmgfmfalaebaa
open Go.RowKit

theorem sees2 (w : World) (x y : Nat) : Sees (w.alloc (.cells #[.int .u8 (x : Int), .int .u8 (y : Int)] 5)) (.slice (some ⟨w.heap.size, 0, none⟩) 2 2) [x, y] := by
  refine Or.inr ⟨w.heap.size, 0, 2, rfl, by simp, by unfold maxLen; omega, by simp, fun j hj => ?_⟩
  rw [(Blk.new w _ _).cell]
  match j, hj with
  | 0, _ => rfl
  | 1, _ => rfl

set_option maxRecDepth 100000 in
set_option maxHeartbeats 1000000 in
theorem lent_any {w : World} {x : Value} {P : List Nat} (h : Wide w x P) (hl : P.length ≤ 140737488355326) :
    Calls Try.prog 18 #[x] w fun e w' => ∃ g cap, e = .returned (.slice (some ⟨g, 0, none⟩) P.length cap) ∧ P.length + 2 ≤ cap ∧ w'.ownsRow w.heap.size 5 1 (.slice (some ⟨g, 0, none⟩) (P.length + 2) cap) (P.length + 2) (u8s (P ++ [201, 77])) ∧ Kept [] w w' := by
  obtain ⟨i0, hi, hz0, hz1, hz2⟩ := info_parts Try.info5
  have HP := hide h
  obtain ⟨pa, pc, rfl⟩ := wide_len h
  clear h
  obtain ⟨n, hn⟩ : ∃ n, n = P.length := ⟨_, rfl⟩
  rw [← hn] at hl HP ⊢
  have HN := hide hn
  clear hn
  go_enter Try.func18, Try.ntmps18
  go_wp2_with (at_builtin; refine wpList_append_wide _ rfl _ _ 22 rfl w.heap.size 5 i0 (.int .u8 0) Try.underlying22 hi hz0 hz1 hz2 rfl _ [] rfl (World.ownsRow_made w #[] 0 (Nat.le_refl _) (Nat.zero_le _) rfl) _ P rfl ((unhide HP).kept ((Kept.refl [] w).alloc _)) ?c1 ?c2 ?_)
  case c1 => have := unhide HN; simp; omega
  case c2 => simp
  intro v1 w1 hown hg hat
  have hk1 : Kept [] w w1 := ((Kept.refl [] w).alloc _).grown hg (fun k hk => by simp [Value.ownBlock] at hk; right; omega)
  rw [← unhide HN] at hown
  obtain ⟨a1, c1, hv⟩ := own_len hown
  subst hv
  have HO1 := hide hown
  have HK1 := hide hk1
  clear hown hg hat hk1
  have hs1 : w.heap.size ≤ w1.heap.size := (unhide HK1).size
  go_wp2_with (at_builtin; refine wpList_append_sees _ rfl _ _ 22 rfl w.heap.size 5 i0 (.int .u8 0) Try.underlying22 hi hz0 hz1 hz2 rfl _ P rfl (by rw [← unhide HN]; exact (unhide HO1).alloc _) _ [201, 77] rfl (sees2 w1 201 77) ?c3 ?c4 ?_)
  case c3 => have := unhide HN; simp; omega
  case c4 => simp; omega
  intro v2 w2 hown hg hat
  have hk2 : Kept [] w w2 := ((unhide HK1).alloc _).grown hg (fun k hk => by have := ((unhide HO1).lt k hk).1; right; exact this)
  rw [← unhide HN] at hown
  obtain ⟨g, c, hv, -, hgl, hgc, hcm⟩ : ∃ g cap, v2 = .slice (some ⟨g, 0, none⟩) (n + 2) cap ∧ w.heap.size ≤ g ∧ g < w2.heap.size ∧ n + 2 ≤ cap ∧ cap ≤ maxLen := by
    rcases hown.2 with ⟨_, h2⟩ | ⟨g, cap, cur, hv, hb, hg, hc, hm, _⟩
    · omega
    · exact ⟨g, cap, hv, hb, (Array.getElem?_eq_some_iff.1 hg).1, hc, hm⟩
  subst hv
  have HO2 := hide hown
  have HK2 := hide hk2
  have hnc : n ≤ c := by omega
  have hcm' : c ≤ 9223372036854775807 := by unfold maxLen at hcm; omega
  clear hown hg hat hk2 hcm
  go_wp2
  go_ret
  exact ⟨g, c, rfl, hgc, unhide HO2, unhide HK2⟩

set_option maxRecDepth 100000 in
set_option maxHeartbeats 1000000 in
theorem kept_yes {w : World} {g cap n : Nat} {y : Value} {P : List Nat} (hn : n = P.length) (hl : n ≤ 140737488355326) (hc : n + 2 ≤ cap) (h1 : Sees w (.slice (some ⟨g, 0, none⟩) n cap) P) (h2 : Wide w y P) (q1 : w.cell? ⟨g, n, none⟩ = some (.int .u8 201)) (q2 : w.cell? ⟨g, n + 1, none⟩ = some (.int .u8 77)) :
    Calls Try.prog 20 #[.slice (some ⟨g, 0, none⟩) n cap, y] w fun e w' => e = .returned (.bool true) ∧ ∃ m, w' = w.drewN m := by
  have HS := hide (same_yesE h1 h2 (by omega))
  obtain ⟨ya, yc, rfl⟩ := wide_len h2
  have HN := hide hn
  rw [← hn] at HS ⊢
  clear h1 h2 hn
  have hc1 : n ≤ cap := by omega
  have hc2 : n + 1 < n + 2 := by omega
  have hc3 : n < n + 2 := by omega
  go_enter Try.func20, Try.ntmps20
  go_wp2_with (first | (go_at_call 16; refine (unhide HS).mono ?_; rintro e w' ⟨rfl, m, rfl⟩))
  go_ret
  exact ⟨rfl, m, rfl⟩

/-- Bytes turned. -/
def turn (P : List Nat) : List Nat := P.map fun x => 255 - x
theorem turn_len (P : List Nat) : (turn P).length = P.length := by simp [turn]
theorem xor255 (x : Nat) (h : x < 256) : bits .xor .u8 (x : Int) 255 = ((255 - x : Nat) : Int) := by
  have : ∀ m : Nat, m < 256 → bits .xor .u8 (m : Int) 255 = ((255 - m : Nat) : Int) := by decide +kernel
  exact this x h

end Go.Proofs.Ytocmgfmfalaebaa

/- The document's Sound of a record. -/
namespace Go.Proofs.Ytocmgfmfalaebaa
open Go.RowKit

def btw (t : Bool) (n lo hi : Int) : Bool := if t = true then decide (lo ≤ n ∧ n ≤ hi) else decide (n = 0)
set_option maxRecDepth 100000 in
set_option maxHeartbeats 800000 in
theorem between_any (w : World) (t : Bool) (n lo hi : Int) : Calls Try.prog 24 #[.bool t, .int .i64 n, .int .i64 lo, .int .i64 hi] w fun e w' => e = .returned (.bool (btw t n lo hi)) ∧ Kept [] w w' := by
  cases t
  all_goals
    go_enter Try.func24, Try.ntmps24
    go_wp2_with fail
  all_goals
    go_ret
    refine ⟨ret_bool ?_, Kept.refl _ _⟩
    rw [Bool.eq_iff_iff]
    simp [btw] at *
    try omega
def rgt2 (k : Int) (kl vl : Nat) (rev : Int) : Bool := decide (((k = 1 ∨ k = 3) ∧ 1 ≤ kl ∧ kl ≤ 64 ∧ vl = 0 ∧ rev = 0) ∨ (k = 2 ∧ 1 ≤ kl ∧ kl ≤ 64 ∧ vl ≤ 256 ∧ rev = 0) ∨ (k = 4 ∧ 1 ≤ kl ∧ kl ≤ 64 ∧ vl ≤ 256 ∧ 0 ≤ rev ∧ rev ≤ 1099511627776) ∨ (k = 5 ∧ kl ≤ 65 ∧ vl = 0 ∧ rev = 0))
set_option maxRecDepth 100000 in
set_option maxHeartbeats 1600000 in
theorem rright_any (w : World) (k : Int) (ka : Option Addr) (kl kc : Nat) (va : Option Addr) (vl vc : Nat) (rev : Int) : Calls Try.prog 25 #[ov k ka kl kc va vl vc rev] w fun e w' => e = .returned (.bool (rgt2 k kl vl rev)) ∧ Kept [] w w' := by
  unfold ov at *
  go_enter Try.func25, Try.ntmps25
  go_wp2_with fail
  refine world_at (R := fun W => Kept [] w W ∧ Blk W w.heap.size #[.int .i64 k, .slice ka kl kc, .slice va vl vc, .int .i64 rev] 24) ⟨(Kept.refl _ _).alloc _, Blk.new _ _ _⟩ ?_
  rintro W ⟨hkW, hbW⟩
  have c0 := hbW.cell 0
  have c1 := hbW.cell 1
  have c2 := hbW.cell 2
  have c3 := hbW.cell 3
  simp at c0 c1 c2 c3
  go_region_held3 (fun w' => w'.cell? ⟨w.heap.size, 0, none⟩ = some (.int .i64 k) ∧ w'.cell? ⟨w.heap.size, 1, none⟩ = some (.slice ka kl kc) ∧ w'.cell? ⟨w.heap.size, 2, none⟩ = some (.slice va vl vc) ∧ w'.cell? ⟨w.heap.size, 3, none⟩ = some (.int .i64 rev)) (go_keep) (fail)
  go_wp2_with fail
  all_goals
    go_ret
    refine ⟨ret_bool ?_, by first | exact hkW | exact hkW.drew⟩
    rw [Bool.eq_iff_iff]
    simp [rgt2] at *
    try omega
set_option maxRecDepth 100000 in
set_option maxHeartbeats 800000 in
theorem rwrites_any (w : World) (k : Int) (ka : Option Addr) (kl kc : Nat) (va : Option Addr) (vl vc : Nat) (rev : Int) : Calls Try.prog 26 #[ov k ka kl kc va vl vc rev] w fun e w' => e = .returned (.bool (decide (k = 2 ∨ k = 3 ∨ k = 4))) ∧ Kept [] w w' := by
  unfold ov at *
  go_enter Try.func26, Try.ntmps26
  go_wp2_with fail
  all_goals
    go_ret
    refine ⟨ret_bool ?_, (Kept.refl _ _).alloc _⟩
    rw [Bool.eq_iff_iff]
    simp at *
    try omega
end Go.Proofs.Ytocmgfmfalaebaa

/- The document's Sound. -/
namespace Go.Proofs.Ytocmgfmfalaebaa
open Go.RowKit
set_option linter.unusedSimpArgs false

theorem btw_iff (t : Bool) (n lo hi : Int) : btw t n lo hi = true ↔ (t = true ∧ lo ≤ n ∧ n ≤ hi) ∨ (t = false ∧ n = 0) := by
  unfold btw
  cases t <;> simp
theorem btw_not (t : Bool) (n lo hi : Int) : btw t n lo hi = false ↔ (t = true ∧ (n < lo ∨ hi < n)) ∨ (t = false ∧ n ≠ 0) := by
  unfold btw
  cases t <;> simp
  omega
/-- Sound, in numbers. -/
theorem snd_1 {p : Pl} (h : p.kind = 1) : snd p = true ↔ (0 ≤ p.shard ∧ p.shard ≤ 63) ∧ (0 ≤ p.client ∧ p.client ≤ 15) ∧ (1 ≤ p.seq ∧ p.seq ≤ 1073741824) ∧ ((1 ≤ p.key.length ∧ p.key.length ≤ 64) ∧ ((p.okind = 3 ∧ p.val.length = 0 ∧ p.rev = 0) ∨ (p.okind = 2 ∧ p.val.length ≤ 256 ∧ p.rev = 0) ∨ (p.okind = 4 ∧ p.val.length ≤ 256 ∧ 0 ≤ p.rev ∧ p.rev ≤ 1099511627776))) ∧ p.epoch = 0 ∧ p.peer = 0 ∧ p.copy.length = 0 := by
  rw [snd_iff]
  unfold isW isO isI isS noOp
  simp [wrt_iff, ← List.length_eq_zero_iff, h]
theorem snd_2 {p : Pl} (h : p.kind = 2) : snd p = true ↔ (0 ≤ p.shard ∧ p.shard ≤ 63) ∧ (0 ≤ p.peer ∧ p.peer ≤ 7) ∧ p.epoch = 0 ∧ p.client = 0 ∧ p.seq = 0 ∧ (p.okind = 0 ∧ p.key.length = 0 ∧ p.val.length = 0 ∧ p.rev = 0) ∧ p.copy.length = 0 := by
  rw [snd_iff]
  unfold isW isO isI isS noOp
  simp [← List.length_eq_zero_iff, h]
theorem snd_4 {p : Pl} (h : p.kind = 4) : snd p = true ↔ (0 ≤ p.shard ∧ p.shard ≤ 63) ∧ (1 ≤ p.epoch ∧ p.epoch ≤ 1073741824) ∧ (0 ≤ p.peer ∧ p.peer ≤ 7) ∧ p.copy.length ≤ 262144 ∧ p.client = 0 ∧ p.seq = 0 ∧ (p.okind = 0 ∧ p.key.length = 0 ∧ p.val.length = 0 ∧ p.rev = 0) := by
  rw [snd_iff]
  unfold isW isO isI isS noOp
  simp [← List.length_eq_zero_iff, h]
theorem snd_S {p : Pl} (h : p.kind = 3 ∨ (5 ≤ p.kind ∧ p.kind ≤ 8)) : snd p = true ↔ (0 ≤ p.shard ∧ p.shard ≤ 63) ∧ p.epoch = 0 ∧ p.peer = 0 ∧ p.client = 0 ∧ p.seq = 0 ∧ (p.okind = 0 ∧ p.key.length = 0 ∧ p.val.length = 0 ∧ p.rev = 0) ∧ p.copy.length = 0 := by
  have h1 : ¬ p.kind = 1 := by omega
  have h2 : ¬ p.kind = 2 := by omega
  have h4 : ¬ p.kind = 4 := by omega
  rw [snd_iff]
  unfold isW isO isI isS noOp
  simp [← List.length_eq_zero_iff, h, h1, h2, h4]
/-- What the walk leaves of a record's box. -/
structure SB (w : World) (b : Nat) (p : Pl) (l : Lo) (W : World) : Prop where
  blk : Blk W b (rcc p l) 26
  kept : Kept [] w W
theorem SB.go {w : World} {b : Nat} {p : Pl} {l : Lo} {W Y : World} (h : SB w b p l W) (k : Kept [] W Y) : SB w b p l Y := ⟨h.blk.kept k (by simp), h.kept.step k⟩

set_option maxRecDepth 100000 in
set_option maxHeartbeats 1600000 in
theorem rsound_1 (w : World) (p : Pl) (l : Lo) (hk : p.kind = 1) (ho3 : 0 ≤ p.shard) (ho4 : p.shard < 64) : Calls Try.prog 10 #[rv p l] w fun e w' => e = .returned (.bool (snd p)) ∧ Kept [] w w' := by
  have HB := hide (fun W t n lo hi => between_any W t n lo hi)
  have HR := hide (fun W => rright_any W p.okind l.ka p.key.length l.kc l.va p.val.length l.vc p.rev)
  have HW := hide (fun W => rwrites_any W p.okind l.ka p.key.length l.kc l.va p.val.length l.vc p.rev)
  have HI := hide (snd_1 hk)
  have HS : Hid (∀ W, W = w.alloc (.cells (rcc p l) 26) → SB w w.heap.size p l W) := fun W e => by subst e; exact ⟨Blk.new _ _ _, (Kept.refl _ _).alloc _⟩
  unfold rv ov at *
  rw [show rcc p l = #[.int .i64 p.kind, .int .i64 p.shard, .int .i64 p.epoch, .int .i64 p.peer, .int .i64 p.client, .int .i64 p.seq, .int .i64 p.okind, .slice l.ka p.key.length l.kc, .slice l.va p.val.length l.vc, .int .i64 p.rev, .slice l.ca p.copy.length l.cc] from rfl] at *
  go_enter Try.func10, Try.ntmps10
  go_wp2_with fail
  refine world_at (R := fun W => SB w w.heap.size p l W) (unhide HS _ (by first | rfl | rw [hk])) ?_
  intro W hS
  obtain ⟨c0, c1, c2, c3, c4, c5, c6, c7, c8, c9, c10⟩ := box11 hS.blk
  rw [hk] at c0
  go_region_held3 (fun w' => w'.cell? ⟨w.heap.size, 0, none⟩ = some (.int .i64 1)) (go_keep) (fail)
  clear c0 c1 c2 c3 c4 c5 c6 c7 c8 c9 c10
  refine world_at (R := fun W => SB w w.heap.size p l W) (hS.go (Kept.refl [] W).drew) ?_
  clear hS
  intro W hS
  obtain ⟨c0, c1, c2, c3, c4, c5, c6, c7, c8, c9, c10⟩ := box11 hS.blk
  rw [hk] at c0
  replace HS := hide hS
  clear hS
  go_wp2_with (first
    | (go_at_call 24; refine (unhide HB _ _ _ _ _).mono ?_; rintro e w3 ⟨rfl, k3⟩; replace HS := hide ((unhide HS).go k3); clear k3 c0 c1 c2 c3 c4 c5 c6 c7 c8 c9 c10; obtain ⟨c0, c1, c2, c3, c4, c5, c6, c7, c8, c9, c10⟩ := box11 (unhide HS).blk)
    | (go_at_call 25; refine (unhide HR _).mono ?_; rintro e w3 ⟨rfl, k3⟩; replace HS := hide ((unhide HS).go k3); clear k3 c0 c1 c2 c3 c4 c5 c6 c7 c8 c9 c10; obtain ⟨c0, c1, c2, c3, c4, c5, c6, c7, c8, c9, c10⟩ := box11 (unhide HS).blk)
    | (go_at_call 26; refine (unhide HW _).mono ?_; rintro e w3 ⟨rfl, k3⟩; replace HS := hide ((unhide HS).go k3); clear k3 c0 c1 c2 c3 c4 c5 c6 c7 c8 c9 c10; obtain ⟨c0, c1, c2, c3, c4, c5, c6, c7, c8, c9, c10⟩ := box11 (unhide HS).blk))
  all_goals
    go_ret
    refine ⟨ret_bool ?_, (unhide HS).kept⟩
    rw [Bool.eq_iff_iff, unhide HI]
    clear HS HB HR HW HI c0 c1 c2 c3 c4 c5 c6 c7 c8 c9 c10
    try simp only [← List.length_eq_zero_iff] at *
    generalize p.shard = q1 at *
    generalize p.epoch = q2 at *
    generalize p.peer = q3 at *
    generalize p.client = q4 at *
    generalize p.seq = q5 at *
    generalize p.okind = q6 at *
    generalize p.key.length = q7 at *
    generalize p.val.length = q8 at *
    generalize p.rev = q9 at *
    generalize p.copy.length = q10 at *
    try simp only [Bool.not_eq_true', Bool.not_eq_false', btw_iff, btw_not, rgt2, decide_eq_true_eq, decide_eq_false_iff_not, beq_iff_eq, beq_eq_false_iff_ne, Bool.and_eq_true, Bool.or_eq_true, Bool.false_eq_true, Bool.true_eq_false, true_and, false_and, or_false, false_or, iff_true, iff_false, true_iff, false_iff, and_true] at *
    first | omega | (simp at *; omega) | trace_state
set_option maxRecDepth 100000 in
set_option maxHeartbeats 1600000 in
theorem rsound_2 (w : World) (p : Pl) (l : Lo) (hk : p.kind = 2) (ho3 : 0 ≤ p.shard) (ho4 : p.shard < 64) : Calls Try.prog 10 #[rv p l] w fun e w' => e = .returned (.bool (snd p)) ∧ Kept [] w w' := by
  have HB := hide (fun W t n lo hi => between_any W t n lo hi)
  have HR := hide (fun W => rright_any W p.okind l.ka p.key.length l.kc l.va p.val.length l.vc p.rev)
  have HW := hide (fun W => rwrites_any W p.okind l.ka p.key.length l.kc l.va p.val.length l.vc p.rev)
  have HI := hide (snd_2 hk)
  have HS : Hid (∀ W, W = w.alloc (.cells (rcc p l) 26) → SB w w.heap.size p l W) := fun W e => by subst e; exact ⟨Blk.new _ _ _, (Kept.refl _ _).alloc _⟩
  unfold rv ov at *
  rw [show rcc p l = #[.int .i64 p.kind, .int .i64 p.shard, .int .i64 p.epoch, .int .i64 p.peer, .int .i64 p.client, .int .i64 p.seq, .int .i64 p.okind, .slice l.ka p.key.length l.kc, .slice l.va p.val.length l.vc, .int .i64 p.rev, .slice l.ca p.copy.length l.cc] from rfl] at *
  go_enter Try.func10, Try.ntmps10
  go_wp2_with fail
  refine world_at (R := fun W => SB w w.heap.size p l W) (unhide HS _ (by first | rfl | rw [hk])) ?_
  intro W hS
  obtain ⟨c0, c1, c2, c3, c4, c5, c6, c7, c8, c9, c10⟩ := box11 hS.blk
  rw [hk] at c0
  go_region_held3 (fun w' => w'.cell? ⟨w.heap.size, 0, none⟩ = some (.int .i64 2)) (go_keep) (fail)
  clear c0 c1 c2 c3 c4 c5 c6 c7 c8 c9 c10
  refine world_at (R := fun W => SB w w.heap.size p l W) (hS.go (Kept.refl [] W).drew) ?_
  clear hS
  intro W hS
  obtain ⟨c0, c1, c2, c3, c4, c5, c6, c7, c8, c9, c10⟩ := box11 hS.blk
  rw [hk] at c0
  replace HS := hide hS
  clear hS
  go_wp2_with (first
    | (go_at_call 24; refine (unhide HB _ _ _ _ _).mono ?_; rintro e w3 ⟨rfl, k3⟩; replace HS := hide ((unhide HS).go k3); clear k3 c0 c1 c2 c3 c4 c5 c6 c7 c8 c9 c10; obtain ⟨c0, c1, c2, c3, c4, c5, c6, c7, c8, c9, c10⟩ := box11 (unhide HS).blk)
    | (go_at_call 25; refine (unhide HR _).mono ?_; rintro e w3 ⟨rfl, k3⟩; replace HS := hide ((unhide HS).go k3); clear k3 c0 c1 c2 c3 c4 c5 c6 c7 c8 c9 c10; obtain ⟨c0, c1, c2, c3, c4, c5, c6, c7, c8, c9, c10⟩ := box11 (unhide HS).blk)
    | (go_at_call 26; refine (unhide HW _).mono ?_; rintro e w3 ⟨rfl, k3⟩; replace HS := hide ((unhide HS).go k3); clear k3 c0 c1 c2 c3 c4 c5 c6 c7 c8 c9 c10; obtain ⟨c0, c1, c2, c3, c4, c5, c6, c7, c8, c9, c10⟩ := box11 (unhide HS).blk))
  all_goals
    go_ret
    refine ⟨ret_bool ?_, (unhide HS).kept⟩
    rw [Bool.eq_iff_iff, unhide HI]
    clear HS HB HR HW HI c0 c1 c2 c3 c4 c5 c6 c7 c8 c9 c10
    try simp only [← List.length_eq_zero_iff] at *
    generalize p.shard = q1 at *
    generalize p.epoch = q2 at *
    generalize p.peer = q3 at *
    generalize p.client = q4 at *
    generalize p.seq = q5 at *
    generalize p.okind = q6 at *
    generalize p.key.length = q7 at *
    generalize p.val.length = q8 at *
    generalize p.rev = q9 at *
    generalize p.copy.length = q10 at *
    try simp only [Bool.not_eq_true', Bool.not_eq_false', btw_iff, btw_not, rgt2, decide_eq_true_eq, decide_eq_false_iff_not, beq_iff_eq, beq_eq_false_iff_ne, Bool.and_eq_true, Bool.or_eq_true, Bool.false_eq_true, Bool.true_eq_false, true_and, false_and, or_false, false_or, iff_true, iff_false, true_iff, false_iff, and_true] at *
    first | omega | (simp at *; omega) | trace_state
set_option maxRecDepth 100000 in
set_option maxHeartbeats 1600000 in
theorem rsound_4 (w : World) (p : Pl) (l : Lo) (hk : p.kind = 4) (ho3 : 0 ≤ p.shard) (ho4 : p.shard < 64) : Calls Try.prog 10 #[rv p l] w fun e w' => e = .returned (.bool (snd p)) ∧ Kept [] w w' := by
  have HB := hide (fun W t n lo hi => between_any W t n lo hi)
  have HR := hide (fun W => rright_any W p.okind l.ka p.key.length l.kc l.va p.val.length l.vc p.rev)
  have HW := hide (fun W => rwrites_any W p.okind l.ka p.key.length l.kc l.va p.val.length l.vc p.rev)
  have HI := hide (snd_4 hk)
  have HS : Hid (∀ W, W = w.alloc (.cells (rcc p l) 26) → SB w w.heap.size p l W) := fun W e => by subst e; exact ⟨Blk.new _ _ _, (Kept.refl _ _).alloc _⟩
  unfold rv ov at *
  rw [show rcc p l = #[.int .i64 p.kind, .int .i64 p.shard, .int .i64 p.epoch, .int .i64 p.peer, .int .i64 p.client, .int .i64 p.seq, .int .i64 p.okind, .slice l.ka p.key.length l.kc, .slice l.va p.val.length l.vc, .int .i64 p.rev, .slice l.ca p.copy.length l.cc] from rfl] at *
  go_enter Try.func10, Try.ntmps10
  go_wp2_with fail
  refine world_at (R := fun W => SB w w.heap.size p l W) (unhide HS _ (by first | rfl | rw [hk])) ?_
  intro W hS
  obtain ⟨c0, c1, c2, c3, c4, c5, c6, c7, c8, c9, c10⟩ := box11 hS.blk
  rw [hk] at c0
  go_region_held3 (fun w' => w'.cell? ⟨w.heap.size, 0, none⟩ = some (.int .i64 4)) (go_keep) (fail)
  clear c0 c1 c2 c3 c4 c5 c6 c7 c8 c9 c10
  refine world_at (R := fun W => SB w w.heap.size p l W) (hS.go (Kept.refl [] W).drew) ?_
  clear hS
  intro W hS
  obtain ⟨c0, c1, c2, c3, c4, c5, c6, c7, c8, c9, c10⟩ := box11 hS.blk
  rw [hk] at c0
  replace HS := hide hS
  clear hS
  go_wp2_with (first
    | (go_at_call 24; refine (unhide HB _ _ _ _ _).mono ?_; rintro e w3 ⟨rfl, k3⟩; replace HS := hide ((unhide HS).go k3); clear k3 c0 c1 c2 c3 c4 c5 c6 c7 c8 c9 c10; obtain ⟨c0, c1, c2, c3, c4, c5, c6, c7, c8, c9, c10⟩ := box11 (unhide HS).blk)
    | (go_at_call 25; refine (unhide HR _).mono ?_; rintro e w3 ⟨rfl, k3⟩; replace HS := hide ((unhide HS).go k3); clear k3 c0 c1 c2 c3 c4 c5 c6 c7 c8 c9 c10; obtain ⟨c0, c1, c2, c3, c4, c5, c6, c7, c8, c9, c10⟩ := box11 (unhide HS).blk)
    | (go_at_call 26; refine (unhide HW _).mono ?_; rintro e w3 ⟨rfl, k3⟩; replace HS := hide ((unhide HS).go k3); clear k3 c0 c1 c2 c3 c4 c5 c6 c7 c8 c9 c10; obtain ⟨c0, c1, c2, c3, c4, c5, c6, c7, c8, c9, c10⟩ := box11 (unhide HS).blk))
  all_goals
    go_ret
    refine ⟨ret_bool ?_, (unhide HS).kept⟩
    rw [Bool.eq_iff_iff, unhide HI]
    clear HS HB HR HW HI c0 c1 c2 c3 c4 c5 c6 c7 c8 c9 c10
    try simp only [← List.length_eq_zero_iff] at *
    generalize p.shard = q1 at *
    generalize p.epoch = q2 at *
    generalize p.peer = q3 at *
    generalize p.client = q4 at *
    generalize p.seq = q5 at *
    generalize p.okind = q6 at *
    generalize p.key.length = q7 at *
    generalize p.val.length = q8 at *
    generalize p.rev = q9 at *
    generalize p.copy.length = q10 at *
    try simp only [Bool.not_eq_true', Bool.not_eq_false', btw_iff, btw_not, rgt2, decide_eq_true_eq, decide_eq_false_iff_not, beq_iff_eq, beq_eq_false_iff_ne, Bool.and_eq_true, Bool.or_eq_true, Bool.false_eq_true, Bool.true_eq_false, true_and, false_and, or_false, false_or, iff_true, iff_false, true_iff, false_iff, and_true] at *
    first | omega | (simp at *; omega) | trace_state
set_option maxRecDepth 100000 in
set_option maxHeartbeats 1600000 in
theorem rsound_S (w : World) (p : Pl) (l : Lo) (hk : p.kind = 3 ∨ (5 ≤ p.kind ∧ p.kind ≤ 8)) (ho3 : 0 ≤ p.shard) (ho4 : p.shard < 64) : Calls Try.prog 10 #[rv p l] w fun e w' => e = .returned (.bool (snd p)) ∧ Kept [] w w' := by
  have HB := hide (fun W t n lo hi => between_any W t n lo hi)
  have HR := hide (fun W => rright_any W p.okind l.ka p.key.length l.kc l.va p.val.length l.vc p.rev)
  have HW := hide (fun W => rwrites_any W p.okind l.ka p.key.length l.kc l.va p.val.length l.vc p.rev)
  have HI := hide (snd_S hk)
  have HS : Hid (∀ W, W = w.alloc (.cells (rcc p l) 26) → SB w w.heap.size p l W) := fun W e => by subst e; exact ⟨Blk.new _ _ _, (Kept.refl _ _).alloc _⟩
  unfold rv ov at *
  rw [show rcc p l = #[.int .i64 p.kind, .int .i64 p.shard, .int .i64 p.epoch, .int .i64 p.peer, .int .i64 p.client, .int .i64 p.seq, .int .i64 p.okind, .slice l.ka p.key.length l.kc, .slice l.va p.val.length l.vc, .int .i64 p.rev, .slice l.ca p.copy.length l.cc] from rfl] at *
  have h1 : ¬ p.kind = 1 := by omega
  have h2 : ¬ p.kind = 2 := by omega
  have h4 : ¬ p.kind = 4 := by omega
  have h5 : 1 ≤ p.kind := by omega
  have h8 : p.kind ≤ 8 := by omega
  clear hk
  go_enter Try.func10, Try.ntmps10
  go_wp2_with fail
  refine world_at (R := fun W => SB w w.heap.size p l W) (unhide HS _ (by first | rfl | rw [hk])) ?_
  intro W hS
  obtain ⟨c0, c1, c2, c3, c4, c5, c6, c7, c8, c9, c10⟩ := box11 hS.blk
  go_region_held3 (fun w' => w'.cell? ⟨w.heap.size, 0, none⟩ = some (.int .i64 p.kind)) (go_keep) (fail)
  clear c0 c1 c2 c3 c4 c5 c6 c7 c8 c9 c10
  refine world_at (R := fun W => SB w w.heap.size p l W) (hS.go (Kept.refl [] W).drew) ?_
  clear hS
  intro W hS
  obtain ⟨c0, c1, c2, c3, c4, c5, c6, c7, c8, c9, c10⟩ := box11 hS.blk
  replace HS := hide hS
  clear hS
  go_wp2_with (first
    | (go_at_call 24; refine (unhide HB _ _ _ _ _).mono ?_; rintro e w3 ⟨rfl, k3⟩; replace HS := hide ((unhide HS).go k3); clear k3 c0 c1 c2 c3 c4 c5 c6 c7 c8 c9 c10; obtain ⟨c0, c1, c2, c3, c4, c5, c6, c7, c8, c9, c10⟩ := box11 (unhide HS).blk)
    | (go_at_call 25; refine (unhide HR _).mono ?_; rintro e w3 ⟨rfl, k3⟩; replace HS := hide ((unhide HS).go k3); clear k3 c0 c1 c2 c3 c4 c5 c6 c7 c8 c9 c10; obtain ⟨c0, c1, c2, c3, c4, c5, c6, c7, c8, c9, c10⟩ := box11 (unhide HS).blk)
    | (go_at_call 26; refine (unhide HW _).mono ?_; rintro e w3 ⟨rfl, k3⟩; replace HS := hide ((unhide HS).go k3); clear k3 c0 c1 c2 c3 c4 c5 c6 c7 c8 c9 c10; obtain ⟨c0, c1, c2, c3, c4, c5, c6, c7, c8, c9, c10⟩ := box11 (unhide HS).blk))
  all_goals
    go_ret
    refine ⟨ret_bool ?_, (unhide HS).kept⟩
    rw [Bool.eq_iff_iff, unhide HI]
    clear HS HB HR HW HI c0 c1 c2 c3 c4 c5 c6 c7 c8 c9 c10
    try simp only [← List.length_eq_zero_iff] at *
    generalize p.kind = kd at *
    generalize p.shard = q1 at *
    generalize p.epoch = q2 at *
    generalize p.peer = q3 at *
    generalize p.client = q4 at *
    generalize p.seq = q5 at *
    generalize p.okind = q6 at *
    generalize p.key.length = q7 at *
    generalize p.val.length = q8 at *
    generalize p.rev = q9 at *
    generalize p.copy.length = q10 at *
    try simp only [Bool.not_eq_true', Bool.not_eq_false', btw_iff, btw_not, rgt2, decide_eq_true_eq, decide_eq_false_iff_not, beq_iff_eq, beq_eq_false_iff_ne, Bool.and_eq_true, Bool.or_eq_true, Bool.false_eq_true, Bool.true_eq_false, true_and, false_and, or_false, false_or, iff_true, iff_false, true_iff, false_iff, and_true] at *
    first | omega | (simp at *; omega) | trace_state
set_option maxRecDepth 100000 in
set_option maxHeartbeats 1600000 in
theorem rsound_out (w : World) (p : Pl) (l : Lo) (hout : ¬ (1 ≤ p.kind ∧ p.kind ≤ 8 ∧ 0 ≤ p.shard ∧ p.shard < 64)) : Calls Try.prog 10 #[rv p l] w fun e w' => e = .returned (.bool (snd p)) ∧ Kept [] w w' := by
  have hf : snd p = false := by
    cases h : snd p with
    | false => rfl
    | true =>
      exfalso
      rcases (snd_iff p).1 h with g | g | g | g
      · obtain ⟨g1, g2, -⟩ := g; omega
      · obtain ⟨g1, g2, -⟩ := g; omega
      · obtain ⟨g1, g2, -⟩ := g; omega
      · obtain ⟨g1, g2, -⟩ := g; omega
  rw [hf]
  unfold rv rcc at *
  go_enter Try.func10, Try.ntmps10
  go_wp2_with fail
  all_goals first
    | (exfalso; omega)
    | (go_ret
       exact ⟨rfl, (Kept.refl _ _).alloc _⟩)
theorem rsound_any (w : World) (p : Pl) (l : Lo) : Calls Try.prog 10 #[rv p l] w fun e w' => e = .returned (.bool (snd p)) ∧ Kept [] w w' := by
  by_cases h : 1 ≤ p.kind ∧ p.kind ≤ 8 ∧ 0 ≤ p.shard ∧ p.shard < 64
  · obtain ⟨h1, h2, h3, h4⟩ := h
    rcases kind_cases p.kind with g | g | g | g | g
    · exact rsound_1 w p l g h3 h4
    · exact rsound_2 w p l g h3 h4
    · exact rsound_4 w p l g h3 h4
    · exact rsound_S w p l g h3 h4
    · exact absurd g (by omega)
  · exact rsound_out w p l h
end Go.Proofs.Ytocmgfmfalaebaa

/- The document's Form. -/
namespace Go.Proofs.Ytocmgfmfalaebaa
open Go.RowKit

theorem own_down {w : World} {base base' : Nat} {e : TypeId} {sz : Nat} {v : Value} {n : Nat} {xs : List Value} (h : w.ownsRow base e sz v n xs) (hb : base' ≤ base) : w.ownsRow base' e sz v n xs := by
  refine ⟨h.1, ?_⟩
  rcases h.2 with h2 | ⟨g, cap, cur, e1, hg, r⟩
  · exact Or.inl h2
  · exact Or.inr ⟨g, cap, cur, e1, Nat.le_trans hb hg, r⟩
/-- The record's box b, and the document's writer c holding s. -/
structure FS (w : World) (b c : Nat) (p : Pl) (l : Lo) (s : List Nat) (W : World) : Prop where
  blk : Blk W b (rcc p l) 26
  bw : b = w.heap.size
  wr : ∃ F, Vs W c F ⟨263144, s, [], 0⟩ ∧ ∀ x ∈ F, w.heap.size + 1 ≤ x
  kept : Kept [] w W
theorem FS.lay {w : World} {b c : Nat} {p : Pl} {l : Lo} {s : List Nat} {W W' : World} {F : List Nat} (h : FS w b c p l s W) (hF : ∀ x ∈ F, w.heap.size + 1 ≤ x) (ys : List Nat) (hl : s.length + ys.length ≤ 263144) (hp : VsP W c F (wLay ⟨263144, s, [], 0⟩ ys) W') : FS w b c p l (s ++ ys) W' := by
  obtain ⟨F', h1, h2, h3⟩ := hp
  have hlt := h.blk.lt
  have hb := h.bw
  refine ⟨h.blk.kept h2 (fun hm => by have := hF _ hm; omega), h.bw, ⟨F', ?_, fun x hx => ?_⟩, h.kept.trans h2 (fun x hx => Or.inr (by have := hF x hx; omega))⟩
  · simpa [wLay, hl] using h1
  · rcases h3 x hx with g | g
    · exact hF x g
    · omega
theorem FS.byte {w : World} {b c : Nat} {p : Pl} {l : Lo} {s : List Nat} {W : World} (h : FS w b c p l s W) (n : Int) (h0 : 0 ≤ n) (h1 : n < 256) (hl : s.length + 1 ≤ 263144) : Calls Try.prog 40 #[.pointer (some ⟨c, 0, none⟩), .int .i64 n] W fun e w' => e = .returned (.tuple #[]) ∧ FS w b c p l (s ++ [n.toNat]) w' := by
  obtain ⟨F, hv, hF⟩ := h.wr
  refine (vbyte_s hv n (by simp; omega)).mono ?_
  rintro e w' ⟨rfl, hp⟩
  rw [if_neg (by omega)] at hp
  exact ⟨rfl, h.lay hF [n.toNat] (by simpa using hl) hp⟩
theorem FS.num {w : World} {b c : Nat} {p : Pl} {l : Lo} {s : List Nat} {W : World} (h : FS w b c p l s W) (n : Nat) (hn : n < 18446744073709551616) (hl : s.length + (form n).length ≤ 263144) : Calls Try.prog 41 #[.pointer (some ⟨c, 0, none⟩), .int .u64 n] W fun e w' => e = .returned (.tuple #[]) ∧ FS w b c p l (s ++ form n) w' := by
  obtain ⟨F, hv, hF⟩ := h.wr
  refine (vnum_s hv n hn (by simp; omega)).mono ?_
  rintro e w' ⟨rfl, hp⟩
  exact ⟨rfl, h.lay hF _ hl hp⟩
theorem FS.text {w : World} {b c : Nat} {p : Pl} {l : Lo} {s : List Nat} {W : World} (h : FS w b c p l s W) {pv : Value} {ps : List Nat} (hw : Wide w pv ps) (hl : s.length + (form ps.length ++ ps).length ≤ 263144) : Calls Try.prog 42 #[.pointer (some ⟨c, 0, none⟩), pv] W fun e w' => e = .returned (.tuple #[]) ∧ FS w b c p l (s ++ (form ps.length ++ ps)) w' := by
  obtain ⟨F, hv, hF⟩ := h.wr
  have hfar : Far W pv ps F := (hw.far (F := F) (fun k hk hm => by have := hF k hm; omega)).keep h.kept
  refine (vtext_s hv pv ps hfar (by simp at hl ⊢; omega)).mono ?_
  rintro e w' ⟨rfl, hp⟩
  exact ⟨rfl, h.lay hF _ hl hp⟩
theorem FS.done {w : World} {b c : Nat} {p : Pl} {l : Lo} {s : List Nat} {W : World} (h : FS w b c p l s W) : Calls Try.prog 43 #[.pointer (some ⟨c, 0, none⟩)] W fun e w' => ∃ a cap, e = .returned (.tuple #[.slice a s.length cap, .int .i64 0]) ∧ w'.ownsRow w.heap.size 5 1 (.slice a s.length cap) s.length (u8s s) ∧ Kept [] w w' := by
  obtain ⟨F, hv, hF⟩ := h.wr
  refine (vdone_s hv).mono ?_
  rintro e w' ⟨⟨a, cap, rfl, ho⟩, k⟩
  exact ⟨a, cap, by simp [wDone], (by simpa [wDone] using own_down ho h.kept.size), h.kept.step k⟩
theorem FS.as {w : World} {b c : Nat} {p : Pl} {l : Lo} {s s' : List Nat} {W : World} (h : FS w b c p l s W) (e : s = s') : FS w b c p l s' W := e ▸ h
theorem FS.begin (w : World) (p : Pl) (l : Lo) (W : World) (hW : W = w.alloc (.cells (rcc p l) 26)) : Calls Try.prog 39 #[.int .i64 263144] W fun e w' => ∃ c, e = .returned (.pointer (some ⟨c, 0, none⟩)) ∧ FS w w.heap.size c p l [] w' := by
  subst hW
  refine (vnew_any 263144 _ (by omega)).mono ?_
  rintro e w3 ⟨c, rfl, hv, hc, k3⟩
  exact ⟨c, rfl, (Blk.new w (rcc p l) 26).kept k3 (by simp), rfl, ⟨[c], by simpa [newWS] using hv, by simp at hc ⊢; omega⟩, Kept.step ((Kept.refl [] w).alloc _) k3⟩
set_option linter.unusedSimpArgs false in
set_option maxRecDepth 100000 in
set_option maxHeartbeats 400000 in
theorem rform_O (w : World) (p : Pl) (l : Lo) (hr : RecW w p l) (h : isO p) : Calls Try.prog 23 #[rv p l] w fun e w' => ∃ a cap, e = .returned (.slice a (enc p).length cap) ∧ w'.ownsRow w.heap.size 5 1 (.slice a (enc p).length cap) (enc p).length (u8s (enc p)) ∧ Kept [] w w' := by
  have HN := hide (FS.begin w p l)
  have HE := hide (enc_O h.1)
  obtain ⟨h1, h2, h3, -⟩ := h
  have hw1 : IntKind.u64.wrap p.shard = ((p.shard.toNat : Nat) : Int) := by rw [IntKind.wrap_u64]; omega
  have hf1 := form_len 9 p.shard.toNat (by omega)
  have hn1 : p.shard.toNat < 18446744073709551616 := by omega
  generalize p.shard.toNat = n1 at *
  have hw2 : IntKind.u64.wrap p.peer = ((p.peer.toNat : Nat) : Int) := by rw [IntKind.wrap_u64]; omega
  have hf2 := form_len 9 p.peer.toNat (by omega)
  have hn2 : p.peer.toNat < 18446744073709551616 := by omega
  generalize p.peer.toNat = n2 at *
  have HR := hide hr
  clear hr
  unfold rv
  rw [show rcc p l = #[.int .i64 p.kind, .int .i64 p.shard, .int .i64 p.epoch, .int .i64 p.peer, .int .i64 p.client, .int .i64 p.seq, .int .i64 p.okind, .slice l.ka p.key.length l.kc, .slice l.va p.val.length l.vc, .int .i64 p.rev, .slice l.ca p.copy.length l.cc] from rfl] at *
  go_enter Try.func23, Try.ntmps23
  go_wp2_with (first
    | (go_at_call 39; refine (unhide HN _ (by first | rfl | (rw [h1]; done) | (rw [h1, ho]; done))).mono ?_; rintro e w3 ⟨c, rfl, hs3⟩; have HS := hide hs3; clear hs3; obtain ⟨c0, c1, c2, c3, c4, c5, c6, c7, c8, c9, c10⟩ := box11 (unhide HS).blk; rw [h1] at c0)
    | (go_at_call 40; refine ((unhide HS).byte _ (by omega) (by omega) (by simp only [List.length_append, List.length_nil, List.length_cons]; omega)).mono ?_; rintro e w3 ⟨rfl, hs3⟩; replace HS := hide hs3; clear hs3 c0 c1 c2 c3 c4 c5 c6 c7 c8 c9 c10; obtain ⟨c0, c1, c2, c3, c4, c5, c6, c7, c8, c9, c10⟩ := box11 (unhide HS).blk; rw [h1] at c0)
    | (go_at_call 41; refine ((unhide HS).num _ (by omega) (by simp only [List.length_append, List.length_nil, List.length_cons]; omega)).mono ?_; rintro e w3 ⟨rfl, hs3⟩; replace HS := hide hs3; clear hs3 c0 c1 c2 c3 c4 c5 c6 c7 c8 c9 c10; obtain ⟨c0, c1, c2, c3, c4, c5, c6, c7, c8, c9, c10⟩ := box11 (unhide HS).blk; rw [h1] at c0)
    | (go_at_call 42; refine ((unhide HS).text (by first | exact (unhide HR).key | exact (unhide HR).val | exact (unhide HR).copy) (by simp only [List.length_append, List.length_nil, List.length_cons]; omega)).mono ?_; rintro e w3 ⟨rfl, hs3⟩; replace HS := hide hs3; clear hs3 c0 c1 c2 c3 c4 c5 c6 c7 c8 c9 c10; obtain ⟨c0, c1, c2, c3, c4, c5, c6, c7, c8, c9, c10⟩ := box11 (unhide HS).blk; rw [h1] at c0)
    | (go_at_call 43; replace HS := hide (FS.as (unhide HS) (s' := enc p) (by rw [unhide HE]; simp)); refine (unhide HS).done.mono ?_; rintro e w3 ⟨a9, cp9, rfl, ho9, k9⟩; have HO := hide ho9; have HK := hide k9; clear ho9 k9))
  all_goals
    go_ret
    exact ⟨a9, cp9, rfl, unhide HO, unhide HK⟩
set_option linter.unusedSimpArgs false in
set_option maxRecDepth 100000 in
set_option maxHeartbeats 400000 in
theorem rform_I (w : World) (p : Pl) (l : Lo) (hr : RecW w p l) (h : isI p) : Calls Try.prog 23 #[rv p l] w fun e w' => ∃ a cap, e = .returned (.slice a (enc p).length cap) ∧ w'.ownsRow w.heap.size 5 1 (.slice a (enc p).length cap) (enc p).length (u8s (enc p)) ∧ Kept [] w w' := by
  have HN := hide (FS.begin w p l)
  have HE := hide (enc_I h.1)
  obtain ⟨h1, h2, h3, h4, h5, -⟩ := h
  have hfc := form_len 9 p.copy.length (by omega)
  have hw1 : IntKind.u64.wrap p.shard = ((p.shard.toNat : Nat) : Int) := by rw [IntKind.wrap_u64]; omega
  have hf1 := form_len 9 p.shard.toNat (by omega)
  have hn1 : p.shard.toNat < 18446744073709551616 := by omega
  generalize p.shard.toNat = n1 at *
  have hw2 : IntKind.u64.wrap p.epoch = ((p.epoch.toNat : Nat) : Int) := by rw [IntKind.wrap_u64]; omega
  have hf2 := form_len 9 p.epoch.toNat (by omega)
  have hn2 : p.epoch.toNat < 18446744073709551616 := by omega
  generalize p.epoch.toNat = n2 at *
  have hw3 : IntKind.u64.wrap p.peer = ((p.peer.toNat : Nat) : Int) := by rw [IntKind.wrap_u64]; omega
  have hf3 := form_len 9 p.peer.toNat (by omega)
  have hn3 : p.peer.toNat < 18446744073709551616 := by omega
  generalize p.peer.toNat = n3 at *
  have HR := hide hr
  clear hr
  unfold rv
  rw [show rcc p l = #[.int .i64 p.kind, .int .i64 p.shard, .int .i64 p.epoch, .int .i64 p.peer, .int .i64 p.client, .int .i64 p.seq, .int .i64 p.okind, .slice l.ka p.key.length l.kc, .slice l.va p.val.length l.vc, .int .i64 p.rev, .slice l.ca p.copy.length l.cc] from rfl] at *
  go_enter Try.func23, Try.ntmps23
  go_wp2_with (first
    | (go_at_call 39; refine (unhide HN _ (by first | rfl | (rw [h1]; done) | (rw [h1, ho]; done))).mono ?_; rintro e w3 ⟨c, rfl, hs3⟩; have HS := hide hs3; clear hs3; obtain ⟨c0, c1, c2, c3, c4, c5, c6, c7, c8, c9, c10⟩ := box11 (unhide HS).blk; rw [h1] at c0)
    | (go_at_call 40; refine ((unhide HS).byte _ (by omega) (by omega) (by simp only [List.length_append, List.length_nil, List.length_cons]; omega)).mono ?_; rintro e w3 ⟨rfl, hs3⟩; replace HS := hide hs3; clear hs3 c0 c1 c2 c3 c4 c5 c6 c7 c8 c9 c10; obtain ⟨c0, c1, c2, c3, c4, c5, c6, c7, c8, c9, c10⟩ := box11 (unhide HS).blk; rw [h1] at c0)
    | (go_at_call 41; refine ((unhide HS).num _ (by omega) (by simp only [List.length_append, List.length_nil, List.length_cons]; omega)).mono ?_; rintro e w3 ⟨rfl, hs3⟩; replace HS := hide hs3; clear hs3 c0 c1 c2 c3 c4 c5 c6 c7 c8 c9 c10; obtain ⟨c0, c1, c2, c3, c4, c5, c6, c7, c8, c9, c10⟩ := box11 (unhide HS).blk; rw [h1] at c0)
    | (go_at_call 42; refine ((unhide HS).text (by first | exact (unhide HR).key | exact (unhide HR).val | exact (unhide HR).copy) (by simp only [List.length_append, List.length_nil, List.length_cons]; omega)).mono ?_; rintro e w3 ⟨rfl, hs3⟩; replace HS := hide hs3; clear hs3 c0 c1 c2 c3 c4 c5 c6 c7 c8 c9 c10; obtain ⟨c0, c1, c2, c3, c4, c5, c6, c7, c8, c9, c10⟩ := box11 (unhide HS).blk; rw [h1] at c0)
    | (go_at_call 43; replace HS := hide (FS.as (unhide HS) (s' := enc p) (by rw [unhide HE]; simp)); refine (unhide HS).done.mono ?_; rintro e w3 ⟨a9, cp9, rfl, ho9, k9⟩; have HO := hide ho9; have HK := hide k9; clear ho9 k9))
  all_goals
    go_ret
    exact ⟨a9, cp9, rfl, unhide HO, unhide HK⟩
set_option linter.unusedSimpArgs false in
set_option maxRecDepth 100000 in
set_option maxHeartbeats 400000 in
theorem rform_S (w : World) (p : Pl) (l : Lo) (hr : RecW w p l) (h : isS p) : Calls Try.prog 23 #[rv p l] w fun e w' => ∃ a cap, e = .returned (.slice a (enc p).length cap) ∧ w'.ownsRow w.heap.size 5 1 (.slice a (enc p).length cap) (enc p).length (u8s (enc p)) ∧ Kept [] w w' := by
  have HN := hide (FS.begin w p l)
  have HE := hide (enc_S h.1)
  obtain ⟨h0, h2, -⟩ := h
  have h1 : ¬ p.kind = 1 := by omega
  have h12 : ¬ p.kind = 2 := by omega
  have h14 : ¬ p.kind = 4 := by omega
  have h5 : 0 ≤ p.kind := by omega
  have h8 : p.kind < 256 := by omega
  clear h0
  have hw1 : IntKind.u64.wrap p.shard = ((p.shard.toNat : Nat) : Int) := by rw [IntKind.wrap_u64]; omega
  have hf1 := form_len 9 p.shard.toNat (by omega)
  have hn1 : p.shard.toNat < 18446744073709551616 := by omega
  generalize p.shard.toNat = n1 at *
  have HR := hide hr
  clear hr
  unfold rv
  rw [show rcc p l = #[.int .i64 p.kind, .int .i64 p.shard, .int .i64 p.epoch, .int .i64 p.peer, .int .i64 p.client, .int .i64 p.seq, .int .i64 p.okind, .slice l.ka p.key.length l.kc, .slice l.va p.val.length l.vc, .int .i64 p.rev, .slice l.ca p.copy.length l.cc] from rfl] at *
  go_enter Try.func23, Try.ntmps23
  go_wp2_with (first
    | (go_at_call 39; refine (unhide HN _ (by first | rfl | (rw [h1]; done) | (rw [h1, ho]; done))).mono ?_; rintro e w3 ⟨c, rfl, hs3⟩; have HS := hide hs3; clear hs3; obtain ⟨c0, c1, c2, c3, c4, c5, c6, c7, c8, c9, c10⟩ := box11 (unhide HS).blk; skip)
    | (go_at_call 40; refine ((unhide HS).byte _ (by omega) (by omega) (by simp only [List.length_append, List.length_nil, List.length_cons]; omega)).mono ?_; rintro e w3 ⟨rfl, hs3⟩; replace HS := hide hs3; clear hs3 c0 c1 c2 c3 c4 c5 c6 c7 c8 c9 c10; obtain ⟨c0, c1, c2, c3, c4, c5, c6, c7, c8, c9, c10⟩ := box11 (unhide HS).blk; skip)
    | (go_at_call 41; refine ((unhide HS).num _ (by omega) (by simp only [List.length_append, List.length_nil, List.length_cons]; omega)).mono ?_; rintro e w3 ⟨rfl, hs3⟩; replace HS := hide hs3; clear hs3 c0 c1 c2 c3 c4 c5 c6 c7 c8 c9 c10; obtain ⟨c0, c1, c2, c3, c4, c5, c6, c7, c8, c9, c10⟩ := box11 (unhide HS).blk; skip)
    | (go_at_call 42; refine ((unhide HS).text (by first | exact (unhide HR).key | exact (unhide HR).val | exact (unhide HR).copy) (by simp only [List.length_append, List.length_nil, List.length_cons]; omega)).mono ?_; rintro e w3 ⟨rfl, hs3⟩; replace HS := hide hs3; clear hs3 c0 c1 c2 c3 c4 c5 c6 c7 c8 c9 c10; obtain ⟨c0, c1, c2, c3, c4, c5, c6, c7, c8, c9, c10⟩ := box11 (unhide HS).blk; skip)
    | (go_at_call 43; replace HS := hide (FS.as (unhide HS) (s' := enc p) (by rw [unhide HE]; simp)); refine (unhide HS).done.mono ?_; rintro e w3 ⟨a9, cp9, rfl, ho9, k9⟩; have HO := hide ho9; have HK := hide k9; clear ho9 k9))
  all_goals
    go_ret
    exact ⟨a9, cp9, rfl, unhide HO, unhide HK⟩
set_option linter.unusedSimpArgs false in
set_option maxRecDepth 100000 in
set_option maxHeartbeats 400000 in
theorem rform_W3 (w : World) (p : Pl) (l : Lo) (hr : RecW w p l) (h : isW p) (ho : p.okind = 3) : Calls Try.prog 23 #[rv p l] w fun e w' => ∃ a cap, e = .returned (.slice a (enc p).length cap) ∧ w'.ownsRow w.heap.size 5 1 (.slice a (enc p).length cap) (enc p).length (u8s (enc p)) ∧ Kept [] w w' := by
  have HN := hide (FS.begin w p l)
  have HE := hide (enc_W h.1)
  obtain ⟨h1, h2, h3, h4, h5, -⟩ := h
  obtain ⟨⟨h6, h7⟩, h8⟩ := wrt_iff.1 h5
  clear h5
  have hfk := form_len 9 p.key.length (by omega)
  unfold formO at HE
  simp only [ho] at HE
  have hfv := form_len 9 p.val.length (by omega)
  have hvl : p.val.length ≤ 256 := by omega
  have hrv : 0 ≤ p.rev ∧ p.rev ≤ 1099511627776 := by omega
  clear h8
  have hw1 : IntKind.u64.wrap p.shard = ((p.shard.toNat : Nat) : Int) := by rw [IntKind.wrap_u64]; omega
  have hf1 := form_len 9 p.shard.toNat (by omega)
  have hn1 : p.shard.toNat < 18446744073709551616 := by omega
  generalize p.shard.toNat = n1 at *
  have hw2 : IntKind.u64.wrap p.client = ((p.client.toNat : Nat) : Int) := by rw [IntKind.wrap_u64]; omega
  have hf2 := form_len 9 p.client.toNat (by omega)
  have hn2 : p.client.toNat < 18446744073709551616 := by omega
  generalize p.client.toNat = n2 at *
  have hw3 : IntKind.u64.wrap p.seq = ((p.seq.toNat : Nat) : Int) := by rw [IntKind.wrap_u64]; omega
  have hf3 := form_len 9 p.seq.toNat (by omega)
  have hn3 : p.seq.toNat < 18446744073709551616 := by omega
  generalize p.seq.toNat = n3 at *
  have hw4 : IntKind.u64.wrap p.rev = ((p.rev.toNat : Nat) : Int) := by rw [IntKind.wrap_u64]; omega
  have hf4 := form_len 9 p.rev.toNat (by omega)
  have hn4 : p.rev.toNat < 18446744073709551616 := by omega
  generalize p.rev.toNat = n4 at *
  have HR := hide hr
  clear hr
  unfold rv
  rw [show rcc p l = #[.int .i64 p.kind, .int .i64 p.shard, .int .i64 p.epoch, .int .i64 p.peer, .int .i64 p.client, .int .i64 p.seq, .int .i64 p.okind, .slice l.ka p.key.length l.kc, .slice l.va p.val.length l.vc, .int .i64 p.rev, .slice l.ca p.copy.length l.cc] from rfl] at *
  go_enter Try.func23, Try.ntmps23
  go_wp2_with (first
    | (go_at_call 39; refine (unhide HN _ (by first | rfl | (rw [h1]; done) | (rw [h1, ho]; done))).mono ?_; rintro e w3 ⟨c, rfl, hs3⟩; have HS := hide hs3; clear hs3; obtain ⟨c0, c1, c2, c3, c4, c5, c6, c7, c8, c9, c10⟩ := box11 (unhide HS).blk; rw [h1] at c0; rw [ho] at c6)
    | (go_at_call 40; refine ((unhide HS).byte _ (by omega) (by omega) (by simp only [List.length_append, List.length_nil, List.length_cons]; omega)).mono ?_; rintro e w3 ⟨rfl, hs3⟩; replace HS := hide hs3; clear hs3 c0 c1 c2 c3 c4 c5 c6 c7 c8 c9 c10; obtain ⟨c0, c1, c2, c3, c4, c5, c6, c7, c8, c9, c10⟩ := box11 (unhide HS).blk; rw [h1] at c0; rw [ho] at c6)
    | (go_at_call 41; refine ((unhide HS).num _ (by omega) (by simp only [List.length_append, List.length_nil, List.length_cons]; omega)).mono ?_; rintro e w3 ⟨rfl, hs3⟩; replace HS := hide hs3; clear hs3 c0 c1 c2 c3 c4 c5 c6 c7 c8 c9 c10; obtain ⟨c0, c1, c2, c3, c4, c5, c6, c7, c8, c9, c10⟩ := box11 (unhide HS).blk; rw [h1] at c0; rw [ho] at c6)
    | (go_at_call 42; refine ((unhide HS).text (by first | exact (unhide HR).key | exact (unhide HR).val | exact (unhide HR).copy) (by simp only [List.length_append, List.length_nil, List.length_cons]; omega)).mono ?_; rintro e w3 ⟨rfl, hs3⟩; replace HS := hide hs3; clear hs3 c0 c1 c2 c3 c4 c5 c6 c7 c8 c9 c10; obtain ⟨c0, c1, c2, c3, c4, c5, c6, c7, c8, c9, c10⟩ := box11 (unhide HS).blk; rw [h1] at c0; rw [ho] at c6)
    | (go_at_call 43; replace HS := hide (FS.as (unhide HS) (s' := enc p) (by rw [unhide HE]; simp)); refine (unhide HS).done.mono ?_; rintro e w3 ⟨a9, cp9, rfl, ho9, k9⟩; have HO := hide ho9; have HK := hide k9; clear ho9 k9))
  all_goals
    go_ret
    exact ⟨a9, cp9, rfl, unhide HO, unhide HK⟩
set_option linter.unusedSimpArgs false in
set_option maxRecDepth 100000 in
set_option maxHeartbeats 400000 in
theorem rform_W2 (w : World) (p : Pl) (l : Lo) (hr : RecW w p l) (h : isW p) (ho : p.okind = 2) : Calls Try.prog 23 #[rv p l] w fun e w' => ∃ a cap, e = .returned (.slice a (enc p).length cap) ∧ w'.ownsRow w.heap.size 5 1 (.slice a (enc p).length cap) (enc p).length (u8s (enc p)) ∧ Kept [] w w' := by
  have HN := hide (FS.begin w p l)
  have HE := hide (enc_W h.1)
  obtain ⟨h1, h2, h3, h4, h5, -⟩ := h
  obtain ⟨⟨h6, h7⟩, h8⟩ := wrt_iff.1 h5
  clear h5
  have hfk := form_len 9 p.key.length (by omega)
  unfold formO at HE
  simp only [ho] at HE
  have hfv := form_len 9 p.val.length (by omega)
  have hvl : p.val.length ≤ 256 := by omega
  have hrv : 0 ≤ p.rev ∧ p.rev ≤ 1099511627776 := by omega
  clear h8
  have hw1 : IntKind.u64.wrap p.shard = ((p.shard.toNat : Nat) : Int) := by rw [IntKind.wrap_u64]; omega
  have hf1 := form_len 9 p.shard.toNat (by omega)
  have hn1 : p.shard.toNat < 18446744073709551616 := by omega
  generalize p.shard.toNat = n1 at *
  have hw2 : IntKind.u64.wrap p.client = ((p.client.toNat : Nat) : Int) := by rw [IntKind.wrap_u64]; omega
  have hf2 := form_len 9 p.client.toNat (by omega)
  have hn2 : p.client.toNat < 18446744073709551616 := by omega
  generalize p.client.toNat = n2 at *
  have hw3 : IntKind.u64.wrap p.seq = ((p.seq.toNat : Nat) : Int) := by rw [IntKind.wrap_u64]; omega
  have hf3 := form_len 9 p.seq.toNat (by omega)
  have hn3 : p.seq.toNat < 18446744073709551616 := by omega
  generalize p.seq.toNat = n3 at *
  have hw4 : IntKind.u64.wrap p.rev = ((p.rev.toNat : Nat) : Int) := by rw [IntKind.wrap_u64]; omega
  have hf4 := form_len 9 p.rev.toNat (by omega)
  have hn4 : p.rev.toNat < 18446744073709551616 := by omega
  generalize p.rev.toNat = n4 at *
  have HR := hide hr
  clear hr
  unfold rv
  rw [show rcc p l = #[.int .i64 p.kind, .int .i64 p.shard, .int .i64 p.epoch, .int .i64 p.peer, .int .i64 p.client, .int .i64 p.seq, .int .i64 p.okind, .slice l.ka p.key.length l.kc, .slice l.va p.val.length l.vc, .int .i64 p.rev, .slice l.ca p.copy.length l.cc] from rfl] at *
  go_enter Try.func23, Try.ntmps23
  go_wp2_with (first
    | (go_at_call 39; refine (unhide HN _ (by first | rfl | (rw [h1]; done) | (rw [h1, ho]; done))).mono ?_; rintro e w3 ⟨c, rfl, hs3⟩; have HS := hide hs3; clear hs3; obtain ⟨c0, c1, c2, c3, c4, c5, c6, c7, c8, c9, c10⟩ := box11 (unhide HS).blk; rw [h1] at c0; rw [ho] at c6)
    | (go_at_call 40; refine ((unhide HS).byte _ (by omega) (by omega) (by simp only [List.length_append, List.length_nil, List.length_cons]; omega)).mono ?_; rintro e w3 ⟨rfl, hs3⟩; replace HS := hide hs3; clear hs3 c0 c1 c2 c3 c4 c5 c6 c7 c8 c9 c10; obtain ⟨c0, c1, c2, c3, c4, c5, c6, c7, c8, c9, c10⟩ := box11 (unhide HS).blk; rw [h1] at c0; rw [ho] at c6)
    | (go_at_call 41; refine ((unhide HS).num _ (by omega) (by simp only [List.length_append, List.length_nil, List.length_cons]; omega)).mono ?_; rintro e w3 ⟨rfl, hs3⟩; replace HS := hide hs3; clear hs3 c0 c1 c2 c3 c4 c5 c6 c7 c8 c9 c10; obtain ⟨c0, c1, c2, c3, c4, c5, c6, c7, c8, c9, c10⟩ := box11 (unhide HS).blk; rw [h1] at c0; rw [ho] at c6)
    | (go_at_call 42; refine ((unhide HS).text (by first | exact (unhide HR).key | exact (unhide HR).val | exact (unhide HR).copy) (by simp only [List.length_append, List.length_nil, List.length_cons]; omega)).mono ?_; rintro e w3 ⟨rfl, hs3⟩; replace HS := hide hs3; clear hs3 c0 c1 c2 c3 c4 c5 c6 c7 c8 c9 c10; obtain ⟨c0, c1, c2, c3, c4, c5, c6, c7, c8, c9, c10⟩ := box11 (unhide HS).blk; rw [h1] at c0; rw [ho] at c6)
    | (go_at_call 43; replace HS := hide (FS.as (unhide HS) (s' := enc p) (by rw [unhide HE]; simp)); refine (unhide HS).done.mono ?_; rintro e w3 ⟨a9, cp9, rfl, ho9, k9⟩; have HO := hide ho9; have HK := hide k9; clear ho9 k9))
  all_goals
    go_ret
    exact ⟨a9, cp9, rfl, unhide HO, unhide HK⟩
set_option linter.unusedSimpArgs false in
set_option maxRecDepth 100000 in
set_option maxHeartbeats 400000 in
theorem rform_W4 (w : World) (p : Pl) (l : Lo) (hr : RecW w p l) (h : isW p) (ho : p.okind = 4) : Calls Try.prog 23 #[rv p l] w fun e w' => ∃ a cap, e = .returned (.slice a (enc p).length cap) ∧ w'.ownsRow w.heap.size 5 1 (.slice a (enc p).length cap) (enc p).length (u8s (enc p)) ∧ Kept [] w w' := by
  have HN := hide (FS.begin w p l)
  have HE := hide (enc_W h.1)
  obtain ⟨h1, h2, h3, h4, h5, -⟩ := h
  obtain ⟨⟨h6, h7⟩, h8⟩ := wrt_iff.1 h5
  clear h5
  have hfk := form_len 9 p.key.length (by omega)
  unfold formO at HE
  simp only [ho] at HE
  have hfv := form_len 9 p.val.length (by omega)
  have hvl : p.val.length ≤ 256 := by omega
  have hrv : 0 ≤ p.rev ∧ p.rev ≤ 1099511627776 := by omega
  clear h8
  have hw1 : IntKind.u64.wrap p.shard = ((p.shard.toNat : Nat) : Int) := by rw [IntKind.wrap_u64]; omega
  have hf1 := form_len 9 p.shard.toNat (by omega)
  have hn1 : p.shard.toNat < 18446744073709551616 := by omega
  generalize p.shard.toNat = n1 at *
  have hw2 : IntKind.u64.wrap p.client = ((p.client.toNat : Nat) : Int) := by rw [IntKind.wrap_u64]; omega
  have hf2 := form_len 9 p.client.toNat (by omega)
  have hn2 : p.client.toNat < 18446744073709551616 := by omega
  generalize p.client.toNat = n2 at *
  have hw3 : IntKind.u64.wrap p.seq = ((p.seq.toNat : Nat) : Int) := by rw [IntKind.wrap_u64]; omega
  have hf3 := form_len 9 p.seq.toNat (by omega)
  have hn3 : p.seq.toNat < 18446744073709551616 := by omega
  generalize p.seq.toNat = n3 at *
  have hw4 : IntKind.u64.wrap p.rev = ((p.rev.toNat : Nat) : Int) := by rw [IntKind.wrap_u64]; omega
  have hf4 := form_len 9 p.rev.toNat (by omega)
  have hn4 : p.rev.toNat < 18446744073709551616 := by omega
  generalize p.rev.toNat = n4 at *
  have HR := hide hr
  clear hr
  unfold rv
  rw [show rcc p l = #[.int .i64 p.kind, .int .i64 p.shard, .int .i64 p.epoch, .int .i64 p.peer, .int .i64 p.client, .int .i64 p.seq, .int .i64 p.okind, .slice l.ka p.key.length l.kc, .slice l.va p.val.length l.vc, .int .i64 p.rev, .slice l.ca p.copy.length l.cc] from rfl] at *
  go_enter Try.func23, Try.ntmps23
  go_wp2_with (first
    | (go_at_call 39; refine (unhide HN _ (by first | rfl | (rw [h1]; done) | (rw [h1, ho]; done))).mono ?_; rintro e w3 ⟨c, rfl, hs3⟩; have HS := hide hs3; clear hs3; obtain ⟨c0, c1, c2, c3, c4, c5, c6, c7, c8, c9, c10⟩ := box11 (unhide HS).blk; rw [h1] at c0; rw [ho] at c6)
    | (go_at_call 40; refine ((unhide HS).byte _ (by omega) (by omega) (by simp only [List.length_append, List.length_nil, List.length_cons]; omega)).mono ?_; rintro e w3 ⟨rfl, hs3⟩; replace HS := hide hs3; clear hs3 c0 c1 c2 c3 c4 c5 c6 c7 c8 c9 c10; obtain ⟨c0, c1, c2, c3, c4, c5, c6, c7, c8, c9, c10⟩ := box11 (unhide HS).blk; rw [h1] at c0; rw [ho] at c6)
    | (go_at_call 41; refine ((unhide HS).num _ (by omega) (by simp only [List.length_append, List.length_nil, List.length_cons]; omega)).mono ?_; rintro e w3 ⟨rfl, hs3⟩; replace HS := hide hs3; clear hs3 c0 c1 c2 c3 c4 c5 c6 c7 c8 c9 c10; obtain ⟨c0, c1, c2, c3, c4, c5, c6, c7, c8, c9, c10⟩ := box11 (unhide HS).blk; rw [h1] at c0; rw [ho] at c6)
    | (go_at_call 42; refine ((unhide HS).text (by first | exact (unhide HR).key | exact (unhide HR).val | exact (unhide HR).copy) (by simp only [List.length_append, List.length_nil, List.length_cons]; omega)).mono ?_; rintro e w3 ⟨rfl, hs3⟩; replace HS := hide hs3; clear hs3 c0 c1 c2 c3 c4 c5 c6 c7 c8 c9 c10; obtain ⟨c0, c1, c2, c3, c4, c5, c6, c7, c8, c9, c10⟩ := box11 (unhide HS).blk; rw [h1] at c0; rw [ho] at c6)
    | (go_at_call 43; replace HS := hide (FS.as (unhide HS) (s' := enc p) (by rw [unhide HE]; simp)); refine (unhide HS).done.mono ?_; rintro e w3 ⟨a9, cp9, rfl, ho9, k9⟩; have HO := hide ho9; have HK := hide k9; clear ho9 k9))
  all_goals
    go_ret
    exact ⟨a9, cp9, rfl, unhide HO, unhide HK⟩
theorem rform_any (w : World) (p : Pl) (l : Lo) (hr : RecW w p l) (hs : snd p = true) : Calls Try.prog 23 #[rv p l] w fun e w' => ∃ a cap, e = .returned (.slice a (enc p).length cap) ∧ w'.ownsRow w.heap.size 5 1 (.slice a (enc p).length cap) (enc p).length (u8s (enc p)) ∧ Kept [] w w' := by
  rcases (snd_iff p).1 hs with h | h | h | h
  · have h5 := h.2.2.2.2.1
    rcases (wrt_iff.1 h5).2 with g | g | g
    · exact rform_W3 w p l hr h g.1
    · exact rform_W2 w p l hr h g.1
    · exact rform_W4 w p l hr h g.1
  · exact rform_O w p l hr h
  · exact rform_I w p l hr h
  · exact rform_S w p l hr h
end Go.Proofs.Ytocmgfmfalaebaa

/- The document's Encode; records that are lent. -/
namespace Go.Proofs.Ytocmgfmfalaebaa
open Go.RowKit

set_option maxRecDepth 100000 in
set_option maxHeartbeats 800000 in
theorem rencode_any (w : World) (p : Pl) (l : Lo) (hr : RecW w p l) : Calls Try.prog 9 #[rv p l] w (EncP w p) := by
  have HQ := hide (fun W => rsound_any W p l)
  have HF := hide (fun W (k : Kept [] w W) (hs : snd p = true) => rform_any W p l (hr.kept k) hs)
  have HB : Hid (∀ W, W = w.alloc (.cells (rcc p l) 26) → SB w w.heap.size p l W) := fun W e => by subst e; exact ⟨Blk.new _ _ _, (Kept.refl _ _).alloc _⟩
  clear hr
  unfold rv at *
  rw [show rcc p l = #[.int .i64 p.kind, .int .i64 p.shard, .int .i64 p.epoch, .int .i64 p.peer, .int .i64 p.client, .int .i64 p.seq, .int .i64 p.okind, .slice l.ka p.key.length l.kc, .slice l.va p.val.length l.vc, .int .i64 p.rev, .slice l.ca p.copy.length l.cc] from rfl] at *
  cases hs : snd p with
  | false =>
    rw [hs] at HQ
    have HS := hide hs
    clear hs HF
    go_enter Try.func9, Try.ntmps9
    go_wp2_with (go_at_call 10; refine (unhide HQ _).mono ?_; rintro e w3 ⟨rfl, k3⟩; first | (have HK3 := hide (((unhide HB) _ rfl).go k3)) | (have HK3 := hide (SB.mk (w := w) (b := w.heap.size) (p := p) (l := l) (by exact (by assumption)) k3)); clear k3)
    all_goals
      go_ret2
      exact ⟨(unhide HK3).kept, Or.inr ⟨unhide HS, rfl⟩⟩
  | true =>
    rw [hs] at HQ
    have HS := hide hs
    clear hs
    go_enter Try.func9, Try.ntmps9
    go_wp2_with (first
      | (go_at_call 10; refine (unhide HQ _).mono ?_; rintro e w3 ⟨rfl, k3⟩; have HK3 := hide (((unhide HB) _ rfl).go k3); clear k3; obtain ⟨c0, c1, c2, c3, c4, c5, c6, c7, c8, c9, c10⟩ := box11 (unhide HK3).blk)
      | (go_at_call 23; refine (unhide HF _ (unhide HK3).kept (unhide HS)).mono ?_; rintro e w4 ⟨a4, c4', rfl, ho4, k4⟩; have HO := hide (own_down ho4 (unhide HK3).kept.size); have HK4 := hide ((unhide HK3).kept.step k4); clear ho4 k4))
    all_goals
      go_ret2
      exact ⟨unhide HK4, Or.inl ⟨unhide HS, a4, c4', rfl, unhide HO⟩⟩
end Go.Proofs.Ytocmgfmfalaebaa
