/- known: a disk that the document names. -/
import Derived.Test.YtfaoblnghkiibaaQWrite
import Derived.Test.YtfaoblnghkiibaaQCrash
import Derived.Test.YtfaoblnghkiibaaQImage
import Derived.Test.YtfaoblnghkiibaaQMake
import Derived.Test.YtfaoblnghkiibaaQLaw
namespace Go.Proofs.Ytfaoblnghkiibaa
open Go.RowKit

/-- a world in which a disk lies, reached from w0 -/
def At (w0 : World) (b : Nat) (d : Dm) (w : World) : Prop := ∃ F, Dk w b F d ∧ Nx [] w0 F w

theorem At.quiet {w0 w w' : World} {b : Nat} {d : Dm} (h : At w0 b d w) (hk : Kept [] w w') : At w0 b d w' := by
  obtain ⟨F, h1, h2⟩ := h
  exact ⟨F, h1.keep hk (by simp), h2.quiet hk⟩
theorem At.kept {w0 w : World} {b : Nat} {d : Dm} (h : At w0 b d w) : Kept [] w0 w := by
  obtain ⟨F, h1, h2⟩ := h
  exact h2.kept
theorem Quiet.mem {w w' : World} (h : Quiet w w') : Kept [] w w' := h.kept
theorem kept_drewN (w : World) (m : Nat) : Kept [] w (w.drewN m) := (Kept.refl _ _).drewN m

theorem at_new {w : World} {n : Nat} (h1 : 1 ≤ n) (h2 : n ≤ 65536) : Calls Try.prog 9 #[.int .i64 (n : Int)] w fun e w' => ∃ b, e = .returned (.tuple #[.pointer (some ⟨b, 0, none⟩), .int .i64 0]) ∧ At w b (fresh n (List.replicate (64 * n) 0)) w' := by
  refine (new_yes h1 h2).mono ?_
  rintro e w' ⟨b, F, rfl, h3, h4⟩
  exact ⟨b, rfl, F, h3, h4⟩
theorem at_write {w0 w1 w : World} {b : Nat} {d : Dm} (h : At w0 b d w1) (hk : Kept [] w1 w) {k : Nat} (hx : rE d (k : Int) = 0) {q cap : Nat} {l : List Nat} (hv : Sees w (.slice (some ⟨q, 0, none⟩) 64 cap) l) (hq : w1.heap.size ≤ q) (hl : l.length = 64) (hpl : (d.pend.length + 1) * 72 ≤ 140737488355328) :
    Calls Try.prog 19 #[.pointer (some ⟨b, 0, none⟩), .int .i64 (k : Int), .slice (some ⟨q, 0, none⟩) 64 cap] w fun e w' => e = .returned (.int .i64 0) ∧ At w0 b (d.write k l) w' := by
  obtain ⟨F, h1, h2⟩ := h
  refine (write_yes (h1.keep hk (by simp)) hx hv hl (fun p hp => ?_) hpl).mono ?_
  · injection hp with e
    subst e
    exact fun hm => absurd (h1.lt q hm) (by omega)
  · rintro e w' ⟨F', rfl, h3, h4⟩
    exact ⟨rfl, F', h3, (h2.quiet hk).trans h4⟩
theorem at_read {w0 w : World} {b : Nat} {d : Dm} (h : At w0 b d w) {k : Nat} (hx : rE d (k : Int) = 0) (hpl : d.pend.length ≤ 9223372036854775807) :
    Calls Try.prog 21 #[.pointer (some ⟨b, 0, none⟩), .int .i64 (k : Int)] w fun e w' => ∃ r, e = .returned (.tuple #[.slice (some ⟨r, 0, none⟩) 64 64, .int .i64 0]) ∧ Blk w' r (u8s (newest d k)).toArray 70 ∧ w.heap.size ≤ r ∧ Kept [] w w' := by
  obtain ⟨F, h1, h2⟩ := h
  exact read_yes h1 hx hpl
theorem at_crash {w0 w1 w : World} {b : Nat} {d : Dm} (h : At w0 b d w1) (hk : Kept [] w1 w) (hpl : d.pend.length ≤ 9223372036854775807) {v : Value} {keep : List Bool} (hv : SeesB w v keep) (hvF : ∀ k, v.ownBlock = some k → w1.heap.size ≤ k) (torn cut : Int) :
    Calls Try.prog 25 #[.pointer (some ⟨b, 0, none⟩), v, .int .i64 torn, .int .i64 cut] w fun e w' => e = .returned (.tuple #[]) ∧ At w0 b (d.crash keep torn cut) w' := by
  obtain ⟨F, h1, h2⟩ := h
  refine (crash_any (h1.keep hk (by simp)) hpl hv (fun q hq hm => absurd (h1.lt q hm) (by have := hvF q hq; omega)) torn cut).mono ?_
  rintro e w' ⟨rfl, h3, h4⟩
  exact ⟨rfl, F, h3, (h2.quiet hk).trans h4⟩
theorem at_pending {w0 w : World} {b : Nat} {d : Dm} (h : At w0 b d w) : Calls Try.prog 23 #[.pointer (some ⟨b, 0, none⟩)] w fun e w' => e = .returned (.int .i64 (d.pend.length : Int)) ∧ w' = w := by
  obtain ⟨F, h1, h2⟩ := h
  exact pending_any h1
theorem at_sectors {w0 w : World} {b : Nat} {d : Dm} (h : At w0 b d w) : Calls Try.prog 26 #[.pointer (some ⟨b, 0, none⟩)] w fun e w' => e = .returned (.int .i64 (d.n : Int)) ∧ w' = w := by
  obtain ⟨F, h1, h2⟩ := h
  exact sectors_any h1
theorem at_image {w0 w : World} {b : Nat} {d : Dm} (h : At w0 b d w) : Calls Try.prog 27 #[.pointer (some ⟨b, 0, none⟩)] w fun e w' => ∃ r cap, e = .returned (.slice (some ⟨r, 0, none⟩) (64 * d.n) cap) ∧ w'.ownsRow w.heap.size 5 1 (.slice (some ⟨r, 0, none⟩) (64 * d.n) cap) (64 * d.n) (u8s d.safe) ∧ Kept [] w w' := by
  obtain ⟨F, h1, h2⟩ := h
  exact image_any h1

theorem sees_full {w : World} {g b : Nat} {t : TypeId} (h : Blk w g (u8s (fl b)).toArray t) (hb : b < 256) : Sees w (.slice (some ⟨g, 0, none⟩) 64 64) (fl b) := Sees.of_blk (fl_len b) h (fl_byte hb) 64 (by omega) (by omega)

def k0 : Dm := fresh 4 (List.replicate 256 0)
def k1 : Dm := k0.write 1 (fl 7)
def k2 : Dm := k1.crash [] (-1) 0
def k3 : Dm := k2.write 1 (fl 7)
def k4 : Dm := k3.write 1 (fl 8)
def k5 : Dm := k4.crash [true] 1 3
theorem k1_new : newest k1 1 = fl 7 := by kernel_rfl
theorem k2_new : newest k2 1 = fl 0 := by kernel_rfl
theorem k5_new : newest k5 1 = (fl 8).take 3 ++ (fl 7).drop 3 := by kernel_rfl
theorem k1_safe : k1.safe = List.replicate 256 0 := by kernel_rfl

theorem sees_true (w : World) : SeesB (w.alloc (.cells #[.bool true] 4)) (.slice (some ⟨w.heap.size, 0, none⟩) 1 1) [true] := by
  refine ⟨_, 1, rfl, by simp, fun k hk => ⟨w.heap.size, 0, rfl, by simp, ?_⟩⟩
  have : k = 0 := by simp at hk; omega
  subst this
  rw [(Blk.new w #[.bool true] 4).cell]; simp

theorem full_at {w : World} {x : Int} (b : Nat) (hb : (b : Int) = x) : Calls Try.prog 20 #[.int .u8 x] w fun e w' => ∃ g, e = .returned (.slice (some ⟨g, 0, none⟩) 64 64) ∧ Blk w' g (u8s (fl b)).toArray 5 ∧ w.heap.size ≤ g ∧ Kept [] w w' := by
  subst hb; exact full_any w b

set_option maxRecDepth 100000 in
set_option maxHeartbeats 4000000 in
theorem known_any (w : World) : Calls Try.prog 17 #[] w fun e w' => e = .returned (.bool true) ∧ Kept [] w w' := by
  have HN := hide (at_new (w := w) (n := 4) (by omega) (by omega))
  have HNUM := hide num_any
  go_enter Try.func17, Try.ntmps17
  go_wp2_with (first
    | (go_at_call 9; refine (unhide HN).mono ?_; rintro e w1 ⟨b, rfl, ha⟩; have HA0 : Hid (At w b k0 w1) := ha; clear HN ha; have HS := hide (at_sectors (unhide HA0)); rw [show ((k0.n : Nat) : Int) = 4 from rfl] at HS)
    | (go_at_call 13; refine (unhide HNUM _ _).mono ?_; rintro e wq ⟨rfl, hq⟩; have hq' := hq.symm; subst hq'; clear hq)
    | (go_at_call 26; refine (unhide HS).mono ?_; rintro e wq ⟨rfl, hq⟩; have hq' := hq.symm; subst hq'; clear hq HS))
  go_wp2_with (first
    | (go_at_call 20; refine (full_at 7 (by rfl)).mono ?_; rintro e w2 ⟨g2, rfl, hb2, hg2, hk2⟩; have HW := hide (at_write (unhide HA0) hk2 (k := 1) (by rfl) (sees_full hb2 (by omega)) hg2 (fl_len 7) (by decide)); clear hb2 hg2 hk2 HA0)
    | (go_at_call 19; refine (unhide HW).mono ?_; rintro e w3 ⟨rfl, ha⟩; have HA1 : Hid (At w b k1 w3) := ha; clear HW ha; have HR := hide (at_read (unhide HA1) (k := 1) (by rfl) (by decide)); rw [k1_new] at HR)
    | (go_at_call 21; refine (unhide HR).mono ?_; rintro e w4 ⟨r4, rfl, hb4, hg4, hk4⟩; have HA2 := hide ((unhide HA1).quiet hk4); have HB4 := hide hb4; clear hb4 hg4 hk4 HR HA1)
    | (go_at_call 13; refine (unhide HNUM _ _).mono ?_; rintro e wq ⟨rfl, hq⟩; have hq' := hq.symm; subst hq'; clear hq))
  go_wp2_with (first
    | (go_at_call 20; refine (full_at 7 (by rfl)).mono ?_; rintro e w5 ⟨g5, rfl, hb5, hg5, hk5⟩; have HA3 := hide ((unhide HA2).quiet hk5); have HSM := hide (same_q (sees_full ((unhide HB4).kept hk5 (by simp)) (by omega)) (sees_full hb5 (by omega))); clear hb5 hg5 hk5 HA2 HB4)
    | (go_at_call 28; refine (unhide HSM).mono ?_; rintro e w6 ⟨rfl, hq6⟩; have HA4 := hide ((unhide HA3).quiet hq6.kept); clear hq6 HSM HA3; have HP := hide (at_pending (unhide HA4)); rw [show ((k1.pend.length : Nat) : Int) = 1 from rfl] at HP)
    | (go_at_call 23; refine (unhide HP).mono ?_; rintro e wq ⟨rfl, hq⟩; have hq' := hq.symm; subst hq'; clear hq HP))
  have HI1 := hide (at_image (unhide HA4))
  rw [k1_safe, show 64 * k1.n = 256 from rfl] at HI1
  go_wp2_with (first
    | (go_at_call 27; refine (unhide HI1).mono ?_; rintro e w7 ⟨r7, c7, rfl, ho7, hk7⟩; have HA5 := hide ((unhide HA4).quiet hk7); clear ho7 hk7 HI1))
  have HI2 := hide (at_image (unhide HA5))
  rw [k1_safe, show 64 * k1.n = 256 from rfl] at HI2
  go_wp2_with (first
    | (go_at_call 27; refine (unhide HI2).mono ?_; rintro e w8 ⟨r8, c8, rfl, ho8, hk8⟩; have HA6 := hide ((unhide HA5).quiet hk8); have c64 : w8.cell? ⟨r8, 64, none⟩ = some (.int .u8 0) := own_cell ho8 (k := 64) (by simp); clear ho8 hk8 HI2))
  have HCR := hide (at_crash (unhide HA6) (Kept.refl _ _) (by decide) (SeesB.nil w8) (fun k hk => by cases hk) (-1) 0)
  go_wp2_with (first
    | (go_at_call 25; refine (unhide HCR).mono ?_; rintro e w9 ⟨rfl, ha⟩; have HA7 : Hid (At w b k2 w9) := ha; clear HCR ha; have HR := hide (at_read (unhide HA7) (k := 1) (by rfl) (by decide)); rw [k2_new] at HR)
    | (go_at_call 21; refine (unhide HR).mono ?_; rintro e w10 ⟨r10, rfl, hb10, hg10, hk10⟩; have HA8 := hide ((unhide HA7).quiet hk10); have HB10 := hide hb10; clear hb10 hg10 hk10 HR)
    | (go_at_call 13; refine (unhide HNUM _ _).mono ?_; rintro e wq ⟨rfl, hq⟩; have hq' := hq.symm; subst hq'; clear hq))
  go_wp2_with (first
    | (go_at_call 20; refine (full_at 0 (by rfl)).mono ?_; rintro e w11 ⟨g11, rfl, hb11, hg11, hk11⟩; have HA9 := hide ((unhide HA8).quiet hk11); have HSM := hide (same_q (sees_full ((unhide HB10).kept hk11 (by simp)) (by omega)) (sees_full hb11 (by omega))); clear hb11 hg11 hk11)
    | (go_at_call 28; refine (unhide HSM).mono ?_; rintro e w12 ⟨rfl, hq12⟩; have HA10 := hide ((unhide HA9).quiet hq12.kept); clear hq12 HSM; have HP := hide (at_pending (unhide HA10)); rw [show ((k2.pend.length : Nat) : Int) = 0 from rfl] at HP)
    | (go_at_call 23; refine (unhide HP).mono ?_; rintro e wq ⟨rfl, hq⟩; have hq' := hq.symm; subst hq'; clear hq HP))
  go_wp2_with (first
    | (go_at_call 20; refine (full_at 7 (by rfl)).mono ?_; rintro e w13 ⟨g13, rfl, hb13, hg13, hk13⟩; have HW := hide (at_write (unhide HA10) hk13 (k := 1) (by rfl) (sees_full hb13 (by omega)) hg13 (fl_len 7) (by decide)); clear hb13 hg13 hk13)
    | (go_at_call 19; refine (unhide HW).mono ?_; rintro e w14 ⟨rfl, ha⟩; have HA11 : Hid (At w b k3 w14) := ha; clear HW ha))
  go_wp2_with (first
    | (go_at_call 20; refine (full_at 8 (by rfl)).mono ?_; rintro e w15 ⟨g15, rfl, hb15, hg15, hk15⟩; have HW := hide (at_write (unhide HA11) hk15 (k := 1) (by rfl) (sees_full hb15 (by omega)) hg15 (fl_len 8) (by decide)); clear hb15 hg15 hk15)
    | (go_at_call 19; refine (unhide HW).mono ?_; rintro e w16 ⟨rfl, ha⟩; have HA12 : Hid (At w b k4 w16) := ha; clear HW ha; have HCR := hide (at_crash (unhide HA12) ((Kept.refl _ _).alloc _) (by decide) (sees_true w16) (fun k hk => by simp [Value.ownBlock] at hk; omega) 1 3))
    | (go_at_call 25; refine (unhide HCR).mono ?_; rintro e w17 ⟨rfl, ha⟩; have HA13 : Hid (At w b k5 w17) := ha; clear HCR ha; have HR := hide (at_read (unhide HA13) (k := 1) (by rfl) (by decide)); rw [k5_new] at HR)
    | (go_at_call 21; refine (unhide HR).mono ?_; rintro e w18 ⟨r18, rfl, hb18, hg18, hk18⟩; have HK18 : Hid (Kept [] w w18) := ((unhide HA13).quiet hk18).kept; have q2 := hb18.cell 2; have q3 := hb18.cell 3; have q63 := hb18.cell 63; rw [show (u8s ((fl 8).take 3 ++ (fl 7).drop 3)).toArray[2]? = some (Value.int .u8 8) from by kernel_rfl] at q2; rw [show (u8s ((fl 8).take 3 ++ (fl 7).drop 3)).toArray[3]? = some (Value.int .u8 7) from by kernel_rfl] at q3; rw [show (u8s ((fl 8).take 3 ++ (fl 7).drop 3)).toArray[63]? = some (Value.int .u8 7) from by kernel_rfl] at q63; clear hb18 hg18 hk18 HR)
    | (go_at_call 13; refine (unhide HNUM _ _).mono ?_; rintro e wq ⟨rfl, hq⟩; have hq' := hq.symm; subst hq'; clear hq))
  go_ret
  exact ⟨rfl, unhide HK18⟩
end Go.Proofs.Ytfaoblnghkiibaa
