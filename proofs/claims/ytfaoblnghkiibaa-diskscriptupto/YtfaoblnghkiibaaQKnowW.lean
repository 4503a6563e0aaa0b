/- DiskKnown, as a walk. -/
import Derived.Test.YtfaoblnghkiibaaQKnown
import Derived.Test.YtfaoblnghkiibaaQLoad
namespace Go.Proofs.Ytfaoblnghkiibaa
open Go.RowKit

theorem at_fuse {w0 w : World} {b : Nat} {d : Dm} (h : At w0 b d w) (n : Int) (hn : n ≤ 9223372036854775807) :
    Calls Try.prog 18 #[.pointer (some ⟨b, 0, none⟩), .int .i64 n] w fun e w' => e = .returned (.tuple #[]) ∧ At w0 b (d.setFuse n) w' := by
  obtain ⟨F, h1, h2⟩ := h
  refine (fuse_any h1 n hn).mono ?_
  rintro e w' ⟨rfl, h3, h4⟩
  exact ⟨rfl, F, h3, h2.trans h4⟩
theorem at_sync {w0 w : World} {b : Nat} {d : Dm} (h : At w0 b d w) (hf : d.fuse ≠ some 0) (hpl : d.pend.length ≤ 9223372036854775807) :
    Calls Try.prog 22 #[.pointer (some ⟨b, 0, none⟩)] w fun e w' => e = .returned (.int .i64 0) ∧ At w0 b d.sync w' := by
  obtain ⟨F, h1, h2⟩ := h
  refine (sync_yes h1 hf hpl).mono ?_
  rintro e w' ⟨rfl, h3, h4⟩
  exact ⟨rfl, F, h3, h2.trans h4⟩
theorem at_sync_no {w0 w : World} {b : Nat} {d : Dm} (h : At w0 b d w) (hf : d.fuse = some 0) :
    Calls Try.prog 22 #[.pointer (some ⟨b, 0, none⟩)] w fun e w' => e = .returned (.int .i64 80) ∧ w' = w := by
  obtain ⟨F, h1, h2⟩ := h
  exact sync_no h1 hf
theorem at_write_no {w0 w : World} {b : Nat} {d : Dm} (h : At w0 b d w) {x : Int} {r : Int} (hr : ((rE d x : Nat) : Int) = r) (hz : rE d x ≠ 0) (v : Value) :
    Calls Try.prog 19 #[.pointer (some ⟨b, 0, none⟩), .int .i64 x, v] w fun e w' => e = .returned (.int .i64 r) ∧ w' = w := by
  obtain ⟨F, h1, h2⟩ := h
  subst hr
  exact write_no1 h1 hz v
theorem at_read_no {w0 w : World} {b : Nat} {d : Dm} (h : At w0 b d w) {x : Int} {r : Int} (hr : ((rE d x : Nat) : Int) = r) (hz : rE d x ≠ 0) :
    Calls Try.prog 21 #[.pointer (some ⟨b, 0, none⟩), .int .i64 x] w fun e w' => e = .returned (.tuple #[.slice none 0 0, .int .i64 r]) ∧ w' = w := by
  obtain ⟨F, h1, h2⟩ := h
  subst hr
  exact read_no h1 hz
theorem at_write_size {w0 w : World} {b : Nat} {d : Dm} (h : At w0 b d w) {x : Int} (hz : rE d x = 0) {v : Value} {l : List Nat} (hv : Sees w v l) (hl : l.length ≠ 64) :
    Calls Try.prog 19 #[.pointer (some ⟨b, 0, none⟩), .int .i64 x, v] w fun e w' => e = .returned (.int .i64 82) ∧ w' = w := by
  obtain ⟨F, h1, h2⟩ := h
  exact write_no2 h1 hz hv hl
theorem at_counts {w0 w : World} {b : Nat} {d : Dm} (h : At w0 b d w) : Calls Try.prog 24 #[.pointer (some ⟨b, 0, none⟩)] w fun e w' => e = .returned (.tuple #[.int .i64 d.wr, .int .i64 d.sy]) ∧ ∃ m, w' = w.drewN m := by
  obtain ⟨F, h1, h2⟩ := h
  exact counts_any h1

def j1 : Dm := k0.setFuse 1
def j2 : Dm := j1.write 0 (fl 1)
def j3 : Dm := j2.setFuse (-1)
def j4 : Dm := j3.sync
theorem sees_cut {w : World} {g b m : Nat} {t : TypeId} (h : Blk w g (u8s (fl b)).toArray t) (hb : b < 256) (hm : m ≤ 64) : Sees w (.slice (some ⟨g, 0, none⟩) m 64) ((fl b).take m) := by
  have e : ((fl b).take m).length = m := by rw [List.length_take, fl_len]; omega
  refine ⟨some ⟨g, 0, none⟩, 64, by rw [e], by rw [e]; exact hm, by simp [maxLen], fun x hx => fl_byte hb x (List.mem_of_mem_take hx), Or.inr ⟨g, 0, rfl, h.lt, fun j hj => ?_⟩⟩
  rw [e] at hj
  rw [h.cell, Nat.zero_add]
  have := u8s_at (fl b) (show j < (fl b).length by rw [fl_len]; omega)
  simp only [List.getElem?_toArray]
  rw [this, List.getD, List.getD, List.getElem?_take, if_pos hj]

set_option maxRecDepth 100000 in
set_option maxHeartbeats 4000000 in
theorem diskKnown_walk (w : World) : Calls Try.prog 4 #[] w fun e w' => e = .returned (.bool true) ∧ Kept [] w w' := by
  have HNUM := hide num_any
  have HN0 := hide (fun w => new_no (w := w) (x := 0) (by omega))
  have HN1 := hide (fun w => new_no (w := w) (x := 65537) (by omega))
  have HL0 := hide (fun w a cap => load_no (w := w) (a := a) (L := 63) (cap := cap) (by omega) (by unfold noDisk; omega))
  have HL1 := hide (fun w a cap => load_no (w := w) (a := a) (L := 0) (cap := cap) (by omega) (by unfold noDisk; omega))
  go_enter Try.func4, Try.ntmps4
  go_wp2_with (first
    | (go_at_call 17; refine (known_any w).mono ?_; rintro e w0 ⟨rfl, hk0⟩; have HK0 := hide hk0; clear hk0; have HN := hide (at_new (w := w0) (n := 4) (by omega) (by omega)))
    | (go_at_call 9; refine (unhide HN).mono ?_; rintro e w1 ⟨b, rfl, ha⟩; have HA0 : Hid (At w0 b k0 w1) := ha; clear HN ha; have HF := hide (at_fuse (unhide HA0) 1 (by omega)))
    | (go_at_call 18; refine (unhide HF).mono ?_; rintro e w2 ⟨rfl, ha⟩; have HA1 : Hid (At w0 b j1 w2) := ha; clear HF ha)
    | (go_at_call 20; refine (full_at 1 (by rfl)).mono ?_; rintro e w3 ⟨g3, rfl, hb3, hg3, hk3⟩; have HW := hide (at_write (unhide HA1) hk3 (k := 0) (by rfl) (sees_full hb3 (by omega)) hg3 (fl_len 1) (by decide)); clear hb3 hg3 hk3)
    | (go_at_call 19; refine (unhide HW).mono ?_; rintro e w4 ⟨rfl, ha⟩; have HA2 : Hid (At w0 b j2 w4) := ha; clear HW ha HA1))
  go_wp2_with (first
    | (go_at_call 20; refine (full_at 1 (by rfl)).mono ?_; rintro e w5 ⟨g5, rfl, hb5, hg5, hk5⟩; have HA3 := hide ((unhide HA2).quiet hk5); clear hb5 hg5 hk5; have HW := hide (at_write_no (unhide HA3) (x := 9) (r := 80) (by rfl) (by decide)))
    | (go_at_call 19; refine (unhide HW _).mono ?_; rintro e wq ⟨rfl, hq⟩; have hq' := hq.symm; subst hq'; clear hq HW; have HR := hide (at_read_no (unhide HA3) (x := 0) (r := 80) (by rfl) (by decide)); have HS := hide (at_sync_no (unhide HA3) (by rfl)); have HP := hide (at_pending (unhide HA3)); rw [show ((j2.pend.length : Nat) : Int) = 1 from rfl] at HP; have HF := hide (at_fuse (unhide HA3) (-1) (by omega)))
    | (go_at_call 21; refine (unhide HR).mono ?_; rintro e wq ⟨rfl, hq⟩; have hq' := hq.symm; subst hq'; clear hq HR)
    | (go_at_call 22; refine (unhide HS).mono ?_; rintro e wq ⟨rfl, hq⟩; have hq' := hq.symm; subst hq'; clear hq HS)
    | (go_at_call 23; refine (unhide HP).mono ?_; rintro e wq ⟨rfl, hq⟩; have hq' := hq.symm; subst hq'; clear hq HP)
    | (go_at_call 18; refine (unhide HF).mono ?_; rintro e w6 ⟨rfl, ha⟩; have HA4 : Hid (At w0 b j3 w6) := ha; clear HF ha HA3))
  have HS := hide (at_sync (unhide HA4) (by decide) (by decide))
  go_wp2_with (first
    | (go_at_call 22; refine (unhide HS).mono ?_; rintro e w7 ⟨rfl, ha⟩; have HA5 : Hid (At w0 b j4 w7) := ha; clear ha HS; have HC := hide (at_counts (unhide HA5)); rw [show j4.wr = 1 from rfl, show j4.sy = 1 from rfl] at HC)
    | (go_at_call 24; refine (unhide HC).mono ?_; rintro e wc ⟨rfl, m, hq⟩; have HA6 : Hid (At w0 b j4 wc) := (by rw [hq]; exact (unhide HA5).quiet (kept_drewN _ m)); clear hq HC; have HP := hide (at_pending (unhide HA6)); rw [show ((j4.pend.length : Nat) : Int) = 0 from rfl] at HP)
    | (go_at_call 23; refine (unhide HP).mono ?_; rintro e wq ⟨rfl, hq⟩; have hq' := hq.symm; subst hq'; clear hq HP)
    | (go_at_call 13; refine (unhide HNUM _ _).mono ?_; rintro e wq ⟨rfl, hq⟩; have hq' := hq.symm; subst hq'; clear hq))
  go_wp2_with (first
    | (go_at_call 9; refine (unhide HN0 _).mono ?_; rintro e wq ⟨rfl, hq⟩; have hq' := hq.symm; subst hq'; clear hq HN0))
  go_wp2_with (first
    | (go_at_call 9; refine (unhide HN1 _).mono ?_; rintro e wq ⟨rfl, hq⟩; have hq' := hq.symm; subst hq'; clear hq HN1)
    | (go_at_call 20; refine (full_at 1 (by rfl)).mono ?_; rintro e w8 ⟨g8, rfl, hb8, hg8, hk8⟩; have HA7 := hide ((unhide HA6).quiet hk8); clear hb8 hg8 hk8 HA6)
    | (go_at_call 10; refine (unhide HL0 _ _ _).mono ?_; rintro e wq ⟨rfl, hq⟩; have hq' := hq.symm; subst hq'; clear hq HL0))
  go_wp2_with (first
    | (go_at_call 10; refine (unhide HL1 _ _ _).mono ?_; rintro e wq ⟨rfl, hq⟩; have hq' := hq.symm; subst hq'; clear hq HL1)
    | (go_at_call 20; refine (full_at 1 (by rfl)).mono ?_; rintro e w9 ⟨g9, rfl, hb9, hg9, hk9⟩; have HA8 := hide ((unhide HA7).quiet hk9); clear hb9 hg9 hk9 HA7; have HW := hide (at_write_no (unhide HA8) (x := 4) (r := 81) (by rfl) (by decide)))
    | (go_at_call 19; refine (unhide HW _).mono ?_; rintro e wq ⟨rfl, hq⟩; have hq' := hq.symm; subst hq'; clear hq; clear HW))
  go_wp2_with (first
    | (go_at_call 20; refine (full_at 1 (by rfl)).mono ?_; rintro e w10 ⟨g10, rfl, hb10, hg10, hk10⟩; have HA9 := hide ((unhide HA8).quiet hk10); clear hb10 hg10 hk10 HA8; have HW := hide (at_write_no (unhide HA9) (x := -1) (r := 81) (by rfl) (by decide)))
    | (go_at_call 19; refine (unhide HW _).mono ?_; rintro e wq ⟨rfl, hq⟩; have hq' := hq.symm; subst hq'; clear hq; clear HW))
  go_wp2_with (first
    | (go_at_call 20; refine (full_at 1 (by rfl)).mono ?_; rintro e w11 ⟨g11, rfl, hb11, hg11, hk11⟩; have HA10 := hide ((unhide HA9).quiet hk11); have HW := hide (at_write_size (unhide HA10) (x := 0) (by rfl) (sees_cut hb11 (by omega) (m := 63) (by omega)) (by rw [List.length_take, fl_len]; omega)); clear hb11 hg11 hk11 HA9; have HR := hide (at_read_no (unhide HA10) (x := 4) (r := 81) (by rfl) (by decide)))
    | (go_at_call 19; refine (unhide HW).mono ?_; rintro e wq ⟨rfl, hq⟩; have hq' := hq.symm; subst hq'; clear hq; clear HW)
    | (go_at_call 21; refine (unhide HR).mono ?_; rintro e wq ⟨rfl, hq⟩; have hq' := hq.symm; subst hq'; clear hq; clear HR)
    | (go_at_call 13; refine (unhide HNUM _ _).mono ?_; rintro e wq ⟨rfl, hq⟩; have hq' := hq.symm; subst hq'; clear hq))
  have HKE : Hid (Kept [] w w11) := (unhide HK0).trans (unhide HA10).kept (by simp)
  have HNF := hide nfuse
  have HNC := hide ncrash
  have HNW := hide nwrite
  have HNR := hide nread
  have HNS := hide nsync
  have HNCO := hide ncounts
  have HNSE := hide nsectors
  have HNP := hide npending
  have HNI := hide nimage
  go_wp2_with (first
    | (go_at_call 18; refine (unhide HNF _ _).mono ?_; rintro e wq ⟨rfl, hq⟩; have hq' := hq.symm; subst hq'; clear hq)
    | (go_at_call 25; refine (unhide HNC _ _ _ _).mono ?_; rintro e wq ⟨rfl, hq⟩; have hq' := hq.symm; subst hq'; clear hq)
    | (go_at_call 19; refine (unhide HNW _ _ _).mono ?_; rintro e wq ⟨rfl, hq⟩; have hq' := hq.symm; subst hq'; clear hq)
    | (go_at_call 21; refine (unhide HNR _ _).mono ?_; rintro e wq ⟨rfl, hq⟩; have hq' := hq.symm; subst hq'; clear hq)
    | (go_at_call 22; refine (unhide HNS _).mono ?_; rintro e wq ⟨rfl, hq⟩; have hq' := hq.symm; subst hq'; clear hq)
    | (go_at_call 24; refine (unhide HNCO _).mono ?_; rintro e wq ⟨rfl, hq⟩; have hq' := hq.symm; subst hq'; clear hq)
    | (go_at_call 26; refine (unhide HNSE _).mono ?_; rintro e wq ⟨rfl, hq⟩; have hq' := hq.symm; subst hq'; clear hq)
    | (go_at_call 23; refine (unhide HNP _).mono ?_; rintro e wq ⟨rfl, hq⟩; have hq' := hq.symm; subst hq'; clear hq)
    | (go_at_call 27; refine (unhide HNI _).mono ?_; rintro e wq ⟨rfl, hq⟩; have hq' := hq.symm; subst hq'; clear hq)
    | (go_at_call 13; refine (unhide HNUM _ _).mono ?_; rintro e wq ⟨rfl, hq⟩; have hq' := hq.symm; subst hq'; clear hq))
  go_ret
  exact ⟨rfl, unhide HKE⟩
end Go.Proofs.Ytfaoblnghkiibaa
