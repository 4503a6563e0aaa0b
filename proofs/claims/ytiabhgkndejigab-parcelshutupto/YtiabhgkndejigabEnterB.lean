/- The reader's Enter. -/
import Derived.Test.YtiabhgkndejigabEnter
import Derived.Deep.DeepCutAuto
namespace Go.Proofs.Ytiabhgkndejigab
open Go.RowKit

set_option maxRecDepth 100000 in
set_option maxHeartbeats 4000000 in
theorem clos_enter_ok {w : World} {b : Nat} {lv bv : Value} {hs : List Value} {l r : List Nat} {behind : List (List Nat)} {D : Option Nat} (h : Rf w b lv bv hs l behind D) (hl : ∀ x ∈ l, x < 256) (p q : Nat) (z : Value)
    (hp : w.cell? ⟨p, 0, none⟩ = some (.pointer (some ⟨b, 0, none⟩))) (hpb : p ≠ b) (hpv : bv.ownBlock ≠ some p) (hq : Blk w q #[z] 3) (hqf : q ∉ D.toList ++ rfoot b bv) (h16 : behind.length < 16) (n : Nat) (hr : readNum 0 0 l = .inr (n, r)) (hn : n ≤ r.length) (hrl : r.length ≤ 140737488355328) :
    Calls Try.prog 56 #[.pointer (some ⟨p, 0, none⟩), .pointer (some ⟨q, 0, none⟩)] w fun e w' => e = .returned (.tuple #[]) ∧ Entered b q bv r behind D n w w' := by
  have HH := hide h
  have HC : Hid (∀ wx, Kept [] w wx → Calls Try.prog 59 #[.pointer (some ⟨b, 0, none⟩)] wx fun e w' => (∀ n rest, readNum 0 0 l = .inr (n, rest) → e = .returned (.int .u64 (n : Nat)) ∧ ∃ lv', Rd w' b lv' bv rest ∧ lv'.ownBlock = lv.ownBlock) ∧ (∀ c, readNum 0 0 l = .inl c → Faulty e c ∧ ∃ lv' l', Rd w' b lv' bv l') ∧ Kept [b] wx w') := fun wx hk => number_any (h.rd.kept hk (by simp) (by simp)) hl
  have hpl := World.block_lt_of_cell? w ⟨p, 0, none⟩ hp
  obtain ⟨c0, c1, c2⟩ := blk3 h.rd.blk
  obtain ⟨ba, bc, hbv⟩ := own_len h.own
  rw [hbv] at c1
  have hlen := h.hl
  have hne16 : ((hs.length : Int) == 16) = false := by rw [beq_eq_false_iff_ne]; omega
  have hh16 : hs.length < 16 := by omega
  have HLEN := hide hlen
  have HR := hide hr
  have HQ := hide hq
  have HBV := hide hbv
  clear hlen h16
  have hqb : q ≠ b := fun e => hqf (by simp [rfoot, e])
  clear h hl hr hbv hq
  go_enter Try.func56, Try.ntmps56
  go_wp2_with (first | (go_at_call 57; refine (refuse_no _ _).mono ?_; rintro e w'' ⟨rfl, rfl⟩))
  go_cut [2] (fun f wc => ∃ a cap lv', f = .slice a n cap ∧ Hid (Sees wc (.slice a n cap) (r.take n) ∧ (Value.slice a n cap).ownBlock = lv.ownBlock ∧ Rd wc b lv' bv (r.drop n) ∧ lv'.ownBlock = lv.ownBlock ∧ Kept [b] w wc))
  case first =>
    go_region_with (first
      | (go_at_call 59; refine (unhide HC w.drew (Kept.refl [] w).drew).mono ?_; rintro e w1 ⟨g1, _, hk1⟩; obtain ⟨rfl, lv1, hrd1, ho1⟩ := g1 n r (unhide HR); have hp1 := (hk1.cell (p := ⟨p, 0, none⟩) hpl (by simpa using hpb)).trans hp; have HC2 := hide (cut_ok hrd1 n hn); have HK1 := hide hk1; have HO1 := hide ho1; clear g1 hrd1 ho1 hk1)
      | (go_at_call 58; refine (unhide HC2).mono ?_; rintro e w2 ⟨a, cap, rfl, hs2, hao, lv', hrd, ho, hk⟩; have HK : Hid (Kept [b] w w2) := hide (((Kept.refl [b] w).drew.trans (unhide HK1) (fun x hx => Or.inl hx)).trans hk (fun x hx => Or.inl hx)); have HO := hide (ho.trans (unhide HO1)); have HAO := hide (hao.trans (unhide HO1)); have HS2 := hide hs2; have HRD := hide hrd; clear hs2 hrd ho hao hk HC2 HK1 HO1))
    all_goals
      go_wp2_with fail
      go_meet
      case rel => exact ⟨a, cap, lv', rfl, hide ⟨unhide HS2, unhide HAO, unhide HRD, unhide HO, unhide HK⟩⟩
  case rest =>
    obtain ⟨a, cap, lv', rfl, HX⟩ := hcut
    obtain ⟨la, lc, hlv⟩ := sees_len (unhide HX).2.2.1.see
    generalize hLL : (r.drop n).length = L at hlv
    clear hLL
    subst hlv
    obtain ⟨d0, d1, d2⟩ := blk3 (unhide HX).2.2.1.blk
    rw [unhide HBV] at d1
    have e0 := (unhide HX).2.2.1.blk.frozen 0
    have e1 := (unhide HX).2.2.1.blk.frozen 1
    have hp2 := ((unhide HX).2.2.2.2.cell (p := ⟨p, 0, none⟩) hpl (by simpa using hpb)).trans hp
    obtain ⟨i0, hi, hz0, hz1, hz2⟩ := info_parts Try.info22
    have HSO1 : Hid (((wc.alloc (.cells #[.slice la L lc] 22)).drew).ownsRow 0 22 1 (.slice ba hs.length bc) hs.length hs) := by
      have := own_kept (unhide HH).own (unhide HX).2.2.2.2 (fun x hx => by simp; intro e; subst e; exact (unhide HH).n2 hx)
      rw [unhide HBV] at this
      exact hide (own_kept this ((Kept.refl [] wc).alloc _).drew (by simp))
    have HNW : Hid (∀ j u, [Value.slice la L lc][j]? = some u → ((wc.alloc (.cells #[.slice la L lc] 22)).drew).cell? ((⟨wc.heap.size, 0, none⟩ : Addr).add j) = some u) := hide (news_hdr wc (.slice la L lc))
    have HON : Hid (∀ u ∈ [Value.slice la L lc], u.oneCell' = true) := by intro u hu; simp at hu; subst hu; rfl
    have hml : hs.length + 1 ≤ maxLen := by unfold maxLen; omega
    have hby : (hs.length + 1) * 24 ≤ 140737488355328 := by omega
    have hbne : some b ≠ (Value.slice ba hs.length bc).ownBlock := by rw [← unhide HBV]; exact fun e => (unhide HH).n2 e.symm
    have hpne : some p ≠ (Value.slice ba hs.length bc).ownBlock := by rw [← unhide HBV]; exact fun e => hpv e.symm
    have hqv : some q ≠ (Value.slice ba hs.length bc).ownBlock := by rw [← unhide HBV]; intro e; exact hqf (by simp [rfoot, ← e])
    have hbl := (unhide HX).2.2.1.blk.lt
    have hpl2 : p < wc.heap.size := Nat.lt_of_lt_of_le hpl (unhide HX).2.2.2.2.size
    have HQ2 := hide ((unhide HQ).kept (unhide HX).2.2.2.2 (by simpa using hqb))
    have hql2 := (unhide HQ2).lt
    have HG : Hid (∀ (w1 : World), ((wc.alloc (.cells #[.slice la L lc] 22)).drew).grownBy w1 (Value.slice ba hs.length bc).ownBlock → w1.cell? ⟨b, 0, none⟩ = some (.slice la L lc) ∧ w1.cell? ⟨b, 1, none⟩ = some (.slice ba hs.length bc) ∧ w1.frozen? ⟨b, 0, none⟩ = false ∧ w1.frozen? ⟨b, 1, none⟩ = false ∧ w1.cell? ⟨p, 0, none⟩ = some (.pointer (some ⟨b, 0, none⟩)) ∧ w1.cell? ⟨q, 0, none⟩ = some z ∧ w1.frozen? ⟨q, 0, none⟩ = false) := by
      intro w1 hg
      have hb3 : Blk w1 b #[.slice la L lc, bv, .int .i64 0] 62 := (hg.block b (by simp; omega) hbne).trans ((unhide HX).2.2.1.blk.alloc _)
      have hq3 : Blk w1 q #[z] 3 := (hg.block q (by simp; omega) hqv).trans ((unhide HQ2).alloc _)
      obtain ⟨x0, x1, x2⟩ := blk3 hb3
      refine ⟨x0, x1.trans (by rw [unhide HBV]), hb3.frozen 0, hb3.frozen 1, ?_, blk1 hq3, hq3.frozen 0⟩
      rw [hg.cell_far ⟨p, 0, none⟩ (by simp; omega) hpne]
      have := ((Kept.refl [] wc).alloc (.cells #[.slice la L lc] 22)).cell (p := ⟨p, 0, none⟩) hpl2 (by simp)
      exact this.trans hp2
    have hcA : (wc.alloc (.cells #[.slice la L lc] 22)).cell? ⟨b, 1, none⟩ = some (.slice ba hs.length bc) := (blk3 ((unhide HX).2.2.1.blk.alloc _)).2.1.trans (by rw [unhide HBV])
    have hcP : (wc.alloc (.cells #[.slice la L lc] 22)).cell? ⟨p, 0, none⟩ = some (.pointer (some ⟨b, 0, none⟩)) := (((Kept.refl [] wc).alloc (.cells #[.slice la L lc] 22)).cell (p := ⟨p, 0, none⟩) hpl2 (by simp)).trans hp2
    clear hbne hpne hqv hpl2 hql2 hbl HC HR hp hpl c0 c1 c2 hne16
    go_wp2_with fail
    go_cut [] (fun w5 => ∃ g gcap w1, w5 = w1.setCell ⟨b, 1, none⟩ (.slice (some ⟨g, 0, none⟩) (hs.length + 1) gcap) ∧ Hid (((wc.alloc (.cells #[.slice la L lc] 22)).drew).grownBy w1 (Value.slice ba hs.length bc).ownBlock ∧ w1.ownsRow 0 22 1 (.slice (some ⟨g, 0, none⟩) (hs.length + 1) gcap) (hs.length + 1) (hs ++ [.slice la L lc]) ∧ ((Value.slice (some ⟨g, 0, none⟩) (hs.length + 1) gcap).ownBlock = (Value.slice ba hs.length bc).ownBlock ∨ (Value.slice (some ⟨g, 0, none⟩) (hs.length + 1) gcap).ownBlock = some (wc.heap.size + 1))))
    case first =>
      go_region_law ((refine step_append_lies ((wc.alloc (.cells #[.slice la L lc] 22)).drew) (by rfl) (.tmp 18) (.tmp 23) 58 (by rfl) 0 22 i0 (.slice none 0 0) 1 24 Try.underlying58 hi hz0 hz1 hz2 rfl Nat.one_pos (.slice ba hs.length bc) hs.length hs (by rfl) (unhide HSO1) ⟨wc.heap.size, 0, none⟩ 1 1 [.slice la L lc] (by rfl) rfl (unhide HNW) (unhide HON) Nat.one_pos hml hby (Nat.zero_le _) _ rfl ?_; intro g gcap w1 hown1 hgrow1 hat1 hlt1; obtain ⟨hq1, hq2, hq3, hq4, hq5, hq6, hq7⟩ := unhide HG w1 hgrow1))
      all_goals
        have HFIN := hide (And.intro hgrow1 (And.intro hown1 (show (Value.slice (some ⟨g, 0, none⟩) (hs.length + 1) gcap).ownBlock = (Value.slice ba hs.length bc).ownBlock ∨ (Value.slice (some ⟨g, 0, none⟩) (hs.length + 1) gcap).ownBlock = some (wc.heap.size + 1) from by
          rcases hat1 with e | e
          · exact Or.inl e.symm
          · right; rw [e]; simp [Value.ownBlock])))
        clear hown1 hgrow1 hat1
        first | go_meet | (go_wp2_with fail; go_meet)
        case rel => exact ⟨g, gcap, w1, rfl, HFIN⟩
    case rest =>
      obtain ⟨g, gcap, w1, hw5, HFIN⟩ := hcut
      subst hw5
      obtain ⟨hq1, hq2, hq3, hq4, hq5, hq6, hq7⟩ := unhide HG w1 (unhide HFIN).1
      have HE := hide (enter_fin (z := z) (n := n) (unhide HH) (by rw [← unhide HLEN]; exact hh16) (unhide HQ) hqf (unhide HX).2.2.2.2 (unhide HX).2.2.1 (unhide HX).2.2.2.1 (unhide HX).1 (unhide HX).2.1 (by rw [unhide HBV]; exact (unhide HFIN).1) (unhide HFIN).2.1 (by rw [unhide HBV]; exact (unhide HFIN).2.2) hrl)
      clear HG HSO1 HNW HON HFIN hcA hcP hml hby hrl
      go_wp2
      go_end0
      exact ⟨rfl, unhide HE⟩
end Go.Proofs.Ytiabhgkndejigab
