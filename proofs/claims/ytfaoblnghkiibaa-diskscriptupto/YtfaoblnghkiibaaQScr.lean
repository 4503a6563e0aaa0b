/- DiskScript returns true. -/
import Derived.Test.YtfaoblnghkiibaaQScrA
import Derived.Deep.RegionHeld3
import Derived.Deep.DeepCutAuto
namespace Go.Proofs.Ytfaoblnghkiibaa
open Go.RowKit

/-- a script that came in -/
def Ops2 (w : World) (v : Value) (os : List OpM) : Prop :=
  ∃ a cap, v = .slice a os.length cap ∧ os.length ≤ 9223372036854775807 ∧ ∀ k o, os[k]? = some o → Op2 w o ∧ ∃ b off, a = some ⟨b, off, none⟩ ∧ b < w.heap.size ∧ w.rangeAt b (off + k * 7) (oc o)

theorem sta_start {w w1 w2 w3 w4 w5 w6 w7 : World} {pa qa pb qb : Value} {Xa Xb Ya Yb : List Nat} {sa sb : Option Dm} {g : Nat} (hk1 : Kept [] w w1) (hg1 : w.heap.size ≤ g) (hg2 : g < w1.heap.size)
    (da : Dh w2 pa Xa sa) (n2 : Nx [] w1 Xa w2) (db : Dh w3 pb Xb sb) (n3 : Nx [] w2 Xb w3) (ra : Rh w4 qa Ya sa) (n4 : Nx [] w3 Ya w4) (rb : Rh w5 qb Yb sb) (n5 : Nx [] w4 Yb w5) (k6 : Kept [] w5 w6) (k7 : Kept [g] w6 w7) (la : lenP sa = 0) (lb : lenP sb = 0) : Sta w w7 pa qa pb qb [] 0 := by
  have z1 := hk1.size
  have z2 := n2.kept.size
  have z3 := n3.kept.size
  have z4 := n4.kept.size
  have z5 := n5.kept.size
  have b1 : ∀ x ∈ Xa, w1.heap.size ≤ x ∧ x < w2.heap.size := fun x hx => ⟨by rcases n2.sub x hx with h | h; cases h; exact h, da.1 x hx⟩
  have b2 : ∀ x ∈ Xb, w2.heap.size ≤ x ∧ x < w3.heap.size := fun x hx => ⟨by rcases n3.sub x hx with h | h; cases h; exact h, db.1 x hx⟩
  have b3 : ∀ x ∈ Ya, w3.heap.size ≤ x ∧ x < w4.heap.size := fun x hx => ⟨by rcases n4.sub x hx with h | h; cases h; exact h, ra.1 x hx⟩
  have b4 : ∀ x ∈ Yb, w4.heap.size ≤ x ∧ x < w5.heap.size := fun x hx => ⟨by rcases n5.sub x hx with h | h; cases h; exact h, rb.1 x hx⟩
  have e45 := n5.kept.trans k6 (by simp)
  have e35 := n4.kept.trans e45 (by simp)
  have e25 := n3.kept.trans e35 (by simp)
  have e15 := n2.kept.trans e25 (by simp)
  have e05 := hk1.trans e15 (by simp)
  refine ⟨Xa ++ Ya, sa, Xb ++ Yb, sb, ⟨Xa, Ya, rfl, (da.quiet e25).keep k7 ?_, (ra.quiet e45).keep k7 ?_, ?_⟩, ⟨Xb, Yb, rfl, (db.quiet e35).keep k7 ?_, (rb.quiet k6).keep k7 ?_, ?_⟩, ?_, ?_, ?_, by omega, by omega, e05.trans k7 (fun x hx => by simp at hx; right; omega), by simp⟩
  · intro x hx hm; have := b1 x hx; simp at hm; omega
  · intro x hx hm; have := b3 x hx; simp at hm; omega
  · intro x hx hm; have h1 := b1 x hx; have h2 := b3 x hm; omega
  · intro x hx hm; have := b2 x hx; simp at hm; omega
  · intro x hx hm; have := b4 x hx; simp at hm; omega
  · intro x hx hm; have h1 := b2 x hx; have h2 := b4 x hm; omega
  · intro x hx hm
    rcases List.mem_append.1 hx with h | h <;> rcases List.mem_append.1 hm with h' | h'
    · have h1 := b1 x h; have h2 := b2 x h'; omega
    · have h1 := b1 x h; have h2 := b4 x h'; omega
    · have h1 := b3 x h; have h2 := b2 x h'; omega
    · have h1 := b3 x h; have h2 := b4 x h'; omega
  · intro x hx
    rcases List.mem_append.1 hx with h | h
    · have h1 := b1 x h; omega
    · have h1 := b3 x h; omega
  · intro x hx
    rcases List.mem_append.1 hx with h | h
    · have h1 := b2 x h; omega
    · have h1 := b4 x h; omega

theorem dAt_cell {a b : Value} {t : Nat} (ht : t < 3) : (#[a, b, Value.pointer none] : Array Value)[t]? = some (dAt a b t) := by
  rcases (show t = 0 ∨ t = 1 ∨ t = 2 by omega) with rfl | rfl | rfl <;> rfl
/-- the step of the pair t, with what is read besides -/
theorem sta_call {w0 w : World} {pa qa pb qb : Value} {gd gm gB k : Nat} {o : OpM} {ex : List (Nat × Array Value × TypeId)} (h : Sta w0 w pa qa pb qb ((gB, (oc o).toArray, 41) :: (gm, #[qa, qb, .pointer none], 30) :: (gd, #[pa, pb, .pointer none], 25) :: ex) k) {t : Nat} (ht : t < 3) (ho : Op2 w0 o) (hl : (k + 1) * 72 ≤ 140737488355328) {W : World} (hW : Quiet w W) :
    Calls Try.prog 16 #[dAt pa pb t, dAt qa qb t, .agg (oc o).toArray] W fun e w' => e = .returned (.bool true) ∧ Sta w0 w' pa qa pb qb ((gB, (oc o).toArray, 41) :: (gm, #[qa, qb, .pointer none], 30) :: (gd, #[pa, pb, .pointer none], 25) :: ex) (k + 1) ∧
      w'.cell? ⟨gd, t, none⟩ = some (dAt pa pb t) ∧ w'.cell? ⟨gm, t, none⟩ = some (dAt qa qb t) ∧ w'.cell? ⟨gB, 0, none⟩ = some (.int .i64 o.who) ∧ w'.cell? ⟨gB, 1, none⟩ = some (.int .i64 o.kind) ∧ w'.cell? ⟨gB, 2, none⟩ = some (.int .i64 o.n) ∧ w'.cell? ⟨gB, 3, none⟩ = some o.dv ∧ w'.cell? ⟨gB, 4, none⟩ = some o.kv ∧ w'.cell? ⟨gB, 5, none⟩ = some (.int .i64 o.torn) ∧ w'.cell? ⟨gB, 6, none⟩ = some (.int .i64 o.cut) := by
  refine (sta_step (h.quiet hW.kept) t ho hl).mono ?_
  rintro e w' ⟨he, hs⟩
  have b1 := hs.blk (e := (gB, (oc o).toArray, 41)) (by simp)
  have b2 := hs.blk (e := (gm, #[qa, qb, .pointer none], 30)) (by simp)
  have b3 := hs.blk (e := (gd, #[pa, pb, .pointer none], 25)) (by simp)
  exact ⟨he, hs, (b3.cell t).trans (dAt_cell ht), (b2.cell t).trans (dAt_cell ht), (b1.cell 0).trans rfl, (b1.cell 1).trans rfl, (b1.cell 2).trans rfl, (b1.cell 3).trans rfl, (b1.cell 4).trans rfl, (b1.cell 5).trans rfl, (b1.cell 6).trans rfl⟩

def opK (c : Int) : OpM := ⟨0, c, 0, .slice none 0 0, [], .slice none 0 0, [], 0, 0⟩
theorem opK_ok (w : World) (c : Int) : Op2 w (opK c) :=
  ⟨⟨⟨none, 0, rfl, by simp [opK], by simp [maxLen], by simp [opK], Or.inl rfl⟩, SeesB.nil w, by simp [opK], fun v hv => by simp [oc, opK] at hv; rcases hv with rfl | rfl | rfl | rfl | rfl | rfl | rfl <;> rfl⟩, by simp [opK], by simp [opK]⟩
theorem sta_last {w0 w : World} {pa qa pb qb : Value} {gd gm k : Nat} (c : Int) (h : Sta w0 w pa qa pb qb [(gm, #[qa, qb, .pointer none], 30), (gd, #[pa, pb, .pointer none], 25)] k) {t : Nat} (ht : t < 3) (hl : (k + 1) * 72 ≤ 140737488355328) {W : World} (hW : Quiet w W) :
    Calls Try.prog 16 #[dAt pa pb t, dAt qa qb t, .agg #[.int .i64 0, .int .i64 c, .int .i64 0, .slice none 0 0, .slice none 0 0, .int .i64 0, .int .i64 0]] W fun e w' => e = .returned (.bool true) ∧ Sta w0 w' pa qa pb qb [(gm, #[qa, qb, .pointer none], 30), (gd, #[pa, pb, .pointer none], 25)] (k + 1) ∧
      w'.cell? ⟨gd, t, none⟩ = some (dAt pa pb t) ∧ w'.cell? ⟨gm, t, none⟩ = some (dAt qa qb t) := by
  refine (sta_step (h.quiet hW.kept) t (opK_ok w0 c) hl).mono ?_
  rintro e w' ⟨he, hs⟩
  have b2 := hs.blk (e := (gm, #[qa, qb, .pointer none], 30)) (by simp)
  have b3 := hs.blk (e := (gd, #[pa, pb, .pointer none], 25)) (by simp)
  exact ⟨he, hs, (b3.cell t).trans (dAt_cell ht), (b2.cell t).trans (dAt_cell ht)⟩

set_option maxRecDepth 100000 in
set_option maxHeartbeats 8000000 in
theorem script_walk {w : World} {iv sv : Value} {bs : List Nat} {os : List OpM} (hi : Sees w iv bs) (hs : Ops2 w sv os) (hil : bs.length ≤ 1048576) (hos : os.length ≤ 1048576) (x : Int) :
    Calls Try.prog 3 #[.int .i64 x, iv, sv] w fun e w' => e = .returned (.bool true) ∧ Kept [] w w' := by
  have HNUM := hide num_any
  have HI := hide hi
  have HS := hide hs
  have HL := hide (lent_any hi (by omega))
  obtain ⟨ia, ic, rfl, -⟩ := hi
  obtain ⟨sa, sc, rfl, -⟩ := hs
  have HIL := hide hil
  clear hil
  generalize hLI : bs.length = LI at *
  generalize hLO : os.length = LO at *
  have HLI := hide hLI
  have HLO := hide hLO
  clear hLI hLO
  have HNW := fun W => hide (new_h W x)
  have HRN := fun W => hide (rnew_h W x)
  generalize hen : errN x = en at *
  clear hen
  go_enter Try.func3, Try.ntmps3
  go_wp2_with (first
    | (go_at_call 8; refine (unhide HL).mono ?_; rintro e w1 ⟨g, cap, rfl, hl1, hk1⟩; have HL1 := hide hl1; have HK1 := hide hk1; clear HL hl1 hk1)
    | (go_at_call 9; refine (unhide (HNW _)).mono ?_; rintro e w2 ⟨ba, Xa, rfl, hda, hn2⟩; have HDA := hide hda; have HN2 := hide hn2; clear HNW hda hn2
       have HL2 := hide ((unhide HL1).kept (unhide HN2).kept (by simp))
       have HLD := hide (load_h (unhide HL2).sees (by rw [unhide HLI]; have := unhide HIL; omega)))
    | (go_at_call 10; refine (unhide HLD).mono ?_; rintro e w3 ⟨bb, Xb, rfl, hdb, hn3⟩; have HDB := hide hdb; have HN3 := hide hn3; clear HLD hdb hn3)
    | (go_at_call 11; refine (unhide (HRN _)).mono ?_; rintro e w4 ⟨ma, Ya, rfl, hra, hn4⟩; have HRA := hide hra; have HN4 := hide hn4; clear HRN hra hn4
       have hn1 : (optA (mkN x) ba).isNone = (optA (mkN x) ma).isNone := by unfold optA; simp
       have HK14 : Hid (Kept [] w1 w4) := (((unhide HN2).kept.trans (unhide HN3).kept (by simp)).trans (unhide HN4).kept (by simp))
       have HRL := hide (rload_h ((unhide HI).kept ((unhide HK1).trans (unhide HK14) (by simp)) (Or.inr (by simp))) (by rw [unhide HLI]; have := unhide HIL; omega)))
    | (go_at_call 12; refine (unhide HRL).mono ?_; rintro e w5 ⟨mb, Yb, rfl, hrb, hn5⟩; have HRB := hide hrb; have HN5 := hide hn5; clear HRL hrb hn5
       have hn2 : (optA (mkL bs) bb).isNone = (optA (mkL bs) mb).isNone := by unfold optA; simp
       have HK15 : Hid (Kept [] w1 w5) := (unhide HK14).trans (unhide HN5).kept (by simp)
       have HL5 := hide ((unhide HL1).kept (unhide HK15) (by simp))
       have HKP := hide (kept_any (unhide HL5) ((unhide HI).kept ((unhide HK1).trans (unhide HK15) (by simp)) (Or.inr (by simp)))))
    | (go_at_call 13; refine (unhide HNUM _ _).mono ?_; rintro e wq ⟨rfl, hq⟩; have hq' := hq.symm; subst hq'; clear hq)
    | (go_at_call 14; refine (unhide HKP).mono ?_; rintro e w6 ⟨rfl, hq6⟩; have HQ6 := hide hq6; clear HKP hq6
       have HOV := hide (over_h (show Mine w.heap.size w6 (.slice (some ⟨g, 0, none⟩) LI cap) bs from by
                                                                                                                          have h6 : Lent w5 w.heap.size g cap bs.length bs := by rw [unhide HLI]; exact unhide HL5
                                                                                                                          have h7 := h6.mine.quiet (unhide HQ6).kept
                                                                                                                          rw [unhide HLI] at h7
                                                                                                                          exact h7)))
    | (go_at_call 15; refine (unhide HOV).mono ?_; rintro e w7 ⟨rfl, hk7⟩; have hk7' : Kept [g] w6 w7 := (by simpa [Value.ownBlock] using hk7)
       have HST := hide (sta_start (unhide HK1) (unhide HL1).caps.2.2.1 (unhide HL1).caps.2.2.2 (unhide HDA) (unhide HN2) (unhide HDB) (unhide HN3) (unhide HRA) (unhide HN4) (unhide HRB) (unhide HN5) (unhide HQ6).kept hk7' (lenN x) (lenL bs)); clear HOV hk7 hk7'))
  have HS9 : Hid (Sta w ((w7.alloc (.cells #[.pointer (optA (mkN x) ba), .pointer (optA (mkL bs) bb), .pointer none] 25)).alloc (.cells #[.pointer (optA (mkN x) ma), .pointer (optA (mkL bs) mb), .pointer none] 30)) (.pointer (optA (mkN x) ba)) (.pointer (optA (mkN x) ma)) (.pointer (optA (mkL bs) bb)) (.pointer (optA (mkL bs) mb))
      [(w7.heap.size + 1, #[.pointer (optA (mkN x) ma), .pointer (optA (mkL bs) mb), .pointer none], 30), (w7.heap.size, #[.pointer (optA (mkN x) ba), .pointer (optA (mkL bs) bb), .pointer none], 25)] 0) := by
    unfold Hid
    have := ((unhide HST).push #[.pointer (optA (mkN x) ba), .pointer (optA (mkL bs) bb), .pointer none] 25).push #[.pointer (optA (mkN x) ma), .pointer (optA (mkL bs) mb), .pointer none] 30
    simpa using this
  clear HST HL1 HK1 HDA HN2 HL2 HDB HN3 HRA HN4 HK14 HRB HN5 HK15 HL5 HQ6 hn1 hn2
  generalize optA (mkN x) ba = oa at *
  generalize optA (mkN x) ma = ox at *
  generalize optA (mkL bs) bb = ob at *
  generalize optA (mkL bs) mb = oy at *
  go_loopw [20] (fun i wr => ∃ k : Nat, k ≤ LO ∧ i = .int .i64 k ∧ Sta w wr (.pointer oa) (.pointer ox) (.pointer ob) (.pointer oy) [(w7.heap.size + 1, #[.pointer ox, .pointer oy, .pointer none], 30), (w7.heap.size, #[.pointer oa, .pointer ob, .pointer none], 25)] k) (fun i _ => LO - (intOf i).toNat)
  case atStart => exact ⟨0, by omega, rfl, unhide HS9⟩
  case round =>
    clear HS9
    obtain ⟨k, hk, rfl, hst⟩ := hrel
    by_cases hkl : k < LO
    · obtain ⟨o, hok⟩ : ∃ o, os[k]? = some o := ⟨_, List.getElem?_eq_getElem (by rw [unhide HLO]; exact hkl)⟩
      obtain ⟨sa', sc', hse, -, hsc⟩ := unhide HS
      injection hse with e1 e2 e3
      subst e1
      obtain ⟨ho2, pb, off, rfl, hpb, hrg⟩ := hsc k o hok
      have HR := hide (range_kept hrg hst.kept hpb (by simp))
      have HO2 := hide ho2
      have HONE := hide ho2.ok.one
      have HST1 := hide (hst.push (oc o).toArray 41)
      have t1 : (k : Int) < (LO : Int) := by omega
      clear hst hsc hok ho2 hpb hrg e2 e3
      obtain ⟨who, kind, n, dv, dl, kv, kl, torn, cut⟩ := o
      have q0 : (wr.alloc (.cells (oc ⟨who, kind, n, dv, dl, kv, kl, torn, cut⟩).toArray 41)).cell? ⟨wr.heap.size, 0, none⟩ = some (.int .i64 who) := by rw [(Blk.new _ _ _).cell]; rfl
      have d1 := (((unhide HST1).blk (e := (w7.heap.size, #[.pointer oa, .pointer ob, .pointer none], 25)) (by simp)))
      have d2 := (((unhide HST1).blk (e := (w7.heap.size + 1, #[.pointer ox, .pointer oy, .pointer none], 30)) (by simp)))
      have HD1 := hide d1
      have HD2 := hide d2
      have HRB := hide (range_blk (Blk.new wr (oc ⟨who, kind, n, dv, dl, kv, kl, torn, cut⟩).toArray 41))
      clear d1 d2
      go_upto_region 17 with (first
        | (guard_target =~ wpList _ _ _ _ _ _; refine wpList_load_mid rfl 41 _ rfl pb (off + k * 7) rfl (oc ⟨who, kind, n, dv, dl, kv, kl, torn, cut⟩) _ (unhide HR) Try.underlying41 rfl size41 ?_)
        | (guard_target =~ wpList _ _ _ _ _ _; refine wpList_alloc_z 41 z41 rfl rfl zero41 ?_)
        | (guard_target =~ wpList _ _ _ _ _ _; refine wpList_store_new _ _ 41 z41.toArray (oc ⟨who, kind, n, dv, dl, kv, kl, torn, cut⟩) rfl rfl rfl rfl size41 rfl (unhide HONE) rfl ?_))
      go_wp2_with fail
      · exact ⟨⟨k + 1, by omega, by simp, (unhide HST1).pop.more (by omega)⟩, by simp [intOf]; omega⟩
      rotate_left
      · exact ⟨⟨k + 1, by omega, by simp, (unhide HST1).pop.more (by omega)⟩, by simp [intOf]; omega⟩
      have hw : 0 ≤ who ∧ who ≤ 2 := by assumption
      obtain ⟨t, rfl⟩ : ∃ t : Nat, who = (t : Int) := ⟨who.toNat, by omega⟩
      have ht : t < 3 := by omega
      have t4 : (0 : Int) ≤ (t : Int) := by omega
      have t5 : (t : Int) < 3 := by omega
      have HC := hide (fun W (hW : Quiet _ W) => sta_call (unhide HST1) ht (unhide HO2) (by omega) hW)
      have c1 := ((unhide HD1).cell t).trans (dAt_cell ht)
      have c2 := ((unhide HD2).cell t).trans (dAt_cell ht)
      have hbw := Blk.new wr (oc ⟨(t : Int), kind, n, dv, dl, kv, kl, torn, cut⟩).toArray 41
      have b0 := (hbw.cell 0).trans (show _ = some (.int .i64 (t : Int)) from rfl)
      have b1 := (hbw.cell 1).trans (show _ = some (.int .i64 kind) from rfl)
      have b2 := (hbw.cell 2).trans (show _ = some (.int .i64 n) from rfl)
      have b3 := (hbw.cell 3).trans (show _ = some dv from rfl)
      have b4 := (hbw.cell 4).trans (show _ = some kv from rfl)
      have b5 := (hbw.cell 5).trans (show _ = some (.int .i64 torn) from rfl)
      have b6 := (hbw.cell 6).trans (show _ = some (.int .i64 cut) from rfl)
      have oc1 : (oc ⟨(t : Int), kind, n, dv, dl, kv, kl, torn, cut⟩).toArray = #[.int .i64 (t : Int), .int .i64 kind, .int .i64 n, dv, kv, .int .i64 torn, .int .i64 cut] := rfl
      simp only [oc1] at *
      generalize hdt : dAt (.pointer oa) (.pointer ob) t = dt at *
      generalize hmt : dAt (.pointer ox) (.pointer oy) t = mt at *
      clear hbw HD1 HD2 HRB hdt hmt HR HONE
      go_region_held3 (fun W => W.cell? ⟨w7.heap.size, t, none⟩ = some dt ∧ W.cell? ⟨w7.heap.size + 1, t, none⟩ = some mt ∧ W.cell? ⟨wr.heap.size, 0, none⟩ = some (.int .i64 (t : Int)) ∧ W.cell? ⟨wr.heap.size, 1, none⟩ = some (.int .i64 kind) ∧ W.cell? ⟨wr.heap.size, 2, none⟩ = some (.int .i64 n) ∧ W.cell? ⟨wr.heap.size, 3, none⟩ = some dv ∧ W.cell? ⟨wr.heap.size, 4, none⟩ = some kv ∧ W.cell? ⟨wr.heap.size, 5, none⟩ = some (.int .i64 torn) ∧ W.cell? ⟨wr.heap.size, 6, none⟩ = some (.int .i64 cut)) (go_keep) (first
        | (go_at_call 16; refine (unhide HC _ (by first | exact Quiet.refl _ | exact (Quiet.refl _).drew | exact (Quiet.refl _).drewN _)).mono ?_; rintro e w8 ⟨rfl, hs8, x1, x2, y0, y1, y2, y3, y4, y5, y6⟩; have HS8 := hide hs8; clear HC hs8))
      go_wp2_with fail
      exact ⟨⟨k + 1, by omega, by simp, (unhide HS8).pop⟩, by simp [intOf]; omega⟩
    · obtain rfl : k = LO := by omega
      have HST := hide hst
      clear hst hk HS
      go_wp2_with fail
      go_loopw [22] (fun i wr => ∃ t : Nat, t ≤ 3 ∧ i = .int .i64 t ∧ Sta w wr (.pointer oa) (.pointer ox) (.pointer ob) (.pointer oy) [(w7.heap.size + 1, #[.pointer ox, .pointer oy, .pointer none], 30), (w7.heap.size, #[.pointer oa, .pointer ob, .pointer none], 25)] (k + 3 * t)) (fun i _ => 3 - (intOf i).toNat)
      case atStart => exact ⟨0, by omega, rfl, unhide HST⟩
      case round =>
        clear HST
        obtain ⟨t, ht3, rfl, hst⟩ := hrel
        by_cases ht : t < 3
        · have HC := hide (fun W (hW : Quiet _ W) => sta_last 6 hst ht (by omega) hW)
          have c1 := ((hst.blk (e := (w7.heap.size, #[.pointer oa, .pointer ob, .pointer none], 25)) (by simp)).cell t).trans (dAt_cell ht)
          have c2 := ((hst.blk (e := (w7.heap.size + 1, #[.pointer ox, .pointer oy, .pointer none], 30)) (by simp)).cell t).trans (dAt_cell ht)
          have HNX3 : Hid (∀ w8, Sta w w8 (.pointer oa) (.pointer ox) (.pointer ob) (.pointer oy) [(w7.heap.size + 1, #[.pointer ox, .pointer oy, .pointer none], 30), (w7.heap.size, #[.pointer oa, .pointer ob, .pointer none], 25)] (k + 3 * t + 1) → _) := fun w8 h8 W (hW : Quiet w8 W) => sta_last 3 h8 ht (by omega) hW
          have HNX7 : Hid (∀ w8, Sta w w8 (.pointer oa) (.pointer ox) (.pointer ob) (.pointer oy) [(w7.heap.size + 1, #[.pointer ox, .pointer oy, .pointer none], 30), (w7.heap.size, #[.pointer oa, .pointer ob, .pointer none], 25)] (k + 3 * t + 1 + 1) → _) := fun w8 h8 W (hW : Quiet w8 W) => sta_last 7 h8 ht (by omega) hW
          have t4 : (0 : Int) ≤ (t : Int) := by omega
          have t5 : (t : Int) < 3 := by omega
          generalize hdt : dAt (.pointer oa) (.pointer ob) t = dt at *
          generalize hmt : dAt (.pointer ox) (.pointer oy) t = mt at *
          clear hdt hmt hst
          go_wp2_with fail
          go_region_held3 (fun W => W.cell? ⟨w7.heap.size, t, none⟩ = some dt ∧ W.cell? ⟨w7.heap.size + 1, t, none⟩ = some mt) (go_keep) (first
            | (go_at_call_of 16 (Value.agg #[Value.int IntKind.i64 0, Value.int IntKind.i64 6, Value.int IntKind.i64 0, Value.slice none 0 0, Value.slice none 0 0, Value.int IntKind.i64 0, Value.int IntKind.i64 0]); refine (unhide HC _ (by first | exact Quiet.refl _ | exact (Quiet.refl _).drew | exact (Quiet.refl _).drewN _)).mono ?_; rintro e w8 ⟨rfl, hs8, x1, x2⟩; have HC3 := hide (unhide HNX3 _ hs8); clear HC hs8)
            | (go_at_call_of 16 (Value.agg #[Value.int IntKind.i64 0, Value.int IntKind.i64 3, Value.int IntKind.i64 0, Value.slice none 0 0, Value.slice none 0 0, Value.int IntKind.i64 0, Value.int IntKind.i64 0]); refine (unhide HC3 _ (by first | exact Quiet.refl _ | exact (Quiet.refl _).drew | exact (Quiet.refl _).drewN _)).mono ?_; rintro e w9 ⟨rfl, hs9, x3, x4⟩; have HC7 := hide (unhide HNX7 _ hs9); clear HC3 hs9)
            | (go_at_call_of 16 (Value.agg #[Value.int IntKind.i64 0, Value.int IntKind.i64 7, Value.int IntKind.i64 0, Value.slice none 0 0, Value.slice none 0 0, Value.int IntKind.i64 0, Value.int IntKind.i64 0]); refine (unhide HC7 _ (by first | exact Quiet.refl _ | exact (Quiet.refl _).drew | exact (Quiet.refl _).drewN _)).mono ?_; rintro e w10 ⟨rfl, hs10, x5, x6⟩; have HS10 := hide hs10; clear HC7 hs10))
          go_wp2_with fail
          exact ⟨⟨t + 1, by omega, by simp, (unhide HS10).more (by omega)⟩, by simp [intOf]; omega⟩
        · have HST := hide hst.kept
          obtain rfl : t = 3 := by omega
          clear hst
          go_wp2_with fail
          go_ret
          exact ⟨rfl, unhide HST⟩
end Go.Proofs.Ytfaoblnghkiibaa
