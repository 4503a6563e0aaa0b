/- Texts laid one behind the other: XG XH0 XH EW. -/
import Derived.Test.YtfhfkpgfnlmfhaaGreatDoorPkX
import Derived.Test.YtfhfkpgfnlmfhaaGreatDoorPkT
import Derived.Test.YtfhfkpgfnlmfhaaGreatDoorPkS
/- goOver with the taker's hand. -/
namespace Go.Proofs.YtfhfkpgfnlmfhaaGreatDoor
open Go.RowKit

theorem DMP.next {w : World} {B T br : Nat} {s2 : Rdm} {F F1 : List Nat} {W0 W W2 : World} (h3 : ∀ x ∈ F1, x ∈ F) (h4 : Kept (B :: T :: F) W0 W) (h : DMP w B T br s2 F1 W W2) : DMP w B T br s2 F W0 W2 := by
  obtain ⟨l2, F2, g1, g2, g3⟩ := h
  refine ⟨l2, F2, g1, fun x hx => h3 x (g2 x hx), h4.trans g3 (fun x hx => Or.inl ?_)⟩
  simp at hx ⊢
  rcases hx with hx | hx | hx
  · exact Or.inl hx
  · exact Or.inr (Or.inl hx)
  · exact Or.inr (Or.inr (h3 x hx))
theorem DM.dmp {w : World} {B T br : Nat} {s : Rdm} {F : List Nat} {l : Lm} {W : World} (h : DM w B T br s l F W) : DMP w B T br s F W W := ⟨l, F, h, fun _ hx => hx, Kept.refl _ _⟩
theorem DMP.byte {w : World} {B T br : Nat} {s : Rdm} {F : List Nat} {W0 W : World} (h : DMP w B T br s F W0 W) {o : Nat} (ho : isN o) :
    Calls Tryz.prog 107 #[.pointer (some ⟨T, 0, none⟩), .pointer (some ⟨B, o, none⟩)] W fun e W' => e = .returned (.tuple #[]) ∧ DMP w B T br (takP s (.byte o)) F W0 W' := by
  obtain ⟨l, F1, hd, h3, h4⟩ := h
  refine (tbyte_any hd.tk hd.blk (by rw [mcc_size]; rcases ho with rfl | rfl | rfl | rfl | rfl | rfl | rfl | rfl | rfl | rfl | rfl | rfl <;> omega) hd.fb).mono ?_
  rintro e W' ⟨rfl, w1, hq, rfl⟩
  exact ⟨rfl, DMP.next h3 h4 (hd.num hq ho _)⟩
theorem DMP.num {w : World} {B T br : Nat} {s : Rdm} {F : List Nat} {W0 W : World} (h : DMP w B T br s F W0 W) {o : Nat} (ho : isN o) :
    Calls Tryz.prog 109 #[.pointer (some ⟨T, 0, none⟩), .pointer (some ⟨B, o, none⟩)] W fun e W' => e = .returned (.tuple #[]) ∧ DMP w B T br (takP s (.num o)) F W0 W' := by
  obtain ⟨l, F1, hd, h3, h4⟩ := h
  refine (tnum_any hd.tk hd.blk (by rw [mcc_size]; rcases ho with rfl | rfl | rfl | rfl | rfl | rfl | rfl | rfl | rfl | rfl | rfl | rfl <;> omega) hd.fb).mono ?_
  rintro e W' ⟨rfl, w1, hq, rfl⟩
  exact ⟨rfl, DMP.next h3 h4 (hd.num hq ho _)⟩
theorem DMP.root {w : World} {B T br : Nat} {s : Rdm} {F : List Nat} {W0 W : World} (h : DMP w B T br s F W0 W) :
    Calls Tryz.prog 110 #[.pointer (some ⟨T, 0, none⟩), .pointer (some ⟨B, 5, none⟩)] W fun e W' => e = .returned (.tuple #[]) ∧ DMP w B T br (takP s .root) F W0 W' := by
  obtain ⟨l, F1, hd, h3, h4⟩ := h
  refine (troot_any hd.tk hd.blk (by rw [mcc_size]; omega) hd.fb).mono ?_
  rintro e W' ⟨rfl, w1, hq, rfl⟩
  exact ⟨rfl, DMP.next h3 h4 (hd.root hq _)⟩
theorem DMP.flag {w : World} {B T br : Nat} {s : Rdm} {F : List Nat} {W0 W : World} (h : DMP w B T br s F W0 W) :
    Calls Tryz.prog 108 #[.pointer (some ⟨T, 0, none⟩), .pointer (some ⟨B, 14, none⟩)] W fun e W' => e = .returned (.tuple #[]) ∧ DMP w B T br (takP s .flag) F W0 W' := by
  obtain ⟨l, F1, hd, h3, h4⟩ := h
  refine (tflag_any hd.tk hd.blk (by rw [mcc_size]; omega) hd.fb hd.bt).mono ?_
  rintro e W' ⟨rfl, w1, hq, rfl⟩
  exact ⟨rfl, DMP.next h3 h4 (hd.flag hq _ _)⟩
theorem DMP.text {w : World} {B T br : Nat} {s : Rdm} {F : List Nat} {W0 W : World} (h : DMP w B T br s F W0 W) {o : Nat} (ho : isT o) :
    Calls Tryz.prog 111 #[.pointer (some ⟨T, 0, none⟩), .pointer (some ⟨B, o, none⟩)] W fun e W' => e = .returned (.tuple #[]) ∧ DMP w B T br (takP s (.text o)) F W0 W' := by
  obtain ⟨l, F1, hd, h3, h4⟩ := h
  refine (ttext_any hd.tk hd.blk (by rw [mcc_size]; rcases ho with rfl | rfl | rfl | rfl | rfl <;> omega) hd.fb).mono ?_
  rintro e W' ⟨rfl, w1, v, hq, hv, rfl⟩
  exact ⟨rfl, DMP.next h3 h4 (hd.text hq ho hv)⟩
theorem DMP.cells {w : World} {B T br : Nat} {s : Rdm} {F : List Nat} {W0 W : World} (h : DMP w B T br s F W0 W) : W.cell? ⟨B, 0, none⟩ = some (.int .i64 s.ml.kind) ∧ W.cell? ⟨B, 9, none⟩ = some (.int .i64 s.ml.okind) ∧ W.cell? ⟨B, 13, none⟩ = some (.int .i64 s.ml.verd) ∧ W.frozen? ⟨B, 13, none⟩ = false := by
  obtain ⟨l, F1, hd, _, _⟩ := h
  exact ⟨hd.blk.cell 0, hd.blk.cell 9, hd.blk.cell 13, hd.blk.frozen 13⟩

theorem DMP.quiet {w : World} {B T br : Nat} {s : Rdm} {F : List Nat} {W0 W W2 : World} (h : DMP w B T br s F W0 W) (k : Kept [] W W2) : DMP w B T br s F W0 W2 := by
  obtain ⟨l, F1, hd, h3, h4⟩ := h
  exact ⟨l, F1, hd.quiet k, h3, h4.trans k (by simp)⟩
/-- An op taken up; what stands behind a verdict; all of it. -/
def opF (p : Ml) : List Pc := if p.okind = 2 then [.text 11] else if p.okind = 4 then [.text 11, .num 12] else []
def opT (s : Rdm) : Rdm := takL (takL s [.byte 9, .text 10]) (opF (takL s [.byte 9, .text 10]).ml)
def veF (p : Ml) : List Pc := if p.verd = 0 then [.flag, .text 15, .text 16, .num 17, .num 18] else if p.verd = 220 ∨ p.verd = 221 then [.byte 19] else []
def veT (s : Rdm) : Rdm := takL s (veF s.ml)
set_option maxRecDepth 100000 in
set_option maxHeartbeats 1600000 in
theorem opT_any {w : World} {B T br : Nat} {s : Rdm} {F : List Nat} {W0 W : World} (h : DMP w B T br s F W0 W) :
    Calls Tryz.prog 64 #[.pointer (some ⟨B, 9, none⟩), .iface 74 (.pointer (some ⟨T, 0, none⟩))] W fun e W' => e = .returned (.tuple #[]) ∧ DMP w B T br (opT s) F W0 W' := by
  have HD := hide h
  have m0 := mt_byte T
  have n0 := nt_byte T
  have m1 := mt_text T
  have n1 := nt_text T
  have m2 := mt_num T
  have n2 := nt_num T
  clear h
  go_enter Tryz.func64, Tryz.ntmps64
  go_wp2_with fail
  go_region_with (go_at_call 107; refine (DMP.byte (DMP.quiet (unhide HD) (by first | exact Kept.refl _ _ | exact (Kept.refl _ _).drew | exact (Kept.refl _ _).drewN _)) (by simp [isN])).mono ?_; rintro e w1 ⟨rfl, hd⟩; obtain ⟨c0, c9, c13, f13⟩ := hd.cells; clear HD; have HD := hide hd; clear hd)
  go_wp2_with fail
  go_region_with (go_at_call 111; refine (DMP.text (DMP.quiet (unhide HD) (by first | exact Kept.refl _ _ | exact (Kept.refl _ _).drew | exact (Kept.refl _ _).drewN _)) (by simp [isT])).mono ?_; rintro e w1 ⟨rfl, hd⟩; obtain ⟨c0, c9, c13, f13⟩ := hd.cells; clear HD; have HD := hide hd; clear hd)
  go_wp2_with fail
  · go_region_with (go_at_call 111; refine (DMP.text (DMP.quiet (unhide HD) (by first | exact Kept.refl _ _ | exact (Kept.refl _ _).drew | exact (Kept.refl _ _).drewN _)) (by simp [isT])).mono ?_; rintro e w1 ⟨rfl, hd⟩; obtain ⟨c0, c9, c13, f13⟩ := hd.cells; clear HD; have HD := hide hd; clear hd)
    go_wp2_with fail
    go_end0
    refine ⟨rfl, ?_⟩
    have hd := unhide HD
    unfold opT opF
    simp only [takL, List.foldl_cons, List.foldl_nil] at *
    simp_all
  · go_region_with (go_at_call 111; refine (DMP.text (DMP.quiet (unhide HD) (by first | exact Kept.refl _ _ | exact (Kept.refl _ _).drew | exact (Kept.refl _ _).drewN _)) (by simp [isT])).mono ?_; rintro e w1 ⟨rfl, hd⟩; obtain ⟨c0, c9, c13, f13⟩ := hd.cells; clear HD; have HD := hide hd; clear hd)
    go_wp2_with fail
    go_region_with (go_at_call 109; refine (DMP.num (DMP.quiet (unhide HD) (by first | exact Kept.refl _ _ | exact (Kept.refl _ _).drew | exact (Kept.refl _ _).drewN _)) (by simp [isN])).mono ?_; rintro e w1 ⟨rfl, hd⟩; obtain ⟨c0, c9, c13, f13⟩ := hd.cells; clear HD; have HD := hide hd; clear hd)
    go_wp2_with fail
    go_end0
    refine ⟨rfl, ?_⟩
    have hd := unhide HD
    unfold opT opF
    simp only [takL, List.foldl_cons, List.foldl_nil] at *
    simp_all
  · go_end0
    refine ⟨rfl, ?_⟩
    have hd := unhide HD
    unfold opT opF
    simp only [takL, List.foldl_cons, List.foldl_nil] at *
    simp_all
set_option maxRecDepth 100000 in
set_option maxHeartbeats 1600000 in
theorem veT_any {w : World} {B T br : Nat} {s : Rdm} {F : List Nat} {W0 W : World} (h : DMP w B T br s F W0 W) :
    Calls Tryz.prog 65 #[.pointer (some ⟨B, 0, none⟩), .iface 74 (.pointer (some ⟨T, 0, none⟩))] W fun e W' => e = .returned (.tuple #[]) ∧ DMP w B T br (veT s) F W0 W' := by
  obtain ⟨c0, c9, c13, f13⟩ := h.cells
  have HD := hide h
  have m0 := mt_byte T
  have n0 := nt_byte T
  have m1 := mt_text T
  have n1 := nt_text T
  have m2 := mt_num T
  have n2 := nt_num T
  have m3 := mt_flag T
  have n3 := nt_flag T
  clear h
  go_enter Tryz.func65, Tryz.ntmps65
  go_wp2_with fail
  · go_region_with (go_at_call 108; refine (DMP.flag (DMP.quiet (unhide HD) (by first | exact Kept.refl _ _ | exact (Kept.refl _ _).drew | exact (Kept.refl _ _).drewN _))).mono ?_; rintro e w1 ⟨rfl, hd⟩; obtain ⟨c0, c9, c13, f13⟩ := hd.cells; clear HD; have HD := hide hd; clear hd)
    go_wp2_with fail
    go_region_with (go_at_call 111; refine (DMP.text (DMP.quiet (unhide HD) (by first | exact Kept.refl _ _ | exact (Kept.refl _ _).drew | exact (Kept.refl _ _).drewN _)) (by simp [isT])).mono ?_; rintro e w1 ⟨rfl, hd⟩; obtain ⟨c0, c9, c13, f13⟩ := hd.cells; clear HD; have HD := hide hd; clear hd)
    go_wp2_with fail
    go_region_with (go_at_call 111; refine (DMP.text (DMP.quiet (unhide HD) (by first | exact Kept.refl _ _ | exact (Kept.refl _ _).drew | exact (Kept.refl _ _).drewN _)) (by simp [isT])).mono ?_; rintro e w1 ⟨rfl, hd⟩; obtain ⟨c0, c9, c13, f13⟩ := hd.cells; clear HD; have HD := hide hd; clear hd)
    go_wp2_with fail
    go_region_with (go_at_call 109; refine (DMP.num (DMP.quiet (unhide HD) (by first | exact Kept.refl _ _ | exact (Kept.refl _ _).drew | exact (Kept.refl _ _).drewN _)) (by simp [isN])).mono ?_; rintro e w1 ⟨rfl, hd⟩; obtain ⟨c0, c9, c13, f13⟩ := hd.cells; clear HD; have HD := hide hd; clear hd)
    go_wp2_with fail
    go_region_with (go_at_call 109; refine (DMP.num (DMP.quiet (unhide HD) (by first | exact Kept.refl _ _ | exact (Kept.refl _ _).drew | exact (Kept.refl _ _).drewN _)) (by simp [isN])).mono ?_; rintro e w1 ⟨rfl, hd⟩; obtain ⟨c0, c9, c13, f13⟩ := hd.cells; clear HD; have HD := hide hd; clear hd)
    go_wp2_with fail
    go_end0
    refine ⟨rfl, ?_⟩
    have hd := unhide HD
    unfold veT veF
    simp_all [takL]
  · go_region_with (go_at_call 107; refine (DMP.byte (DMP.quiet (unhide HD) (by first | exact Kept.refl _ _ | exact (Kept.refl _ _).drew | exact (Kept.refl _ _).drewN _)) (by simp [isN])).mono ?_; rintro e w1 ⟨rfl, hd⟩; obtain ⟨c0, c9, c13, f13⟩ := hd.cells; clear HD; have HD := hide hd; clear hd)
    go_wp2_with fail
    go_end0
    refine ⟨rfl, ?_⟩
    have hd := unhide HD
    unfold veT veF
    simp_all [takL]
  · go_region_with (go_at_call 107; refine (DMP.byte (DMP.quiet (unhide HD) (by first | exact Kept.refl _ _ | exact (Kept.refl _ _).drew | exact (Kept.refl _ _).drewN _)) (by simp [isN])).mono ?_; rintro e w1 ⟨rfl, hd⟩; obtain ⟨c0, c9, c13, f13⟩ := hd.cells; clear HD; have HD := hide hd; clear hd)
    go_wp2_with fail
    go_end0
    refine ⟨rfl, ?_⟩
    have hd := unhide HD
    unfold veT veF
    simp_all [takL]
  · go_end0
    refine ⟨rfl, ?_⟩
    have hd := unhide HD
    unfold veT veF
    simp_all [takL]
end Go.Proofs.YtfhfkpgfnlmfhaaGreatDoor

/- A verdict taken up; what goOver makes. -/
namespace Go.Proofs.YtfhfkpgfnlmfhaaGreatDoor
open Go.RowKit

theorem DM.away {w : World} {B T br : Nat} {s : Rdm} {l : Lm} {F : List Nat} {W : World} (h : DM w B T br s l F W) {p : Addr} (hp : p.block ∉ B :: T :: F) (hl : ∀ o, isT o → (slT l s.ml o).ownBlock ≠ some p.block) (hw : w.heap.size ≤ p.block) (u : Value) : DM w B T br s l F (W.setCell p u) := by
  have k : Kept [p.block] W (W.setCell p u) := (Kept.refl _ W).setCell (Or.inl (by simp)) u
  simp only [List.mem_cons, not_or] at hp
  obtain ⟨hB, hT, hF⟩ := hp
  have n1 : ∀ x, x ≠ p.block → x ∉ [p.block] := fun x hx hm => hx (by simpa using hm)
  exact ⟨h.blk.kept k (n1 _ (Ne.symm hB)), ⟨h.tk.tk.kept k (n1 _ (Ne.symm hT)), h.tk.rd.kept k (fun x hx => n1 x (fun e => hF (e ▸ hx))), h.tk.ft⟩, h.fb, h.bt, fun o ho => (h.nw o ho).kept k (fun x hx => n1 x (fun e => hl o ho (e ▸ hx))), h.ow, h.ap, h.kept.trans k (fun x hx => Or.inr (by simp at hx; subst hx; exact hw)), h.bw, h.tw, h.fw⟩
theorem DMP.vnum {w : World} {B T br : Nat} {s : Rdm} {F : List Nat} {W0 W : World} (h : DMP w B T br s F W0 W) :
    Calls Tryz.prog 109 #[.pointer (some ⟨T, 0, none⟩), .pointer (some ⟨W.heap.size, 0, none⟩)] (W.alloc (.cells #[.int .i64 s.ml.verd] 3)) fun e W' => e = .returned (.tuple #[]) ∧ DMP w B T br ⟨(rNum s.rs).1, s.ml, s.odd⟩ F W0 W' ∧ W'.cell? ⟨W.heap.size, 0, none⟩ = some (.int .i64 (toI (rNum s.rs).2)) := by
  obtain ⟨l, F1, hd, h3, h4⟩ := h
  have k1 := (Kept.refl [] W).alloc (.cells #[.int .i64 s.ml.verd] 3)
  have hd1 := hd.quiet k1
  have hlt := hd.lts
  have hV : W.heap.size ∉ F1 := fun hm => by have := hlt W.heap.size (by simp [hm]); omega
  refine (tnum_any (o := 0) hd1.tk (Blk.new W #[.int .i64 s.ml.verd] 3) (by simp) hV).mono ?_
  rintro e W' ⟨rfl, w1, ⟨F2, g1, g2, g3⟩, rfl⟩
  have hb := (Blk.new W #[.int .i64 s.ml.verd] 3).kept g2 hV
  have hd2 : DM w B T br ⟨(rNum s.rs).1, s.ml, s.odd⟩ l F2 w1 := hd1.put (s2 := ⟨(rNum s.rs).1, s.ml, s.odd⟩) g1 g2 g3 (Kept.refl _ _) (hd1.blk.kept g2 hd1.fb) (hd1.tk.tk.kept g2 hd1.tk.ft) (fun _ _ => Or.inl ⟨rfl, rfl⟩) (fun _ _ _ _ _ => Or.inl ⟨rfl, rfl⟩)
  have hd3 := hd2.away (p := ⟨W.heap.size, 0, none⟩) (by
    intro hm
    have : W.heap.size ∈ B :: T :: F1 := by
      simp at hm ⊢
      rcases hm with hm | hm | hm
      · exact Or.inl hm
      · exact Or.inr (Or.inl hm)
      · exact Or.inr (Or.inr (g3 _ hm))
    have := hlt _ this
    omega) (fun o ho e => by have := ((hd.nw o ho).lt e).2; simp at this) hd.kept.size (.int .i64 (toI (rNum s.rs).2))
  have hs := h4.size
  refine ⟨rfl, ⟨l, F2, hd3, fun x hx => h3 x (g3 x hx), ?_⟩, ?_⟩
  · refine Kept.setCell ?_ (Or.inr hs) _
    refine ((h4.trans k1 (by simp)).trans g2 (fun x hx => Or.inl ?_))
    simp [h3 x hx]
  · have := (hb.set 0 (.int .i64 (toI (rNum s.rs).2))).cell 0
    simpa using this
theorem DMP.put13 {w : World} {B T br : Nat} {s : Rdm} {F : List Nat} {W0 W : World} (h : DMP w B T br s F W0 W) (n : Int) : DMP w B T br ⟨s.rs, setN s.ml n 13, s.odd⟩ F W0 (W.setCell ⟨B, 13, none⟩ (.int .i64 n)) := by
  obtain ⟨l, F1, hd, h3, h4⟩ := h
  exact DMP.next h3 h4 (hd.num (RsQ.same hd.tk.rd (Kept.refl _ _)) (by simp [isN]) n)

def goA (a : Rdm) : Rdm := takL (takL a (mid a.ml)) (fin (takL a (mid a.ml)).ml)
def goM (s : Rdm) : Rdm := goA (takL s hd)
theorem fold4 (s : Rdm) : takP (takP (takP (takP s (.byte 0)) (.byte 1)) (.byte 2)) (.num 3) = takL s hd := by
  simp only [takL, hd, List.foldl_cons, List.foldl_nil]
theorem sn_4 (p : Ml) (n : Int) : (setN p n 4).kind = p.kind := rfl
theorem tk_n4 (a : Rdm) : (takP a (.num 4)).ml.kind = a.ml.kind := by
  unfold takP
  exact sn_4 _ _
theorem sn_8 (p : Ml) (n : Int) : (setN p n 8).kind = p.kind := rfl
theorem tk_n8 (a : Rdm) : (takP a (.num 8)).ml.kind = a.ml.kind := by
  unfold takP
  exact sn_8 _ _
theorem sn_13 (p : Ml) (n : Int) : (setN p n 13).kind = p.kind := rfl
theorem tk_n13 (a : Rdm) : (takP a (.num 13)).ml.kind = a.ml.kind := by
  unfold takP
  exact sn_13 _ _
theorem tk_b9 (a : Rdm) : (takP a (.byte 9)).ml.kind = a.ml.kind := rfl
theorem tk_r (a : Rdm) : (takP a .root).ml.kind = a.ml.kind := rfl
theorem tk_t6 (a : Rdm) : (takP a (.text 6)).ml.kind = a.ml.kind := rfl
theorem tk_t10 (a : Rdm) : (takP a (.text 10)).ml.kind = a.ml.kind := rfl
theorem goA_1 {a : Rdm} (h : a.ml.kind = 1) : goA a = opT (takP a (.num 8)) := by
  unfold goA opT
  have e : mid a.ml = [.num 8, .byte 9, .text 10] := by unfold mid; rw [if_pos h]
  rw [e]
  simp only [takL, List.foldl_cons, List.foldl_nil]
  have e2 : (takP (takP (takP a (.num 8)) (.byte 9)) (.text 10)).ml.kind = 1 := by rw [tk_t10, tk_b9, tk_n8, h]
  generalize takP (takP (takP a (.num 8)) (.byte 9)) (.text 10) = b at e2
  unfold fin opF
  rw [if_pos e2]
theorem goA_2 {a : Rdm} (h : a.ml.kind = 2) : goA a = veT (takP (takP a (.num 8)) (.num 13)) := by
  unfold goA veT
  have e : mid a.ml = [.num 8, .num 13] := by unfold mid; rw [if_neg (by omega), if_pos h]
  rw [e]
  simp only [takL, List.foldl_cons, List.foldl_nil]
  have e2 : (takP (takP a (.num 8)) (.num 13)).ml.kind = 2 := by rw [tk_n13, tk_n8, h]
  generalize takP (takP a (.num 8)) (.num 13) = b at e2
  unfold fin veF
  rw [if_neg (by omega), if_pos e2]
theorem goA_3 {a : Rdm} (h : a.ml.kind = 3) : goA a = takP (takP (takP a (.num 4)) .root) (.text 6) := by
  unfold goA
  have e : mid a.ml = [.num 4, .root, .text 6] := by unfold mid; rw [if_neg (by omega), if_neg (by omega), if_pos h]
  rw [e]
  simp only [takL, List.foldl_cons, List.foldl_nil]
  have e2 : (takP (takP (takP a (.num 4)) .root) (.text 6)).ml.kind = 3 := by rw [tk_t6, tk_r, tk_n4, h]
  generalize takP (takP (takP a (.num 4)) .root) (.text 6) = b at e2
  unfold fin
  rw [if_neg (by omega), if_neg (by omega), List.foldl_nil]
theorem goA_4 {a : Rdm} (h1 : a.ml.kind ≠ 1) (h2 : a.ml.kind ≠ 2) (h3 : a.ml.kind ≠ 3) : goA a = takP a (.num 4) := by
  unfold goA
  have e : mid a.ml = [.num 4] := by unfold mid; rw [if_neg h1, if_neg h2, if_neg h3]
  rw [e]
  simp only [takL, List.foldl_cons, List.foldl_nil]
  have e2 := tk_n4 a
  generalize takP a (.num 4) = b at e2
  unfold fin
  rw [if_neg (by omega), if_neg (by omega), List.foldl_nil]
end Go.Proofs.YtfhfkpgfnlmfhaaGreatDoor

/- goOver with the taker's hand: all of it. -/
namespace Go.Proofs.YtfhfkpgfnlmfhaaGreatDoor
open Go.RowKit

set_option maxRecDepth 100000 in
set_option maxHeartbeats 1600000 in
theorem goM_any {w : World} {B T br : Nat} {s : Rdm} {F : List Nat} {W0 W : World} (h : DMP w B T br s F W0 W) :
    Calls Tryz.prog 45 #[.pointer (some ⟨B, 0, none⟩), .iface 74 (.pointer (some ⟨T, 0, none⟩))] W fun e W' => e = .returned (.tuple #[]) ∧ DMP w B T br (goM s) F W0 W' := by
  have HD := hide h
  have m0 := mt_byte T
  have n0 := nt_byte T
  have m1 := mt_text T
  have n1 := nt_text T
  have m2 := mt_num T
  have n2 := nt_num T
  have m3 := mt_root T
  have n3 := nt_root T
  clear h
  go_enter Tryz.func45, Tryz.ntmps45
  go_wp2_with fail
  go_region_with (go_at_call 107; refine (DMP.byte (DMP.quiet (unhide HD) (by first | exact Kept.refl _ _ | exact (Kept.refl _ _).drew | exact (Kept.refl _ _).drewN _)) (by simp [isN])).mono ?_; rintro e w1 ⟨rfl, hd⟩; (try clear c0 c9 c13 f13); obtain ⟨c0, c9, c13, f13⟩ := hd.cells; clear HD; have HD := hide hd; clear hd)
  go_wp2_with fail
  go_region_with (go_at_call 107; refine (DMP.byte (DMP.quiet (unhide HD) (by first | exact Kept.refl _ _ | exact (Kept.refl _ _).drew | exact (Kept.refl _ _).drewN _)) (by simp [isN])).mono ?_; rintro e w1 ⟨rfl, hd⟩; (try clear c0 c9 c13 f13); obtain ⟨c0, c9, c13, f13⟩ := hd.cells; clear HD; have HD := hide hd; clear hd)
  go_wp2_with fail
  go_region_with (go_at_call 107; refine (DMP.byte (DMP.quiet (unhide HD) (by first | exact Kept.refl _ _ | exact (Kept.refl _ _).drew | exact (Kept.refl _ _).drewN _)) (by simp [isN])).mono ?_; rintro e w1 ⟨rfl, hd⟩; (try clear c0 c9 c13 f13); obtain ⟨c0, c9, c13, f13⟩ := hd.cells; clear HD; have HD := hide hd; clear hd)
  go_wp2_with fail
  go_region_with (go_at_call 109; refine (DMP.num (DMP.quiet (unhide HD) (by first | exact Kept.refl _ _ | exact (Kept.refl _ _).drew | exact (Kept.refl _ _).drewN _)) (by simp [isN])).mono ?_; rintro e w1 ⟨rfl, hd⟩; (try clear c0 c9 c13 f13); obtain ⟨c0, c9, c13, f13⟩ := hd.cells; clear HD; have HD := hide hd; clear hd)
  rw [fold4] at HD c0
  generalize hs4 : takL s hd = s4 at *
  have H4 := hide hs4
  clear hs4
  go_wp2_with fail
  · go_region_with (go_at_call 109; refine (DMP.num (DMP.quiet (unhide HD) (by first | exact Kept.refl _ _ | exact (Kept.refl _ _).drew | exact (Kept.refl _ _).drewN _)) (by simp [isN])).mono ?_; rintro e w1 ⟨rfl, hd⟩; (try clear c0 c9 c13 f13); obtain ⟨c0, c9, c13, f13⟩ := hd.cells; clear HD; have HD := hide hd; clear hd)
    go_wp2_with (go_at_call 64; refine (opT_any (unhide HD)).mono ?_; rintro e w2 ⟨rfl, hd⟩; clear HD; have HD := hide hd; clear hd)
    go_end0
    have hk : s4.ml.kind = 1 := by simp_all
    unfold goM; rw [unhide H4, goA_1 hk]
    exact ⟨rfl, unhide HD⟩
  · go_region_with (go_at_call 109; refine (DMP.num (DMP.quiet (unhide HD) (by first | exact Kept.refl _ _ | exact (Kept.refl _ _).drew | exact (Kept.refl _ _).drewN _)) (by simp [isN])).mono ?_; rintro e w1 ⟨rfl, hd⟩; (try clear c0 c9 c13 f13); obtain ⟨c0, c9, c13, f13⟩ := hd.cells; clear HD; have HD := hide hd; clear hd)
    go_wp2_with (first
      | (go_at_call 109; refine (DMP.vnum (unhide HD)).mono ?_; rintro e w2 ⟨rfl, hd, cv⟩; obtain ⟨c0, c9, c13, f13⟩ := hd.cells; clear HD; have HD := hide (hd.put13 (toI (rNum (takP s4 (.num 8)).rs).2)); clear hd)
      | (go_at_call 65; refine (veT_any (unhide HD)).mono ?_; rintro e w2 ⟨rfl, hd⟩; clear HD; have HD := hide hd; clear hd))
    go_end0
    have hk : s4.ml.kind = 2 := by simp_all
    unfold goM; rw [unhide H4, goA_2 hk]
    exact ⟨rfl, unhide HD⟩
  · go_region_with (go_at_call 109; refine (DMP.num (DMP.quiet (unhide HD) (by first | exact Kept.refl _ _ | exact (Kept.refl _ _).drew | exact (Kept.refl _ _).drewN _)) (by simp [isN])).mono ?_; rintro e w1 ⟨rfl, hd⟩; (try clear c0 c9 c13 f13); obtain ⟨c0, c9, c13, f13⟩ := hd.cells; clear HD; have HD := hide hd; clear hd)
    go_wp2_with fail
    go_region_with (go_at_call 110; refine (DMP.root (DMP.quiet (unhide HD) (by first | exact Kept.refl _ _ | exact (Kept.refl _ _).drew | exact (Kept.refl _ _).drewN _))).mono ?_; rintro e w1 ⟨rfl, hd⟩; (try clear c0 c9 c13 f13); obtain ⟨c0, c9, c13, f13⟩ := hd.cells; clear HD; have HD := hide hd; clear hd)
    go_wp2_with fail
    go_region_with (go_at_call 111; refine (DMP.text (DMP.quiet (unhide HD) (by first | exact Kept.refl _ _ | exact (Kept.refl _ _).drew | exact (Kept.refl _ _).drewN _)) (by simp [isT])).mono ?_; rintro e w1 ⟨rfl, hd⟩; (try clear c0 c9 c13 f13); obtain ⟨c0, c9, c13, f13⟩ := hd.cells; clear HD; have HD := hide hd; clear hd)
    go_wp2_with fail
    go_end0
    have hk : s4.ml.kind = 3 := by simp_all
    unfold goM; rw [unhide H4, goA_3 hk]
    exact ⟨rfl, unhide HD⟩
  · go_region_with (go_at_call 109; refine (DMP.num (DMP.quiet (unhide HD) (by first | exact Kept.refl _ _ | exact (Kept.refl _ _).drew | exact (Kept.refl _ _).drewN _)) (by simp [isN])).mono ?_; rintro e w1 ⟨rfl, hd⟩; (try clear c0 c9 c13 f13); obtain ⟨c0, c9, c13, f13⟩ := hd.cells; clear HD; have HD := hide hd; clear hd)
    go_wp2_with fail
    go_end0
    have hk : s4.ml.kind ≠ 1 ∧ s4.ml.kind ≠ 2 ∧ s4.ml.kind ≠ 3 := by simp_all
    unfold goM; rw [unhide H4, goA_4 hk.1 hk.2.1 hk.2.2]
    exact ⟨rfl, unhide HD⟩
end Go.Proofs.YtfhfkpgfnlmfhaaGreatDoor

/- Clone and Read of what came in, be it an empty slice at any address. -/
namespace Go.Proofs.YtfhfkpgfnlmfhaaGreatDoor
open Go.RowKit

set_option maxRecDepth 100000 in
set_option maxHeartbeats 400000 in
theorem clone_wide {w : World} {x : Value} {bs : List Nat} (h : Wide w x bs) (hl : bs.length ≤ 140737488355328) :
    Calls Tryz.prog 39 #[x] w fun e w' => ∃ a cap, e = .returned (.slice a bs.length cap) ∧ w'.ownsRow w.heap.size 5 1 (.slice a bs.length cap) bs.length (u8s bs) ∧ Kept [] w w' := by
  rcases h with h | ⟨a0, rfl, rfl⟩
  · exact clone_any h hl
  · obtain ⟨i0, hi, hz0, hz1, hz2⟩ := info_parts Tryz.info5
    have e0 := fun (a : Option Addr) (n c : Nat) (w : World) => Lib.run_eql_slice_nil (P := Tryz.prog) w 22 5 a n c 0 0 Tryz.underlying22
    have hs : Wide (w.alloc (.cells #[] 5)) (.slice (some a0) 0 0) [] := Or.inr ⟨a0, rfl, rfl⟩
    clear hl
    go_enter Tryz.func39, Tryz.ntmps39
    go_wp2_with (at_builtin; refine wpList_append_wide _ rfl _ _ 22 rfl w.heap.size 5 i0 (.int .u8 0) Tryz.underlying22 hi hz0 hz1 hz2 rfl _ [] rfl (World.ownsRow_made w #[] 0 (Nat.le_refl _) (Nat.zero_le _) rfl) _ [] rfl hs ?c1 ?c2 ?_)
    case c1 => simp
    case c2 => simp
    intro v' w1 hown hg hat
    obtain ⟨a, c, hv⟩ := own_len hown
    subst hv
    go_wp2
    go_ret
    exact ⟨a, c, rfl, by simpa using hown, ((Kept.refl [] w).alloc _).grown hg (fun k hk => by simp [Value.ownBlock] at hk; right; omega)⟩

set_option maxRecDepth 100000 in
set_option maxHeartbeats 400000 in
theorem read_w {w : World} {x : Value} {bs : List Nat} (h : Wide w x bs) (hl : bs.length ≤ 140737488355328) (hb : ∀ x ∈ bs, x < 256) :
    Calls Tryz.prog 13 #[x] w fun e w' => ∃ b F, e = .returned (.pointer (some ⟨b, 0, none⟩)) ∧ Rs w' b F ⟨0, bs, []⟩ ∧ (∀ x ∈ F, w.heap.size ≤ x) ∧ Kept [] w w' := by
  have HC := hide (clone_wide h hl)
  have HB := hide hb
  clear h hb
  go_enter Tryz.func13, Tryz.ntmps13
  go_wp2_with (first | (go_at_call 39; refine (unhide HC).mono ?_; rintro e w1 ⟨ca, cc, rfl, hfo, hk1⟩))
  go_ret
  have hks := hk1.size
  have hr : Rd (w1.alloc (.cells #[.slice ca bs.length cc, .slice none 0 0, .int .i64 0] 69)) w1.heap.size (.slice ca bs.length cc) nilS bs :=
    ⟨Blk.new _ _ _, sees_alloc _ (Sees.of_own hfo), fun e => by have := (hfo.lt _ e).2; omega, hl⟩
  refine ⟨w1.heap.size, _, rfl, Or.inr ⟨rfl, unhide HB, by simp, _, nilS, [], _, Rf.new hr, rfl⟩, fun x hx => ?_, hk1.alloc _⟩
  simp only [rfoot, nilS, List.mem_append, List.mem_cons, Option.mem_toList] at hx
  rcases hx with hx | rfl | hx
  · exact (hfo.lt x hx).1
  · exact hks
  · cases hx

end Go.Proofs.YtfhfkpgfnlmfhaaGreatDoor
