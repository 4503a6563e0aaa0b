/- Texts laid one behind the other: CBytW CLaw CMade CRowP CRowW. -/
import Derived.Test.YtkejpbfbpomjfabPkBJ
import Derived.Test.YtkejpbfbpomjfabPkBK
import Derived.BigQuiet
import Derived.Maps.AppendAt
/- Bytes: a table in the form. -/
namespace Go.Proofs.Ytkejpbfbpomjfab.tre
open Go.RowKit Go.Shelf
set_option linter.unusedVariables false
attribute [local go_sem] Oper.semAt_some

/-- a region's end: this frame, and a world of which S holds -/
def PostA (A : Act) (S : World → Prop) : Exit → Act → World → Prop
  | .normal, a, w => a = A ∧ S w
  | _, _, _ => False
theorem PostA.to {A : Act} {S : World → Prop} {Q : Exit → Act → World → Prop} (h : ∀ w, S w → Q .normal A w) : ∀ e a w, PostA A S e a w → Q e a w := fun e a w hp => by
  cases e with
  | normal => obtain ⟨rfl, hs⟩ := hp; exact h w hs
  | _ => exact hp.elim
/-- a writer of the call's own, and the box that points to it -/
def Stb (w X : World) (bx bw : Nat) (s : WS) : Prop := ∃ F, Ws X bw F s ∧ (∀ x ∈ F, w.heap.size ≤ x) ∧ bx ∉ F ∧ Blk X bx #[.pointer (some ⟨bw, 0, none⟩)] 76 ∧ Kept [] w X ∧ w.heap.size ≤ bx
theorem Stb.kept {w X X' : World} {bx bw : Nat} {s : WS} (h : Stb w X bx bw s) (hk : Kept [] X X') : Stb w X' bx bw s := by
  obtain ⟨F, h1, h2, h3, h4, h5, h6⟩ := h
  exact ⟨F, h1.kept hk (by simp), h2, h3, h4.kept hk (by simp), h5.step hk, h6⟩
theorem stb_own {β : Type} {B : Nat} {w : World} {bx bw : Nat} {s : WS} (hB : w.heap.size ≤ B) : OwnT B (fun (_ : β) V => Stb w V bx bw s) := fun _ X Y row hs hg hr => by
  obtain ⟨F, h1, h2, h3, h4, h5, h6⟩ := hs
  exact ⟨F, ws_own (β := Unit) () X Y row h1 hg hr, h2, h3, blk_own (β := Unit) (by decide) () X Y row h4 hg hr, kept_own (β := Unit) hB () X Y row h5 hg hr, h6⟩
theorem Stb.turn {w X X' : World} {bx bw : Nat} {F : List Nat} {s' : WS} (h2 : ∀ x ∈ F, w.heap.size ≤ x) (h3 : bx ∉ F) (h4 : Blk X bx #[.pointer (some ⟨bw, 0, none⟩)] 76) (h5 : Kept [] w X) (h6 : w.heap.size ≤ bx) (hp : WsP X bw F s' X') : Stb w X' bx bw s' := by
  obtain ⟨F', p1, p2, p3⟩ := hp
  have hlt := h4.lt
  have hs := h5.size
  refine ⟨F', p1, fun x hx => ?_, fun hx => ?_, h4.kept p2 h3, ?_, h6⟩
  · rcases p3 x hx with hq | hq
    · exact h2 x hq
    · omega
  · rcases p3 bx hx with hq | hq
    · exact h3 hq
    · omega
  · exact h5.trans p2 (fun x hx => Or.inr (h2 x hx))
theorem Stb.num {w X : World} {bx bw : Nat} {s : WS} (h : Stb w X bx bw s) (n : Nat) (hn : n < 18446744073709551616) (hf : s.fault = 0) (hl : s.bs.length + (form n).length ≤ s.room) (hr : s.room ≤ 900000000000000) (hb : s.bs.length ≤ 1000000000000) :
    Calls Try.prog 39 #[.pointer (some ⟨bw, 0, none⟩), .int .u64 n] X fun e w' => e = .returned (.tuple #[]) ∧ Stb w w' bx bw { s with bs := s.bs ++ form n } ∧ (∀ B, KeepsFrom B X w' ∧ KpT X w') := by
  obtain ⟨F, h1, h2, h3, h4, h5, h6⟩ := h
  refine (wnumS h1 n hn hb).mono ?_
  rintro e w' ⟨he, hp⟩
  rw [lay_ok hf hl] at hp
  obtain ⟨F', p1, p2, p3⟩ := id hp
  exact ⟨he, Stb.turn h2 h3 h4 h5 h6 hp, fun B => soft_keeps p2 (ws_soft h1)⟩
theorem Stb.text {w X : World} {bx bw : Nat} {s : WS} (h : Stb w X bx bw s) (pv : Value) (ps : List Nat) {V : World} (hp : NewS V pv ps X) (hV : Stb w V bx bw s) (hVX : Kept [] V X) (hf : s.fault = 0) (hl : s.bs.length + (form ps.length ++ ps).length ≤ s.room) (hr : s.room ≤ 900000000000000) (hb : s.bs.length + ps.length ≤ 35184372088832) :
    Calls Try.prog 40 #[.pointer (some ⟨bw, 0, none⟩), pv] X fun e w' => e = .returned (.tuple #[]) ∧ Stb w w' bx bw { s with bs := s.bs ++ (form ps.length ++ ps) } ∧ (∀ B, KeepsFrom B X w' ∧ KpT X w') := by
  obtain ⟨F, h1, h2, h3, h4, h5, h6⟩ := hV
  have h1' := h1.kept hVX (by simp)
  refine (wtextS h1' pv ps hp.1 (fun k hk hx => by have := h1.lt k hx; have := hp.2 k hk; omega) hb).mono ?_
  rintro e w' ⟨he, hq⟩
  rw [lay_ok hf hl] at hq
  obtain ⟨F', p1, p2, p3⟩ := id hq
  exact ⟨he, Stb.turn h2 h3 (h4.kept hVX (by simp)) (h5.step hVX) h6 hq, fun B => soft_keeps p2 (ws_soft h1')⟩
theorem Stb.numG {w X : World} {bx bw : Nat} {s : WS} (h : Stb w X bx bw s) (n : Nat) (hn : n < 18446744073709551616) (hb : s.bs.length ≤ 1000000000000) :
    Calls Try.prog 39 #[.pointer (some ⟨bw, 0, none⟩), .int .u64 n] X fun e w' => e = .returned (.tuple #[]) ∧ Stb w w' bx bw (wLay s (form n)) ∧ (∀ B, KeepsFrom B X w' ∧ KpT X w') ∧ (∀ n cs, Blk X n cs 73 → Blk w' n cs 73) := by
  obtain ⟨F, h1, h2, h3, h4, h5, h6⟩ := h
  refine (wnumS h1 n hn hb).mono ?_
  rintro e w' ⟨he, hp⟩
  obtain ⟨F', p1, p2, p3⟩ := id hp
  exact ⟨he, Stb.turn h2 h3 h4 h5 h6 hp, fun B => soft_keeps p2 (ws_soft h1), fun _ _ hc => soft_cell p2 (ws_soft h1) hc⟩
theorem Stb.textG {w X : World} {bx bw : Nat} {s : WS} (pv : Value) (ps : List Nat) {V : World} (hp : NewS V pv ps X) (hV : Stb w V bx bw s) (hVX : Kept [] V X) (hb : s.bs.length + ps.length ≤ 35184372088832) :
    Calls Try.prog 40 #[.pointer (some ⟨bw, 0, none⟩), pv] X fun e w' => e = .returned (.tuple #[]) ∧ Stb w w' bx bw (wLay s (form ps.length ++ ps)) ∧ (∀ B, KeepsFrom B X w' ∧ KpT X w') ∧ (∀ n cs, Blk X n cs 73 → Blk w' n cs 73) := by
  obtain ⟨F, h1, h2, h3, h4, h5, h6⟩ := hV
  have h1' := h1.kept hVX (by simp)
  refine (wtextS h1' pv ps hp.1 (fun k hk hx => by have := h1.lt k hx; have := hp.2 k hk; omega) hb).mono ?_
  rintro e w' ⟨he, hq⟩
  obtain ⟨F', p1, p2, p3⟩ := id hq
  exact ⟨he, Stb.turn h2 h3 (h4.kept hVX (by simp)) (h5.step hVX) h6 hq, fun B => soft_keeps p2 (ws_soft h1'), fun _ _ hc => soft_cell p2 (ws_soft h1') hc⟩
/-- what a row makes of a writer -/
def wrow (s : WS) (e : ByteArray × VT) : WS := wLay (wLay (wLay s (form e.1.size ++ byts e.1)) (form e.2.1.size ++ byts e.2.1)) (form e.2.2.toNat)
theorem wLay_le {s : WS} {ps : List Nat} {R : Nat} (h : s.bs.length ≤ R ∧ s.room ≤ R) : (wLay s ps).bs.length ≤ R ∧ (wLay s ps).room ≤ R := by
  unfold wLay
  split
  · exact h
  · split
    · rename_i h2
      refine ⟨?_, h.2⟩
      simp only [List.length_append]
      omega
    · simp [failWS]
theorem fold_le {R : Nat} : ∀ (L : List (ByteArray × VT)) {s : WS}, s.bs.length ≤ R ∧ s.room ≤ R → (L.foldl wrow s).bs.length ≤ R ∧ (L.foldl wrow s).room ≤ R
  | [], s, h => h
  | e :: L, s, h => fold_le L (wLay_le (wLay_le (wLay_le h)))
theorem fold_ok : ∀ (L : List (ByteArray × VT)) {s : WS}, s.fault = 0 → s.bs.length + (rowsF L).length ≤ s.room → L.foldl wrow s = { s with bs := s.bs ++ rowsF L }
  | [], s, hf, hl => by simp [rowsF]
  | e :: L, s, hf, hl => by
    have hr : rowsF (e :: L) = rowF e ++ rowsF L := by simp [rowsF]
    rw [hr, List.length_append] at hl
    have hrf : (rowF e).length = (form e.1.size ++ byts e.1).length + (form e.2.1.size ++ byts e.2.1).length + (form e.2.2.toNat).length := by unfold rowF; simp only [List.length_append]
    have h1 : wrow s e = { s with bs := s.bs ++ rowF e } := by
      unfold wrow
      rw [lay_ok (s := s) hf (by omega), lay_ok (s := { s with bs := s.bs ++ (form e.1.size ++ byts e.1) }) hf (by simp only [List.length_append] at *; omega), lay_ok (s := { s with bs := s.bs ++ (form e.1.size ++ byts e.1) ++ (form e.2.1.size ++ byts e.2.1) }) hf (by simp only [List.length_append] at *; omega)]
      simp only [rowF, List.append_assoc]
    rw [List.foldl_cons, h1, fold_ok L (s := { s with bs := s.bs ++ rowF e }) hf (by simp only [List.length_append]; omega), hr]
    simp only [List.append_assoc]
set_option maxRecDepth 100000 in
set_option maxHeartbeats 4000000 in
theorem bytes_any {w : World} {b : Nat} {T : Tb} (h : Tab w b T) (hT : Tok T) (hsm : tSz T ≤ 900000000000) : Calls Try.prog 16 #[.pointer (some ⟨b, 0, none⟩)] w fun e w' => ∃ a cap, e = .returned (.slice a (tblF T).length cap) ∧ w'.ownsRow w.heap.size 5 1 (.slice a (tblF T).length cap) (tblF T).length (u8s (tblF T)) ∧ Kept [] w w' := by
  have hrev := hT.rev
  have hsz := hT.ok.size
  have hbd := hT.ok.body
  have hbl : b < w.heap.size := by obtain ⟨q0, hb0, -⟩ := h; exact hb0.lt
  have hf1 := form_le10 T.rev (by omega)
  have hf2 := form_le10 T.t.size (by omega)
  have hroom : tSz T ≤ 384829069721620 := by unfold tSz; omega
  have HS : Hid (∀ W, Kept [] w W → _) := hide (fun W (hk : Kept [] w W) => size_any (h.kept hk) hT.ok hrev)
  have HL : Hid (∀ W, Kept [] w W → _) := hide (fun W (hk : Kept [] w W) => tlen_any (h.kept hk) hT.ok)
  have HN : Hid (∀ W, _) := hide (fun W => new_s (tSz T) W (by omega))
  have hnf : ∀ (b : Nat) (W : World), (binOp BinOp.eql 70 (.func (.func 74) #[] #[.pointer (some ⟨b, 0, none⟩)]) .nilFunc).run Try.prog W = .ok (.bool false) W := fun b W => by kernel_rfl
  obtain ⟨q, hb, ht⟩ := h
  have HA : Hid (∀ W, Kept [] w W → _) := hide (fun W (hk : Kept [] w W) => All_any (ht.kept hk) (by omega))
  obtain ⟨c0, c1, c2⟩ := box3 hb
  have HB := hide hb
  have HT := hide ht
  clear hb ht
  refine (callsIn_wide (n := 0)).1 ?_
  refine callsIn_of_wp_marks Try.func16 rfl trivial ?_ rfl
  simp only [Try.ntmps16, List.size_toArray, List.length_cons, List.length_nil, Nat.reduceAdd, Nat.reduceSub, Array.replicate_succ, Array.replicate_zero, List.push_toArray, List.append_toArray, List.nil_append, List.cons_append]
  gi_wp2_with (first
    | (refine ⟨trivial, rfl, ?_⟩; gi_at_call 38; refine (callsIn_wide.2 (unhide HS _ (by first | exact Kept.refl [] w | exact (Kept.refl [] w).alloc _))).mono ?_; rintro e w1 ⟨rfl, hq⟩; have HK1 := hide hq; clear hq)
    | (refine ⟨trivial, rfl, ?_⟩; gi_at_call 37; refine (callsIn_wide.2 (unhide HN _)).mono ?_; rintro e w2 ⟨bw, rfl, hws, hbw, hq⟩
       have hk2 := (unhide HK1).step hq
       have hst : Stb w (w2.alloc (.cells #[.pointer (some ⟨bw, 0, none⟩)] 76)) w2.heap.size bw (newWS (tSz T)) := ⟨[bw], hws.kept ((Kept.refl [] w2).alloc _) (by simp), by simp; have := (unhide HK1).size; omega, by have := hws.lt bw (by simp); simp; omega, Blk.new w2 _ _, hk2.alloc _, hk2.size⟩
       have HST := hide hst
       obtain ⟨e0, e1, e2⟩ := box3 ((unhide HB).kept (hk2.alloc (.cells #[.pointer (some ⟨bw, 0, none⟩)] 76)) (by simp))
       clear hws hbw hq hk2 hst)
    | fail)
  obtain ⟨bx, hbx⟩ : ∃ bx, w2.heap.size = bx := ⟨_, rfl⟩
  rw [hbx] at HST ⊢
  refine world_at (R := fun X => Stb w X bx bw (newWS (tSz T))) (unhide HST) ?_
  clear e0 e1 e2 HST HK1 hbx
  clear w2 w1
  rintro X hX
  have HX := hide hX
  obtain ⟨F0, -, -, -, hxb, hkX, -⟩ := hX
  obtain ⟨e0, e1, e2⟩ := box3 ((unhide HB).kept hkX.drew (by simp))
  have y0 : X.drew.cell? ⟨bx, 0, none⟩ = some (.pointer (some ⟨bw, 0, none⟩)) := hxb.cell 0
  have HNR : Hid (∀ W, Stb w W bx bw (newWS (tSz T)) → _) := hide (fun W hW => Stb.num hW T.rev (by omega) rfl (by show 0 + (form T.rev).length ≤ tSz T; unfold tSz; omega) (by show tSz T ≤ _; omega) (by show 0 ≤ _; omega))
  have hwr1 : IntKind.u64.wrap (T.rev : Int) = (T.rev : Int) := by rw [IntKind.wrap_u64]; omega
  have hwr2 : IntKind.u64.wrap ((T.t.size : Nat) : Int) = ((T.t.size : Nat) : Int) := by rw [IntKind.wrap_u64]; omega
  clear hxb hkX
  refine wpIn_mono (Q := PostA { tmps := #[Value.pointer (some ⟨b, 0, none⟩), undef, Value.slice none 0 0, Value.pointer (some ⟨bx, 0, none⟩), undef, undef, undef, undef, Value.pointer (some ⟨b, 0, none⟩), Value.bool false, Value.pointer (some ⟨b, 0, none⟩), Value.int .i64 (tSz T : Nat), Value.pointer (some ⟨bw, 0, none⟩), Value.pointer (some ⟨bw, 0, none⟩), Value.pointer (some ⟨b, 0, none⟩), Value.pointer (some ⟨b, 0, none⟩), Value.pointer (some ⟨b, 1, none⟩), Value.int .i64 (T.rev : Int), Value.int .u64 (T.rev : Int), Value.tuple #[], undef, undef, undef, undef, undef, undef, undef, undef, undef, undef, undef, undef, undef, undef, undef, undef, undef, undef, undef, undef, undef, undef, undef, undef, undef, undef, undef, undef, undef, undef, undef, undef], defers := [] } (fun W => Stb w W bx bw ⟨tSz T, form T.rev, [], 0⟩)) ?_ (PostA.to fun W hW => ?_)
  · gi_region_with (first
      | (refine ⟨trivial, rfl, ?_⟩; gi_at_call 39; refine (callsIn_wide.2 (unhide HNR _ ((unhide HX).kept (Kept.refl [] X).drew))).mono ?_; rintro e w3 ⟨rfl, h3, -⟩; have HS3 := hide h3; clear h3))
    all_goals exact ⟨rfl, unhide HS3⟩
  clear HX HNR e0 e1 e2 y0
  clear X
  have HX := hide hW
  obtain ⟨F0, -, -, -, hxb, hkX, -⟩ := hW
  obtain ⟨e0, e1, e2⟩ := box3 ((unhide HB).kept hkX.drew (by simp))
  have y0 : W.drew.cell? ⟨bx, 0, none⟩ = some (.pointer (some ⟨bw, 0, none⟩)) := hxb.cell 0
  have HKX := hide hkX
  have HNR : Hid (∀ W, Stb w W bx bw ⟨tSz T, form T.rev, [], 0⟩ → _) := hide (fun W hW => Stb.num hW T.t.size (by omega) rfl (by show (form T.rev).length + (form T.t.size).length ≤ tSz T; unfold tSz; omega) (by show tSz T ≤ _; omega) (by show (form T.rev).length ≤ _; omega))
  clear hxb hkX
  gi_wp2_with fail
  refine wpIn_mono (Q := PostA { tmps := #[Value.pointer (some ⟨b, 0, none⟩), undef, Value.slice none 0 0, Value.pointer (some ⟨bx, 0, none⟩), undef, undef, undef, undef, Value.pointer (some ⟨b, 0, none⟩), Value.bool false, Value.pointer (some ⟨b, 0, none⟩), Value.int .i64 (tSz T : Nat), Value.pointer (some ⟨bw, 0, none⟩), Value.pointer (some ⟨bw, 0, none⟩), Value.pointer (some ⟨b, 0, none⟩), Value.pointer (some ⟨b, 0, none⟩), Value.pointer (some ⟨b, 1, none⟩), Value.int .i64 (T.rev : Int), Value.int .u64 (T.rev : Int), Value.tuple #[], Value.pointer (some ⟨bw, 0, none⟩), Value.pointer (some ⟨b, 0, none⟩), Value.int .i64 (T.t.size : Nat), Value.int .u64 (T.t.size : Nat), Value.tuple #[], undef, undef, undef, undef, undef, undef, undef, undef, undef, undef, undef, undef, undef, undef, undef, undef, undef, undef, undef, undef, undef, undef, undef, undef, undef, undef, undef], defers := [] } (fun W => Stb w W bx bw ⟨tSz T, form T.rev ++ form T.t.size, [], 0⟩)) ?_ (PostA.to fun W4 hW4 => ?_)
  · gi_region_with (first
      | (refine ⟨trivial, rfl, ?_⟩; gi_at_call 27; refine (callsIn_wide.2 (unhide HL _ (unhide HKX).drew)).mono ?_; rintro e w3 ⟨rfl, hq⟩; have hq2 := hq.symm; subst hq2)
      | (refine ⟨trivial, rfl, ?_⟩; gi_at_call 39; refine (callsIn_wide.2 (unhide HNR _ ((unhide HX).kept (Kept.refl [] W).drew))).mono ?_; rintro e w4 ⟨rfl, h4, -⟩; have HS4 := hide h4; clear h4))
    all_goals exact ⟨rfl, unhide HS4⟩
  clear HX HNR e0 e1 e2 y0 HKX
  clear W
  have HX4 := hide hW4
  obtain ⟨F4, -, -, -, hxb4, hkX4, -⟩ := hW4
  obtain ⟨g0, g1, g2⟩ := box3 ((unhide HB).kept hkX4 (by simp))
  have HK4 := hide hkX4
  clear hxb4 hkX4
  gi_wp2_with (first
    | (refine ⟨trivial, rfl, ?_⟩; gi_at_call 34; refine (callsIn_wide.2 (unhide HA _ (unhide HK4))).mono ?_; rintro e w5 ⟨v5, rfl, hsq, hk5⟩; obtain ⟨bn, bt, bd, vt, rfl, hbn, hbt, hbd5, hnr⟩ := hsq)
    | fail)
  have hlist : outR (spine T.t).reverse = T.t.list := by have := outR_spine T.t []; simpa [outR] using this
  have hll : T.t.list.length ≤ 8796093022208 := by rw [Tr.list_length]; omega
  have hseq := entries_seq hbn hbt hbd5 hnr (by rw [hlist]; exact hll)
  rw [hlist] at hseq
  have hX5 := (unhide HX4).kept hk5
  have hw5 : w.heap.size ≤ w5.heap.size := by obtain ⟨F5, -, -, -, -, hk, -⟩ := hX5; exact hk.size
  obtain ⟨s0, hs0⟩ : ∃ s0 : WS, s0 = ⟨tSz T, form T.rev ++ form T.t.size, [], 0⟩ := ⟨_, rfl⟩
  have hs0b : s0.bs.length ≤ 900000000000 ∧ s0.room ≤ 900000000000 := by rw [hs0]; simp only [List.length_append]; omega
  rw [← hs0] at hX5
  have hrows := hT.ok.rows
  clear hbn hbt hbd5 hnr HX4 g0 g1 g2 HK4 HA HN HL HS hk5 c0 c1 c2
  refine range_own2 (gf := 74) (lb := #[.pointer (some ⟨bn, 0, none⟩)]) rfl (enters_of Try.func74 (by kernel_rfl) rfl) hseq (fun _ _ _ _ hs _ _ => hs) (KpT.refl _) (fun _ => rfl)
    (fun pre V => Stb w V bx bw (pre.foldl wrow s0)) (fun _ _ _ => False) (fun s X Y row hs hg hr => stb_own (β := Unit) hw5 () X Y row hs hg hr) (fun _ _ _ _ _ hs _ _ => hs)
    hX5 (fun x => .cells #[.string x.2.1, .int .i64 x.2.2] 73)
    (fun x n => { tmps := #[Value.pointer (some ⟨b, 0, none⟩), undef, Value.slice none 0 0, Value.pointer (some ⟨bx, 0, none⟩), Value.string x.1, Value.pointer (some ⟨n, 0, none⟩), undef, undef, Value.pointer (some ⟨b, 0, none⟩), Value.bool false, Value.pointer (some ⟨b, 0, none⟩), Value.int .i64 (tSz T : Nat), Value.pointer (some ⟨bw, 0, none⟩), Value.pointer (some ⟨bw, 0, none⟩), Value.pointer (some ⟨b, 0, none⟩), Value.pointer (some ⟨b, 0, none⟩), Value.pointer (some ⟨b, 1, none⟩), Value.int .i64 (T.rev : Int), Value.int .u64 (T.rev : Int), Value.tuple #[], Value.pointer (some ⟨bw, 0, none⟩), Value.pointer (some ⟨b, 0, none⟩), Value.int .i64 (T.t.size : Nat), Value.int .u64 (T.t.size : Nat), Value.tuple #[], Value.pointer (some ⟨b, 0, none⟩), Value.pointer (some ⟨b, 0, none⟩), Value.pointer (some ⟨b, 0, none⟩), Value.pointer q, Value.func (.func 74) #[] #[.pointer (some ⟨bn, 0, none⟩)], Value.string x.1, Value.agg #[.string x.2.1, .int .i64 x.2.2], undef, undef, undef, undef, undef, undef, undef, undef, undef, undef, undef, undef, undef, undef, undef, undef, undef, undef, undef, undef], defers := [] }) ?assign ?body ?done ?stop
  case assign =>
    intro l x W K hK
    gi_wp2
    exact hK
  case body =>
    rintro l pre ⟨k, v, r⟩ V n hst hmem hbx5 hn hlen
    obtain ⟨hk64, hv256, hr0, hr1⟩ := hrows _ hmem
    simp only at hk64 hv256 hr0 hr1
    obtain ⟨rn, rfl⟩ : ∃ rn : Nat, r = (rn : Int) := ⟨r.toNat, by omega⟩
    obtain ⟨cG, cC, cN, HCV, HNW, HCK⟩ := conv_ex
    have hle := fold_le (R := 900000000000) pre hs0b
    have hle1 := wLay_le (ps := form k.size ++ byts k) hle
    have hle2 := wLay_le (ps := form v.size ++ byts v) hle1
    have hgoal : wrow (pre.foldl wrow s0) (k, v, (rn : Int)) = wLay (wLay (wLay (pre.foldl wrow s0) (form k.size ++ byts k)) (form v.size ++ byts v)) (form rn) := by unfold wrow; simp only [Int.toNat_natCast]
    have hpost : (pre ++ [(k, v, (rn : Int))]).foldl wrow s0 = wLay (wLay (wLay (pre.foldl wrow s0) (form k.size ++ byts k)) (form v.size ++ byts v)) (form rn) := by rw [List.foldl_append]; exact hgoal
    have HPO := hide hpost
    have hbxV : Blk V n #[.string v, .int .i64 (rn : Int)] 73 := hbx5
    obtain ⟨FV, -, -, -, hxbV, -, -⟩ := id hst
    have y0 : V.cell? ⟨bx, 0, none⟩ = some (.pointer (some ⟨bw, 0, none⟩)) := hxbV.cell 0
    have HT1 := hide (Stb.textG _ (byts k) (HNW V k (by omega)) hst (HCK V k) (by rw [byts_len]; omega))
    rw [byts_len] at HT1
    have HT2 : Hid (∀ W, Stb w W bx bw (wLay (pre.foldl wrow s0) (form k.size ++ byts k)) → _) := hide (fun W hW => Stb.textG _ (byts v) (HNW W v (by omega)) hW (HCK W v) (by rw [byts_len]; omega))
    have HT3 : Hid (∀ W, Stb w W bx bw (wLay (wLay (pre.foldl wrow s0) (form k.size ++ byts k)) (form v.size ++ byts v)) → _) := hide (fun W hW => Stb.numG hW rn (by omega) (by omega))
    have HCK2 := hide HCK
    have hwr3 : IntKind.u64.wrap (rn : Int) = (rn : Int) := by rw [IntKind.wrap_u64]; omega
    have HBV := hide hbxV
    clear hst hbx5 hgoal hpost HNW HCK hbxV hxbV hle hle1 hle2
    gi_wp2_with (first
      | (refine ⟨trivial, rfl, ?_⟩; gi_at_call 40; refine ((callsIn_wide.2 (unhide HT1)).inRound _).mono ?_; rintro e w6 ⟨rfl, h6, k6, b6⟩
         have HS6 := hide h6
         have HK6 := hide k6
         have hb6 := b6 _ _ ((unhide HBV).kept (unhide HCK2 V k) (by simp))
         obtain ⟨F6, -, -, -, hxb6, -, -⟩ := h6
         have z0 : w6.cell? ⟨bx, 0, none⟩ = some (.pointer (some ⟨bw, 0, none⟩)) := hxb6.cell 0
         obtain ⟨q0, q1⟩ := box2 hb6
         have HB6 := hide hb6
         clear k6 b6 hxb6 hb6 HT1)
      | (refine ⟨trivial, rfl, ?_⟩; gi_at_call 40; refine ((callsIn_wide.2 (unhide HT2 _ (unhide HS6))).inRound _).mono ?_; rintro e w7 ⟨rfl, h7, k7, b7⟩
         rw [byts_len] at h7
         have HS7 := hide h7
         have HK7 := hide k7
         have hb7 := b7 _ _ ((unhide HB6).kept (unhide HCK2 w6 v) (by simp))
         obtain ⟨F7, -, -, -, hxb7, -, -⟩ := h7
         have r0 : w7.cell? ⟨bx, 0, none⟩ = some (.pointer (some ⟨bw, 0, none⟩)) := hxb7.cell 0
         obtain ⟨t0, t1⟩ := box2 hb7
         clear k7 b7 hxb7 hb7)
      | (refine ⟨trivial, rfl, ?_⟩; gi_at_call 39; refine ((callsIn_wide.2 (unhide HT3 _ (unhide HS7))).inRound _).mono ?_; rintro e w8 ⟨rfl, h8, k8, -⟩
         have HS8 := hide h8
         have HK8 := hide k8
         clear k8 h8))
    have c1 := soft_keeps (B := w5.heap.size) (unhide HCK2 V k) (fun x hx => by cases hx)
    have c2 := unhide HK6 w5.heap.size
    have c3 := soft_keeps (B := w5.heap.size) (unhide HCK2 w6 v) (fun x hx => by cases hx)
    have c4 := unhide HK7 w5.heap.size
    have c5 := unhide HK8 w5.heap.size
    refine ⟨⟨c1.1.trans (c2.1.trans (c3.1.trans (c4.1.trans c5.1))), c1.2.trans (c2.2.trans (c3.2.trans (c4.2.trans c5.2)))⟩, ?_⟩
    show Stb w w8 bx bw _
    rw [unhide HPO]
    exact unhide HS8
  case done =>
    rintro D xs V hD rfl hst hK
    have hfold : T.t.list.foldl wrow s0 = ⟨tSz T, tblF T, [], 0⟩ := by
      rw [fold_ok T.t.list (s := s0) (by rw [hs0]) (by rw [hs0]; simp only [List.length_append, rowsF_len]; unfold tSz; omega), hs0]
      rfl
    rw [hfold] at hst
    obtain ⟨FV, hws, hFV, -, hxbV, hkV, -⟩ := hst
    have y0 : V.cell? ⟨bx, 0, none⟩ = some (.pointer (some ⟨bw, 0, none⟩)) := hxbV.cell 0
    have HD9 := hide (wdone_okS hws rfl rfl)
    have hsV := hkV.size
    have HKV := hide hkV
    clear hws hFV hxbV hkV hfold
    gi_wp2_with (first
      | (refine ⟨trivial, rfl, ?_⟩; gi_at_call 41; refine (callsIn_wide.2 (unhide HD9)).mono ?_; rintro e w9 ⟨a9, cap9, rfl, hown, hk9⟩
         have HOW := hide hown
         have HK9 := hide hk9
         clear hown hk9))
    have hk9 := unhide HK9
    have hK9 : w9.heap[D]? = some (.deferred (some [])) := (hk9.block D (Array.getElem?_eq_some_iff.1 hK).1 (by simp)).trans hK
    have hD9 : w.heap.size ≤ D := by omega
    refine ⟨by simp, .inl ⟨_, _, rfl, run_takeDeferred hK9, ?_⟩⟩
    refine ⟨_, results_tmp rfl _ _ _, _, _, rfl, ?_, ?_⟩
    · have h1 := own_base (base' := w.heap.size) (unhide HOW) (fun k hk => Nat.le_trans hsV ((unhide HOW).lt k hk).1)
      exact own_put (row_own (β := Unit) (B := w.heap.size) (by decide) _ _ _) (s := ()) (.deferred none) h1 hD9 hK9 rfl
    · exact own_put (kept_own (β := Unit) (B := w.heap.size) (w := w) (Nat.le_refl _)) (s := ()) (.deferred none) ((unhide HKV).step hk9) hD9 hK9 rfl
  case stop =>
    rintro D c pre V hD hSp h hK
    exact h.elim
end Go.Proofs.Ytkejpbfbpomjfab.tre

/- Tables of the law: new ones, ops, what is alike. -/
namespace Go.Proofs.Ytkejpbfbpomjfab.tre
open Go.RowKit

set_option maxRecDepth 100000 in
set_option maxHeartbeats 800000 in
theorem same_full {w : World} {x y : Value} {ps bs : List Nat} (h1 : Wide w x ps) (h2 : Wide w y bs) (hl : ps.length ≤ 140737488355328) :
    Calls Try.prog 12 #[x, y] w fun e w' => e = .returned (.bool (decide (ps = bs))) ∧ Kept [] w w' := by
  obtain ⟨xa, xc, rfl⟩ := wide_len h1
  obtain ⟨ya, yc, rfl⟩ := wide_len h2
  by_cases hlen : ps.length = bs.length
  · rw [← hlen]
    have hne : ((ps.length : Int) != (ps.length : Int)) = false := by simp
    have H1 := hide h1
    have H2 := hide h2
    have HLN := hide hlen
    clear h1 h2 hlen
    generalize hN : ps.length = N at *
    have HN := hide hN
    clear hN
    go_enter Try.func12, Try.ntmps12
    go_wp2
    go_loopw [5] (fun i wr => ∃ k : Nat, k ≤ N ∧ i = .int .i64 k ∧ (∃ m, wr = w.drewN m) ∧ Hid (∀ j, j < k → ps.getD j 0 = bs.getD j 0)) (fun i _ => N - (intOf i).toNat)
    case atStart => exact ⟨0, by omega, rfl, ⟨0, rfl⟩, fun j hj => by omega⟩
    case round =>
      obtain ⟨k, hk, rfl, ⟨m, hq⟩, HP⟩ := hrel
      subst hq
      by_cases hlt : k < N
      · obtain ⟨xb, xo, rfl, hx⟩ := (unhide H1).at k (by rw [unhide HN]; exact hlt)
        obtain ⟨yb, yo, rfl, hy⟩ := (unhide H2).at k (by rw [← unhide HLN]; exact hlt)
        by_cases he : ps.getD k 0 = bs.getD k 0
        · rw [← he] at hy
          have HE := hide he
          clear he
          generalize hz : ps.getD k 0 = z at hx hy
          clear hz
          go_wp2
          go_quiet (fail)
          go_wp2
          go_roundw
          case rel =>
            refine ⟨k + 1, by omega, by go_num, ⟨_, rfl⟩, fun j hj => ?_⟩
            rcases Nat.lt_or_ge j k with h | h
            · exact unhide HP j h
            · rw [show j = k by omega]; exact unhide HE
          case measure => simp [intOf]; omega
        · have HE : Hid (ps ≠ bs) := fun e => he (by rw [e])
          generalize ps.getD k 0 = z1 at hx he
          generalize bs.getD k 0 = z2 at hy he
          have hne2 : ((z1 : Int) == (z2 : Int)) = false := by rw [beq_eq_false_iff_ne]; omega
          have hne3 : ((z1 : Int) != (z2 : Int)) = true := by rw [bne_iff_ne]; omega
          go_wp2
          go_quiet (fail)
          go_wp2
          go_ret
          refine ⟨ret_bool ?_, (Kept.refl _ _).drewN _ |>.drewN _⟩
          simp [unhide HE]
      · obtain rfl : k = N := by omega
        go_wp2
        go_ret
        refine ⟨ret_bool ?_, (Kept.refl _ _).drewN _⟩
        symm
        rw [decide_eq_true_eq]
        refine List.ext_getElem (by rw [unhide HN]; exact unhide HLN) fun j hj hj2 => ?_
        have h := unhide HP j (by rw [← unhide HN]; exact hj)
        rwa [List.getD_eq_getElem?_getD, List.getD_eq_getElem?_getD, List.getElem?_eq_getElem hj, List.getElem?_eq_getElem hj2] at h
  · have hne : ((ps.length : Int) != (bs.length : Int)) = true := by rw [bne_iff_ne]; omega
    have hd : ps ≠ bs := fun e => hlen (by rw [e])
    have HD := hide hd
    clear hd h1 h2
    generalize ps.length = n1 at *
    generalize bs.length = n2 at *
    go_enter Try.func12, Try.ntmps12
    go_wp2
    go_ret
    refine ⟨ret_bool ?_, Kept.refl _ _⟩
    simp [unhide HD]

set_option maxRecDepth 100000 in
theorem new_any (w : World) : Calls Try.prog 13 #[] w fun e w' => ∃ b, e = .returned (.pointer (some ⟨b, 0, none⟩)) ∧ Tab w' b ⟨.nil, 0⟩ ∧ w.heap.size ≤ b ∧ Kept [] w w' := by
  have HT : Hid (Tab (w.alloc (.cells #[.pointer none, .int .i64 0, .int .i64 0] 66)) w.heap.size ⟨.nil, 0⟩) := ⟨none, Blk.new w _ _, Tt.of_nil⟩
  go_enter Try.func13, Try.ntmps13
  go_wp2
  go_ret
  exact ⟨_, rfl, unhide HT, Nat.le_refl _, (Kept.refl _ _).alloc _⟩
theorem infoOp : (Try.prog.info? 36).map (·.size) = some 4 := by kernel_rfl
set_option maxRecDepth 100000 in
theorem lput_any (w : World) (ka : Option Addr) (kn kc : Nat) (va : Option Addr) (vn vc : Nat) : Calls Try.prog 14 #[.slice ka kn kc, .slice va vn vc] w fun e w' => e = .returned (.agg #[.int .i64 2, .slice ka kn kc, .slice va vn vc, .int .i64 0]) ∧ Kept [] w w' := by
  go_enter Try.func14, Try.ntmps14
  go_wp2
  (try simp only [Exit.inBlock, Exit.then])
  exact ret_struct (b := w.heap.size) rfl rfl (Blk.new w _ _) Try.underlying36 infoOp rfl ⟨rfl, (Kept.refl _ _).alloc _⟩
set_option maxRecDepth 100000 in
theorem lget_any (w : World) (ka : Option Addr) (kn kc : Nat) : Calls Try.prog 18 #[.slice ka kn kc] w fun e w' => e = .returned (.agg #[.int .i64 1, .slice ka kn kc, .slice none 0 0, .int .i64 0]) ∧ Kept [] w w' := by
  go_enter Try.func18, Try.ntmps18
  go_wp2
  (try simp only [Exit.inBlock, Exit.then])
  exact ret_struct (b := w.heap.size) rfl rfl (Blk.new w _ _) Try.underlying36 infoOp rfl ⟨rfl, (Kept.refl _ _).alloc _⟩
set_option maxRecDepth 100000 in
theorem writes_any (w : World) (o : Opm) (ks vs : Value) : Calls Try.prog 20 #[opv o ks vs] w fun e w' => e = .returned (.bool (decide (o.kind = 2 ∨ o.kind = 3 ∨ o.kind = 4))) ∧ Kept [] w w' := by
  unfold opv
  go_enter Try.func20, Try.ntmps20
  go_wp2_with fail
  all_goals
    go_ret
    refine ⟨ret_bool ?_, (Kept.refl _ _).alloc _⟩
    first
      | (rw [Bool.eq_iff_iff]; done)
      | (rw [Bool.eq_iff_iff]; simp_all; done)
      | (rw [Bool.eq_iff_iff]; simp_all; omega)
/-- a table stays one that may be -/
theorem rvn_le {T : Tb} {o : Opm} : T.rev ≤ rvn T o := by unfold rvn; split <;> omega
theorem set_rok {t : TI} (h : Rok t) {k : ByteArray} {x : VT} (hx : Rw (k, x)) (hz : t.size < 1099511627776) : Rok (setT t k x) ∧ (setT t k x).size ≤ t.size + 1 := by
  have hw := h.without k
  have s1 := (t.without k).1.put_size k x
  have s2 := t.without_size k
  refine ⟨⟨Tr.rise_put _ k x hw.rise, by unfold setT; omega, fun e he => ?_⟩, by unfold setT; omega⟩
  rw [set_list h.rise] at he
  rcases List.mem_append.1 he with he | he
  · exact h.rows e (List.mem_filter.1 he).1
  · rcases List.mem_cons.1 he with rfl | he
    · exact hx
    · exact h.rows e (List.mem_filter.1 he).1
theorem right_len {T : Tb} {o : Opm} (hr : rfs T o = 0) : rgt o = true ∧ (wrs o = true → T.rev ≤ 1099511627776 → T.rev < 1099511627776) ∧ o.key.length ≤ 65 ∧ o.val.length ≤ 256 ∧ (o.kind = 2 ∨ o.kind = 4 → o.key.length ≤ 64) := by
  have hrg : rgt o = true := by
    unfold rfs at hr
    cases hg : rgt o with
    | true => rfl
    | false => rw [hg] at hr; simp at hr
  refine ⟨hrg, fun hw hm => ?_, ?_⟩
  · unfold rfs at hr
    rw [hrg, hw] at hr
    by_cases he : T.rev = 1099511627776
    · simp [he] at hr
    · omega
  · unfold rgt at hrg
    split at hrg
    · (simp only [decide_eq_true_eq] at hrg); omega
    · split at hrg
      · (simp only [decide_eq_true_eq] at hrg); omega
      · split at hrg
        · (simp only [decide_eq_true_eq] at hrg); omega
        · split at hrg
          · (simp only [decide_eq_true_eq] at hrg); omega
          · cases hrg
theorem Tok.nxt {T : Tb} (h : Tok T) {o : Opm} (hr : rfs T o = 0) : Tok (nxt T o) := by
  obtain ⟨-, hlt, hk, hv, hk2⟩ := right_len hr
  have hrv : T.rev ≤ rvn T o := rvn_le
  have hrm : rvn T o ≤ 1099511627776 := by
    unfold rvn
    split
    · rename_i hw; have := hlt hw h.rev; omega
    · exact h.rev
  have same : Tok ⟨T.t, rvn T o⟩ := ⟨h.ok, Nat.le_trans h.size hrv, hrm, fun e he => ⟨(h.up e he).1, by have := (h.up e he).2; simp only; omega⟩⟩
  unfold tre.nxt
  by_cases hd : dn T o = true
  · rw [if_pos hd]
    unfold chg
    by_cases h24 : o.kind = 2 ∨ o.kind = 4
    · rw [if_pos h24]
      have hw : wrs o = true := by unfold wrs; simp; omega
      have hl := hlt hw h.rev
      have he : rvn T o = T.rev + 1 := by unfold rvn; rw [if_pos hw]
      have hx : Rw (strB o.key, strB o.val, (rvn T o : Int)) := ⟨by rw [strB_size]; exact hk2 h24, by rw [strB_size]; exact hv, by simp only; omega, by simp only; omega⟩
      have hs := set_rok h.ok hx (by have := h.size; omega)
      refine ⟨hs.1, by have := hs.2; have := h.size; simp only; omega, hrm, fun e hm => ?_⟩
      simp only at hm ⊢
      rw [set_list h.ok.rise] at hm
      rcases List.mem_append.1 hm with hm | hm
      · have := h.up e (List.mem_filter.1 hm).1; omega
      · rcases List.mem_cons.1 hm with rfl | hm
        · simp only; omega
        · have := h.up e (List.mem_filter.1 hm).1; omega
    · rw [if_neg h24]
      by_cases h3 : o.kind = 3
      · rw [if_pos h3]
        have s2 := T.t.without_size (strB o.key)
        refine ⟨h.ok.without _, by have := h.size; simp only; omega, hrm, fun e hm => ?_⟩
        simp only at hm ⊢
        rw [(Tr.without_list T.t _ h.ok.rise).1] at hm
        rcases List.mem_append.1 hm with hm | hm
        · have := h.up e (List.mem_filter.1 hm).1; omega
        · have := h.up e (List.mem_filter.1 hm).1; omega
      · rw [if_neg h3]; exact same
  · rw [if_neg hd]; exact same
theorem Tok.new : Tok ⟨.nil, 0⟩ := ⟨⟨List.Pairwise.nil, Nat.zero_le _, fun e he => by cases he⟩, Nat.zero_le _, by simp, fun e he => by cases he⟩
/-- an op done, or refused -/
def stp (T : Tb) (o : Opm) : Tb := if rfs T o = 0 then nxt T o else T
theorem Tok.stp {T : Tb} (h : Tok T) (o : Opm) : Tok (stp T o) := by
  unfold tre.stp
  split
  · rename_i hr; exact h.nxt hr
  · exact h
def mkT (os : List Opm) : Tb := os.foldl stp ⟨.nil, 0⟩
theorem mkT_tok (os : List Opm) : Tok (mkT os) := by
  unfold mkT
  have : ∀ (os : List Opm) (T : Tb), Tok T → Tok (os.foldl tre.stp T) := by
    intro os
    induction os with
    | nil => exact fun T h => h
    | cons o os ih => exact fun T h => ih _ (h.stp o)
  exact this os _ Tok.new
end Go.Proofs.Ytkejpbfbpomjfab.tre

/- A table on which ops were done. -/
namespace Go.Proofs.Ytkejpbfbpomjfab.tre
open Go.RowKit

/-- a list that lay there, or an empty one, wherever -/
def Low (w : World) (v : Value) : Prop := (∃ a, v = .slice (some a) 0 0) ∨ ∀ x, v.ownBlock = some x → x < w.heap.size
theorem Low.free {w : World} {v : Value} (h : Low w v) {b : Nat} (hb : w.heap.size ≤ b) : Free b v := by
  rcases h with h | h
  · exact Or.inl h
  · exact Or.inr fun x hx => by have := h x hx; omega
/-- ops that came in -/
def OpsIn (w : World) (v : Value) (os : List Opm) : Prop :=
  ∃ a cap, v = .slice a os.length cap ∧ os.length ≤ 9223372036854775807 ∧ ∀ k o, os[k]? = some o → ∃ b off ks vs, a = some ⟨b, off, none⟩ ∧ b < w.heap.size ∧ w.rangeAt b (off + k * 4) [.int .i64 o.kind, ks, vs, .int .i64 o.rev] ∧ OpAt w o ks vs ∧ Low w ks ∧ Low w vs
/-- Do, whatever it answers -/
theorem Do_any {w : World} {b : Nat} {T : Tb} (h : Tab w b T) (hT : Tok T) {o : Opm} {ks vs : Value} (ho : OpAt w o ks vs) (hkb : Free b ks) (hvb : Free b vs) :
    Calls Try.prog 15 #[.pointer (some ⟨b, 0, none⟩), opv o ks vs] w fun e w' => ∃ d ka kn kc va vn vc r at_ er, e = .returned (.tuple #[.agg #[.bool d, .slice ka kn kc, .slice va vn vc, .int .i64 r, .int .i64 at_], .int .i64 er]) ∧ Tab w' b (stp T o) ∧ Kept [b] w w' := by
  unfold stp
  by_cases hr : rfs T o = 0
  · rw [if_pos hr]
    refine (Do_yes h hT ho hkb hvb hr).mono ?_
    rintro e w' ⟨ka, kn, kc, va, vn, vc, he, ha⟩
    exact ⟨_, ka, kn, kc, va, vn, vc, _, _, _, he, ha.t, ha.kp⟩
  · rw [if_neg hr]
    refine (Do_no h ho hr).mono ?_
    rintro e w' ⟨he, hk⟩
    exact ⟨_, _, _, _, _, _, _, _, _, _, he, h.kept hk, hk.mono (by simp)⟩
set_option maxRecDepth 100000 in
set_option maxHeartbeats 2000000 in
theorem made_any {w0 w : World} {v : Value} {os : List Opm} (h : OpsIn w0 v os) (hk : Kept [] w0 w) :
    Calls Try.prog 17 #[v] w fun e w' => ∃ b, e = .returned (.pointer (some ⟨b, 0, none⟩)) ∧ Tab w' b (mkT os) ∧ w.heap.size ≤ b ∧ Kept [] w w' := by
  obtain ⟨a, cap, rfl, hlen, hall⟩ := h
  have HALL := hide hall
  have HK := hide hk
  have HN := hide (new_any w)
  have hs0 := hk.size
  clear hall hk
  obtain ⟨L, hL⟩ : ∃ L, os.length = L := ⟨_, rfl⟩
  have HL := hide hL
  rw [hL] at hlen ⊢
  clear hL
  go_enter Try.func17, Try.ntmps17
  go_wp2_with (first
    | (go_at_call 13; refine (unhide HN).mono ?_; rintro e w1 ⟨b, rfl, ht1, hb1, hk1⟩
       have HT1 := hide ht1
       have HK1 := hide hk1
       clear ht1 hk1))
  go_loopw [4] (fun i wr => ∃ k : Nat, k ≤ L ∧ i = .int .i64 (k : Int) ∧ Tab wr b ((os.take k).foldl stp ⟨.nil, 0⟩) ∧ Kept [] w wr) (fun i _ => L - (intOf i).toNat)
  case atStart => exact ⟨0, by omega, rfl, unhide HT1, unhide HK1⟩
  case round =>
    obtain ⟨k, hkL, rfl, ht, hkr⟩ := hrel
    by_cases hlt : k < L
    · have hko : k < os.length := by rw [unhide HL]; exact hlt
      obtain ⟨o, ho⟩ : ∃ o, os[k]? = some o := ⟨os[k], List.getElem?_eq_getElem hko⟩
      obtain ⟨sb, off, ks, vs, hsa, hsb, hrg, hoa, hlk, hlv⟩ := unhide HALL k o ho
      subst hsa
      have hk0r := (unhide HK).step hkr
      have cc : ∀ (j : Nat) (u : Value), [Value.int .i64 o.kind, ks, vs, .int .i64 o.rev][j]? = some u → wr.cell? ⟨sb, off + k * 4 + j, none⟩ = some u := fun j u hj => (hk0r.cell (p := ⟨sb, off + k * 4 + j, none⟩) hsb (by simp)).trans (hrg j u hj)
      have s0 : wr.cell? ⟨sb, off + k * 4, none⟩ = some (.int .i64 o.kind) := cc 0 _ rfl
      have s1 : wr.cell? ⟨sb, off + k * 4 + 1, none⟩ = some ks := cc 1 _ rfl
      have s2 : wr.cell? ⟨sb, off + k * 4 + 2, none⟩ = some vs := cc 2 _ rfl
      have s3 : wr.cell? ⟨sb, off + k * 4 + 3, none⟩ = some (.int .i64 o.rev) := cc 3 _ rfl
      have htk : (os.take (k + 1)).foldl stp ⟨.nil, 0⟩ = stp ((os.take k).foldl stp ⟨.nil, 0⟩) o := by
        rw [List.take_add_one, ho]
        simp [List.foldl_append]
      have HTK := hide htk
      have HD := hide (Do_any ht (mkT_tok (os.take k)) (hoa.kept hk0r) (hlk.free (by omega)) (hlv.free (by omega)))
      unfold opv at HD
      have hki : (k : Int) < (L : Int) := by omega
      have HKR := hide hkr
      clear ht hkr cc hrg hoa hlk hlv htk hk0r
      go_wp2_with (first
        | (go_at_call 15; refine (unhide HD).mono ?_; rintro e w2 ⟨d, ka, kn, kc, va, vn, vc, r, at2, er, rfl, ht2, hk2⟩
           have HT2 := hide ht2
           have HK2 := hide ((unhide HKR).trans hk2 (by simp; exact hb1))
           clear ht2 hk2))
      refine ⟨⟨k + 1, by omega, by simp, ?_, unhide HK2⟩, by simp [intOf]; omega⟩
      rw [unhide HTK]; exact unhide HT2
    · obtain rfl : k = L := by omega
      have HT2 := hide ht
      have HK2 := hide hkr
      clear ht hkr
      go_wp2_with fail
      go_ret
      refine ⟨b, rfl, ?_, hb1, unhide HK2⟩
      have := unhide HT2
      rw [List.take_of_length_le (by rw [unhide HL]; exact Nat.le_refl _)] at this
      exact this
end Go.Proofs.Ytkejpbfbpomjfab.tre

/- Rows being laid out. -/
namespace Go.Proofs.Ytkejpbfbpomjfab.tre
open Go.RowKit

/-- bytes in a block of bytes -/
def SeeT (B : Nat) (X : World) (v : Value) (bs : List Nat) : Prop := Sees X v bs ∧ ∀ k, v.ownBlock = some k → B ≤ k ∧ ∃ cs fr, X.heap[k]? = some (.cells cs 5 fr)
theorem SeeT.keep {B : Nat} {F : List Nat} {X Y : World} {v : Value} {bs : List Nat} (h : SeeT B X v bs) (hk : Kept F X Y) (hF : ∀ x ∈ F, ∀ cs fr, X.heap[x]? ≠ some (.cells cs 5 fr)) : SeeT B Y v bs := by
  have hn : ∀ k, v.ownBlock = some k → k ∉ F := fun k hv hm => by
    obtain ⟨-, cs, fr, hc⟩ := h.2 k hv
    exact hF k hm cs fr hc
  refine ⟨h.1.kept hk hn, fun k hv => ⟨(h.2 k hv).1, ?_⟩⟩
  obtain ⟨-, cs, fr, hc⟩ := h.2 k hv
  exact ⟨cs, fr, (hk.block k (Array.getElem?_eq_some_iff.1 hc).1 (hn k hv)).trans hc⟩
theorem SeeT.kept {B : Nat} {X Y : World} {v : Value} {bs : List Nat} (h : SeeT B X v bs) (hk : Kept [] X Y) : SeeT B Y v bs := h.keep hk (fun x hx => by cases hx)
theorem SeeT.from {B C : Nat} {X : World} {v : Value} {bs : List Nat} (h : SeeT B X v bs) (hs : C ≤ B) : SeeT C X v bs := ⟨h.1, fun k hv => ⟨Nat.le_trans hs (h.2 k hv).1, (h.2 k hv).2⟩⟩
theorem conv_ex3 : ∃ (g c : World → ByteArray → Nat) (N : World → ByteArray → World), (∀ w s, (convert 9 22 (.string s)).run Try.prog w = .ok (.slice (some ⟨g w s, 0, none⟩) s.size (c w s)) (N w s)) ∧ (∀ w s, s.size ≤ 1048576 → SeeT w.heap.size (N w s) (.slice (some ⟨g w s, 0, none⟩) s.size (c w s)) (byts s)) ∧ ∀ w s, Kept [] w (N w s) :=
  ⟨fun w _ => w.heap.size, fun w s => grownCap w s.size 0 5, fun w s => Lib.bytesWorld w 5 s, run_bytes, fun w s hs => ⟨(new_bytes w s hs).1, fun k hk => by
    simp only [Value.ownBlock, Option.some.injEq] at hk
    subst hk
    exact ⟨Nat.le_refl _, _, _, Lib.bytesWorld_at_new w _ s⟩⟩, kept_conv⟩
theorem conv_at (w : World) (s : ByteArray) (h : s.size ≤ 1048576) : ∃ (g c : Nat) (N : World), (convert 9 22 (.string s)).run Try.prog w = .ok (.slice (some ⟨g, 0, none⟩) s.size c) N ∧ SeeT w.heap.size N (.slice (some ⟨g, 0, none⟩) s.size c) (byts s) ∧ Kept [] w N := by
  obtain ⟨g, c, N, h1, h2, h3⟩ := conv_ex3
  exact ⟨g w s, c w s, N w s, h1 w s, h2 w s h, h3 w s⟩
/-- a row with its lists -/
structure Re where
  e : ByteArray × VT
  ks : Value
  vs : Value
def rec3 (r : Re) : List Value := [r.ks, r.vs, .int .i64 r.e.2.2]
def flatR (l : List Re) : List Value := l.flatMap rec3
theorem flatR_app (l m : List Re) : flatR (l ++ m) = flatR l ++ flatR m := by simp [flatR]
theorem flatR_len (l : List Re) : (flatR l).length = l.length * 3 := by
  induction l with
  | nil => rfl
  | cons e l ih => simp only [flatR, List.flatMap_cons, List.length_append, List.length_cons] at *; simp [rec3] at *; omega
def ReP (B : Nat) (X : World) (r : Re) : Prop := SeeT B X r.ks (byts r.e.1) ∧ SeeT B X r.vs (byts r.e.2.1)
theorem info_parts2 {o : Option TypeInfo} {z : Option Value} {s b : Nat} (h : o.map (fun i => (i.zero, i.size, i.bytes)) = some (z, s, b)) : ∃ i, o = some i ∧ i.zero = z ∧ i.size = s ∧ i.bytes = b := by
  cases o with
  | none => cases h
  | some i => simp at h; exact ⟨i, rfl, h.1, h.2.1, h.2.2⟩
theorem infoRow : (Try.prog.info? 32).map (fun i => (i.zero, i.size, i.bytes)) = some (some (.agg #[.slice none 0 0, .slice none 0 0, .int .i64 0]), 3, 56) := by kernel_rfl
/-- rows in their box -/
structure Rs (w X : World) (bx g cap : Nat) (l : List Re) : Prop where
  box : Blk X bx #[.slice (some ⟨g, 0, none⟩) l.length cap] 29
  own : X.ownsRow w.heap.size 32 3 (.slice (some ⟨g, 0, none⟩) l.length cap) l.length (flatR l)
  txt : ∀ r ∈ l, ReP w.heap.size X r
  kp : Kept [] w X
  ge : w.heap.size ≤ bx
theorem own_typed {X : World} {B e s n : Nat} {v : Value} {xs : List Value} (h : X.ownsRow B e s v n xs) {g : Nat} (hg : v.ownBlock = some g) : B ≤ g ∧ ∃ cs fr, X.heap[g]? = some (.cells cs e fr) := by
  rcases h.2 with ⟨e1, _⟩ | ⟨g', cap', cur, e1, hb, hh, _⟩
  · rw [e1] at hg; cases hg
  · rw [e1] at hg; cases hg; exact ⟨hb, _, _, hh⟩
theorem seet_own {β : Type} {B C : Nat} {v : Value} {bs : List Nat} : OwnT B (fun (_ : β) X => SeeT C X v bs) := fun _ X Y row hs hg hr => by
  have hb : ∀ k, v.ownBlock = some k → Y.heap[k]? = X.heap[k]? := fun k hk => by
    obtain ⟨-, cs, fr, hc⟩ := hs.2 k hk
    refine hg.block k (Array.getElem?_eq_some_iff.1 hc).1 (fun e => ?_)
    obtain ⟨_, o, ho, h2⟩ := hr k e.symm
    rw [hc] at ho
    cases ho
    rcases h2 with h2 | ⟨cs', fr', h2⟩
    · cases h2
    · cases h2
  refine ⟨?_, fun k hk => ⟨(hs.2 k hk).1, ?_⟩⟩
  · rcases hs.1 with h | ⟨b, off, cap, hv, h1, h2, h3, h4⟩
    · exact Or.inl h
    · refine Or.inr ⟨b, off, cap, hv, h1, h2, Nat.lt_of_lt_of_le h3 hg.size, fun j hj => ?_⟩
      rw [← h4 j hj]
      exact World.cell?_of_block (hb b (by rw [hv]; rfl))
  · obtain ⟨-, cs, fr, hc⟩ := hs.2 k hk
    exact ⟨cs, fr, (hb k hk).trans hc⟩
theorem rs_own {β : Type} {B : Nat} {w : World} {bx g cap : Nat} {l : List Re} (hB : w.heap.size ≤ B) : OwnT B (fun (_ : β) V => Rs w V bx g cap l) := fun _ X Y row hs hg hr =>
  ⟨blk_own (β := Unit) (by decide) () X Y row hs.box hg hr, row_own (β := Unit) (by decide) _ _ _ () X Y row hs.own hg hr, fun r hm => ⟨seet_own (β := Unit) () X Y row (hs.txt r hm).1 hg hr, seet_own (β := Unit) () X Y row (hs.txt r hm).2 hg hr⟩, kept_own (β := Unit) hB () X Y row hs.kp hg hr, hs.ge⟩
theorem Rs.kept {w X Y : World} {bx g cap : Nat} {l : List Re} (h : Rs w X bx g cap l) (hk : Kept [] X Y) : Rs w Y bx g cap l :=
  ⟨h.box.kept hk (by simp), own_kept h.own hk (by simp), fun r hm => ⟨(h.txt r hm).1.kept hk, (h.txt r hm).2.kept hk⟩, h.kp.step hk, h.ge⟩
/-- a row more -/
theorem Rs.more {w V W W1 : World} {bx g cap : Nat} {l : List Re} (h : Rs w V bx g cap l) (hk : Kept [] V W) (r : Re) (hr : ReP w.heap.size W r) (ho : W1.ownsRow w.heap.size 32 3 (.slice (some ⟨g, 0, none⟩) (l.length + 1) cap) (l.length + 1) (flatR l ++ rec3 r)) (hg : W.grownBy W1 (some g)) :
    Rs w (W1.setCell ⟨bx, 0, none⟩ (.slice (some ⟨g, 0, none⟩) (l.length + 1) cap)) bx g cap (l ++ [r]) ∧ Kept [g, bx] V (W1.setCell ⟨bx, 0, none⟩ (.slice (some ⟨g, 0, none⟩) (l.length + 1) cap)) ∧ Soft V [g, bx] ∧ Blk W1 bx #[.slice (some ⟨g, 0, none⟩) l.length cap] 29 := by
  obtain ⟨hgb, cs, fr, hgt⟩ := own_typed h.own (g := g) rfl
  have hne : bx ≠ g := fun e => by
    subst e
    have := h.box
    unfold Blk at this
    rw [hgt] at this
    cases this
  have hk1 : Kept [g] W W1 := ⟨hg.os, hg.tape, hg.output, hg.size, fun k hk hn => hg.block k hk (fun e => hn (by cases e; simp))⟩
  have hgt' : W.heap[g]? = some (.cells cs 32 fr) := (hk.block g (Array.getElem?_eq_some_iff.1 hgt).1 (by simp)).trans hgt
  have hb1 : Blk W1 bx #[.slice (some ⟨g, 0, none⟩) l.length cap] 29 := (h.box.kept hk (by simp)).kept hk1 (by simpa using hne)
  have hb2 := hb1.set 0 (.slice (some ⟨g, 0, none⟩) (l.length + 1) cap)
  obtain ⟨S, hS⟩ : ∃ S, W1.setCell ⟨bx, 0, none⟩ (.slice (some ⟨g, 0, none⟩) (l.length + 1) cap) = S := ⟨_, rfl⟩
  have hk2 : Kept [bx] W1 S := by rw [← hS]; exact (Kept.refl [bx] W1).setCell (p := ⟨bx, 0, none⟩) (Or.inl (by simp)) _
  rw [hS] at hb2 ⊢
  have hseen : ∀ {v : Value} {bs : List Nat}, SeeT w.heap.size W v bs → SeeT w.heap.size S v bs := fun hs => by
    refine (hs.keep hk1 (fun x hx cs' fr' e => ?_)).keep hk2 (fun x hx cs' fr' e => ?_)
    · simp at hx; subst hx; rw [hgt'] at e; cases e
    · simp at hx; subst hx; unfold Blk at hb1; rw [hb1] at e; cases e
  have hkk : Kept [g, bx] V S := ((hk.mono (G := [g, bx]) (by simp)).trans hk1 (by simp)).trans hk2 (by simp)
  refine ⟨⟨?_, ?_, fun r' hm => ?_, ?_, h.ge⟩, hkk, fun x hx => ?_, hb1⟩
  · rw [List.length_append]; exact hb2
  · rw [flatR_app, List.length_append]
    have h9 := own_kept ho hk2 (by simp [Value.ownBlock]; exact fun e => hne e.symm)
    rw [show flatR [r] = rec3 r from by simp [flatR]]
    exact h9
  · rcases List.mem_append.1 hm with hm | hm
    · exact ⟨hseen ((h.txt r' hm).1.kept hk), hseen ((h.txt r' hm).2.kept hk)⟩
    · simp at hm; subst hm; exact ⟨hseen hr.1, hseen hr.2⟩
  · exact h.kp.trans hkk (by simp; exact ⟨hgb, h.ge⟩)
  · simp at hx
    rcases hx with rfl | rfl
    · exact ⟨_, _, _, hgt, by decide, by decide⟩
    · exact ⟨_, _, _, h.box, by decide, by decide⟩
end Go.Proofs.Ytkejpbfbpomjfab.tre

/- Rows: the rows of a table. -/
namespace Go.Proofs.Ytkejpbfbpomjfab.tre
open Go.RowKit Go.Shelf
set_option linter.unusedVariables false
attribute [local go_sem] Oper.semAt_some

set_option maxRecDepth 100000 in
set_option maxHeartbeats 4000000 in
theorem rows_any {w : World} {b : Nat} {T : Tb} (h : Tab w b T) (hT : Tok T) (hsm : T.t.size ≤ 1048576) : Calls Try.prog 11 #[.pointer (some ⟨b, 0, none⟩)] w fun e w' => ∃ v l, e = .returned v ∧ l.map (·.e) = T.t.list ∧ w'.ownsRow w.heap.size 32 3 v l.length (flatR l) ∧ (∀ r ∈ l, ReP w.heap.size w' r) ∧ Kept [] w w' := by
  have hrev := hT.rev
  have hsz := hT.ok.size
  have hbl : b < w.heap.size := by obtain ⟨q0, hb0, -⟩ := h; exact hb0.lt
  have HL : Hid (∀ W, Kept [] w W → _) := hide (fun W (hk : Kept [] w W) => tlen_any (h.kept hk) hT.ok)
  have hnf : ∀ (b : Nat) (W : World), (binOp BinOp.eql 70 (.func (.func 74) #[] #[.pointer (some ⟨b, 0, none⟩)]) .nilFunc).run Try.prog W = .ok (.bool false) W := fun b W => by kernel_rfl
  obtain ⟨q, hb, ht⟩ := h
  have HA : Hid (∀ W, Kept [] w W → _) := hide (fun W (hk : Kept [] w W) => All_any (ht.kept hk) (by omega))
  obtain ⟨c0, c1, c2⟩ := box3 hb
  have HB := hide hb
  have HT := hide ht
  clear hb ht
  obtain ⟨i0, hi, hz0, hz1, hz2⟩ := info_parts2 infoRow
  refine (callsIn_wide (n := 0)).1 ?_
  refine callsIn_of_wp_marks Try.func11 rfl trivial ?_ rfl
  simp only [Try.ntmps11, List.size_toArray, List.length_cons, List.length_nil, Nat.reduceAdd, Nat.reduceSub, Array.replicate_succ, Array.replicate_zero, List.push_toArray, List.append_toArray, List.nil_append, List.cons_append]
  gi_wp2_with (first
    | (refine ⟨trivial, rfl, ?_⟩; gi_at_call 27; refine (callsIn_wide.2 (unhide HL _ (by first | exact Kept.refl [] w | exact (Kept.refl [] w).alloc _ | exact (Kept.refl [] w).drew))).mono ?_; rintro e w1 ⟨rfl, hq⟩; have hq2 := hq.symm; subst hq2)
    | (gi_at_make; refine wpListIn_make_own _ rfl _ _ 29 rfl w.heap.size 32 i0 _ 3 Try.underlying29 hi hz0 hz1 .i64 .i64 _ T.t.size rfl rfl rfl (by rw [hz2]; omega) (by unfold maxLen; omega) (Nat.le_refl _) ?_; intro w1 ho1 hg1
       have hk1 : Kept [] w w1 := ⟨hg1.os, hg1.tape, hg1.output, hg1.size, fun k hk _ => hg1.block k hk (by simp)⟩
       have hst : Rs w (w1.alloc (.cells #[.slice (some ⟨w.heap.size, 0, none⟩) 0 T.t.size] 29)) w1.heap.size w.heap.size T.t.size [] := ⟨Blk.new w1 _ _, own_kept ho1 ((Kept.refl [] w1).alloc _) (by simp), fun r hr => (by cases hr), hk1.alloc _, hk1.size⟩
       have HST := hide hst
       obtain ⟨e0, e1, e2⟩ := box3 ((unhide HB).kept (hk1.alloc (.cells #[.slice (some ⟨w.heap.size, 0, none⟩) 0 T.t.size] 29)) (by simp))
       have HK1 := hide (hk1.alloc (.cells #[.slice (some ⟨w.heap.size, 0, none⟩) 0 T.t.size] 29))
       clear ho1 hg1 hk1 hst)
    | (refine ⟨trivial, rfl, ?_⟩; gi_at_call 34; refine (callsIn_wide.2 (unhide HA _ (unhide HK1))).mono ?_; rintro e w5 ⟨v5, rfl, hsq, hk5⟩; obtain ⟨bn, bt, bd, vt, rfl, hbn, hbt, hbd5, hnr⟩ := hsq)
    | fail)
  have hlist : outR (spine T.t).reverse = T.t.list := by have := outR_spine T.t []; simpa [outR] using this
  have hll : T.t.list.length ≤ 8796093022208 := by rw [Tr.list_length]; omega
  have hseq := entries_seq hbn hbt hbd5 hnr (by rw [hlist]; exact hll)
  rw [hlist] at hseq
  have hX5 := (unhide HST).kept hk5
  have hw5 : w.heap.size ≤ w5.heap.size := hX5.kp.size
  have hrows := hT.ok.rows
  obtain ⟨bx, hbx⟩ : ∃ bx, w1.heap.size = bx := ⟨_, rfl⟩
  rw [hbx] at hX5 ⊢
  clear hbn hbt hbd5 hnr HST e0 e1 e2 HK1 HA HL hk5 c0 c1 c2 hbx
  refine range_own2 (gf := 74) (lb := #[.pointer (some ⟨bn, 0, none⟩)]) rfl (enters_of Try.func74 (by kernel_rfl) rfl) hseq (fun _ _ _ _ hs _ _ => hs) (KpT.refl _) (fun _ => rfl)
    (fun pre V => ∃ l, l.map (·.e) = pre ∧ Rs w V bx w.heap.size T.t.size l) (fun _ _ _ => False) (fun s X Y row hs hg hr => by obtain ⟨l, hl, hs⟩ := hs; exact ⟨l, hl, rs_own (β := Unit) hw5 () X Y row hs hg hr⟩) (fun _ _ _ _ _ hs _ _ => hs)
    ⟨[], rfl, hX5⟩ (fun x => .cells #[.string x.2.1, .int .i64 x.2.2] 73)
    (fun x n => { tmps := #[Value.pointer (some ⟨b, 0, none⟩), undef, Value.slice none 0 0, Value.pointer (some ⟨bx, 0, none⟩), Value.string x.1, Value.pointer (some ⟨n, 0, none⟩), Value.pointer (some ⟨b, 0, none⟩), Value.bool false, Value.pointer (some ⟨b, 0, none⟩), Value.int .i64 (T.t.size : Int), Value.slice (some ⟨w.heap.size, 0, none⟩) 0 T.t.size, Value.pointer (some ⟨b, 0, none⟩), Value.pointer (some ⟨b, 0, none⟩), Value.pointer (some ⟨b, 0, none⟩), Value.pointer q, Value.func (.func 74) #[] #[.pointer (some ⟨bn, 0, none⟩)], Value.string x.1, Value.agg #[.string x.2.1, .int .i64 x.2.2], undef, undef, undef, undef, undef, undef, undef, undef, undef, undef, undef, undef], defers := [] }) ?assign ?body ?done ?stop
  case assign =>
    intro l x W K hK
    gi_wp2
    exact hK
  case body =>
    rintro l pre ⟨k, v, r⟩ V n ⟨L, hL, hst⟩ hmem hbx5 hn hlen
    obtain ⟨hk64, hv256, hr0, hr1⟩ := hrows _ hmem
    simp only at hk64 hv256 hr0 hr1
    obtain ⟨g1, c1, N1, hc1, hn1, hkp1⟩ := conv_at V k (by omega)
    obtain ⟨g2, c2, N2, hc2, hn2, hkp2⟩ := conv_at N1 v (by omega)
    have hbxV : Blk V n #[.string v, .int .i64 r] 73 := hbx5
    have y0 : V.cell? ⟨bx, 0, none⟩ = some (.slice (some ⟨w.heap.size, 0, none⟩) L.length T.t.size) := hst.box.cell 0
    have hl2 : L.length + 1 ≤ T.t.size := by rw [← Tr.list_length]; have := congrArg List.length hL; rw [List.length_map] at this; omega
    obtain ⟨q0, q1⟩ := box2 (hbxV.kept hkp1 (by simp))
    obtain ⟨r0, r1⟩ := box2 ((hbxV.kept hkp1 (by simp)).kept hkp2 (by simp))
    have hs1 := (hn1.from hst.kp.size).kept hkp2
    have hs2 := hn2.from (Nat.le_trans hst.kp.size hkp1.size)
    obtain ⟨W3, hW3⟩ : ∃ W3, N2.alloc (.cells #[.slice (some ⟨g1, 0, none⟩) k.size c1, .slice (some ⟨g2, 0, none⟩) v.size c2, .int .i64 r] 32) = W3 := ⟨_, rfl⟩
    have hk3 : Kept [] N2 W3 := by rw [← hW3]; exact (Kept.refl [] N2).alloc _
    have hkV : Kept [] V W3 := (hkp1.step hkp2).step hk3
    have hb3 : Blk W3 N2.heap.size #[.slice (some ⟨g1, 0, none⟩) k.size c1, .slice (some ⟨g2, 0, none⟩) v.size c2, .int .i64 r] 32 := by rw [← hW3]; exact Blk.new N2 _ _
    have hown := own_kept hst.own hkV (by simp)
    have hcell : ∀ (j : Nat) (u : Value), (rec3 ⟨(k, v, r), .slice (some ⟨g1, 0, none⟩) k.size c1, .slice (some ⟨g2, 0, none⟩) v.size c2⟩)[j]? = some u → W3.cell? ((⟨N2.heap.size, 0, none⟩ : Addr).add j) = some u := fun j u hu => by
      have hj : j < 3 := (List.getElem?_eq_some_iff.1 hu).1
      obtain rfl | rfl | rfl : j = 0 ∨ j = 1 ∨ j = 2 := by omega
      all_goals (simp [rec3] at hu; subst hu)
      · exact hb3.cell 0
      · exact hb3.cell 1
      · exact hb3.cell 2
    have HMO := hide (fun W1 ho hg => hst.more hkV ⟨(k, v, r), .slice (some ⟨g1, 0, none⟩) k.size c1, .slice (some ⟨g2, 0, none⟩) v.size c2⟩ ⟨hs1.kept hk3, hs2.kept hk3⟩ (W1 := W1) ho hg)
    have HOW := hide hown
    have HCE := hide hcell
    have HLL := hide hL
    have hbx3 : W3.cell? ⟨bx, 0, none⟩ = some (.slice (some ⟨w.heap.size, 0, none⟩) L.length T.t.size) := (hst.box.kept hkV (by simp)).cell 0
    clear hown hcell hst hs1 hs2 hn1 hn2 hkV hk3 hb3 hbxV hbx5 hL
    gi_wp2_with (first
      | (gi_at_builtin; (try rw [hW3]); refine wpListIn_append_fits _ rfl (.tmp 18) (.tmp 27) 29 rfl w.heap.size 32 i0 3 Try.underlying29 hi hz1 w.heap.size L.length T.t.size (flatR L) rfl (unhide HOW) ⟨N2.heap.size, 0, none⟩ 1 1 (rec3 ⟨(k, v, r), .slice (some ⟨g1, 0, none⟩) k.size c1, .slice (some ⟨g2, 0, none⟩) v.size c2⟩) rfl rfl (unhide HCE) (by intro u hu; simp [rec3] at hu; rcases hu with rfl | rfl | rfl <;> rfl) hl2 ?_; intro W4 ho4 hg4
         obtain ⟨hm1, hm2, hm3, hm4⟩ := unhide HMO W4 ho4 hg4
         have x0 : W4.cell? ⟨bx, 0, none⟩ = some (.slice (some ⟨w.heap.size, 0, none⟩) L.length T.t.size) := hm4.cell 0
         have x1 : W4.frozen? ⟨bx, 0, none⟩ = false := hm4.frozen 0
         have HM1 := hide hm1
         have HM2 := hide hm2
         have HM3 := hide hm3
         clear hm1 hm2 hm3 hm4 ho4 hg4)
      | fail)
    have c1 := soft_keeps (B := w5.heap.size) (unhide HM2) (unhide HM3)
    exact ⟨c1, _, by rw [List.map_append, unhide HLL]; rfl, unhide HM1⟩
  case done =>
    rintro D xs V hD rfl ⟨L, hL, hst⟩ hK
    have y0 : V.cell? ⟨bx, 0, none⟩ = some (.slice (some ⟨w.heap.size, 0, none⟩) L.length T.t.size) := hst.box.cell 0
    have HS := hide hst
    have HLL := hide hL
    clear hst hL
    gi_wp2_with fail
    have hD9 : w.heap.size ≤ D := Nat.le_trans hw5 hD
    have hst := unhide HS
    refine ⟨by simp, .inl ⟨_, _, rfl, run_takeDeferred hK, ?_⟩⟩
    refine ⟨_, results_tmp rfl _ _ _, _, L, rfl, unhide HLL, ?_, fun r hr => ⟨?_, ?_⟩, ?_⟩
    · exact own_put (row_own (β := Unit) (B := w.heap.size) (by decide) _ _ _) (s := ()) (.deferred none) hst.own hD9 hK rfl
    · exact own_put (seet_own (β := Unit) (B := w.heap.size)) (s := ()) (.deferred none) (hst.txt r hr).1 hD9 hK rfl
    · exact own_put (seet_own (β := Unit) (B := w.heap.size)) (s := ()) (.deferred none) (hst.txt r hr).2 hD9 hK rfl
    · exact own_put (kept_own (β := Unit) (B := w.heap.size) (w := w) (Nat.le_refl _)) (s := ()) (.deferred none) hst.kp hD9 hK rfl
  case stop =>
    rintro D c pre V hD hSp h hK
    exact h.elim
end Go.Proofs.Ytkejpbfbpomjfab.tre
