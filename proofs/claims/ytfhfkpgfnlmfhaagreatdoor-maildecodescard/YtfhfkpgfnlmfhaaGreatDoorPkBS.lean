/- Texts laid one behind the other: RFs RFb RLo RFp RO RH RR RP RQ RFa. -/
import Derived.Test.YtfhfkpgfnlmfhaaGreatDoorPkBO
import Derived.Test.YtfhfkpgfnlmfhaaGreatDoorPkBR
import Derived.Test.YtfhfkpgfnlmfhaaGreatDoorPkBA
/- The document's Form of a message: its writer. -/
namespace Go.Proofs.YtfhfkpgfnlmfhaaGreatDoor
open Go.RowKit

theorem own_down {w : World} {base base' : Nat} {e : TypeId} {sz : Nat} {v : Value} {n : Nat} {xs : List Value} (h : w.ownsRow base e sz v n xs) (hb : base' ≤ base) : w.ownsRow base' e sz v n xs := by
  refine ⟨h.1, ?_⟩
  rcases h.2 with h2 | ⟨g, cap, cur, e1, hg, r⟩
  · exact Or.inl h2
  · exact Or.inr ⟨g, cap, cur, e1, Nat.le_trans hb hg, r⟩
/-- The message's box b, and the document's writer c holding s. -/
structure FS (w : World) (b c : Nat) (p : Ml) (l : Lm) (s : List Nat) (W : World) : Prop where
  blk : Blk W b (mcc p l) 30
  bw : b = w.heap.size
  wr : ∃ F, Vs W c F ⟨525288, s, [], 0⟩ ∧ ∀ x ∈ F, w.heap.size + 1 ≤ x
  kept : Kept [] w W
theorem FS.lay {w : World} {b c : Nat} {p : Ml} {l : Lm} {s : List Nat} {W W' : World} {F : List Nat} (h : FS w b c p l s W) (hF : ∀ x ∈ F, w.heap.size + 1 ≤ x) (ys : List Nat) (hl : s.length + ys.length ≤ 525288) (hp : VsP W c F (wLay ⟨525288, s, [], 0⟩ ys) W') : FS w b c p l (s ++ ys) W' := by
  obtain ⟨F', h1, h2, h3⟩ := hp
  have hlt := h.blk.lt
  have hb := h.bw
  refine ⟨h.blk.kept h2 (fun hm => by have := hF _ hm; omega), h.bw, ⟨F', ?_, fun x hx => ?_⟩, h.kept.trans h2 (fun x hx => Or.inr (by have := hF x hx; omega))⟩
  · simpa [wLay, hl] using h1
  · rcases h3 x hx with g | g
    · exact hF x g
    · omega
theorem FS.byte {w : World} {b c : Nat} {p : Ml} {l : Lm} {s : List Nat} {W : World} (h : FS w b c p l s W) (n : Int) (h0 : 0 ≤ n) (h1 : n < 256) (hl : s.length + 1 ≤ 525288) : Calls Tryz.prog 33 #[.pointer (some ⟨c, 0, none⟩), .int .i64 n] W fun e w' => e = .returned (.tuple #[]) ∧ FS w b c p l (s ++ [n.toNat]) w' := by
  obtain ⟨F, hv, hF⟩ := h.wr
  refine (vbyte_s hv n (by simp; omega)).mono ?_
  rintro e w' ⟨rfl, hp⟩
  rw [if_neg (by omega)] at hp
  exact ⟨rfl, h.lay hF [n.toNat] (by simpa using hl) hp⟩
theorem FS.num {w : World} {b c : Nat} {p : Ml} {l : Lm} {s : List Nat} {W : World} (h : FS w b c p l s W) (n : Nat) (hn : n < 18446744073709551616) (hl : s.length + (form n).length ≤ 525288) : Calls Tryz.prog 34 #[.pointer (some ⟨c, 0, none⟩), .int .u64 n] W fun e w' => e = .returned (.tuple #[]) ∧ FS w b c p l (s ++ form n) w' := by
  obtain ⟨F, hv, hF⟩ := h.wr
  refine (vnum_s hv n hn (by simp; omega)).mono ?_
  rintro e w' ⟨rfl, hp⟩
  exact ⟨rfl, h.lay hF _ hl hp⟩
theorem FS.text {w : World} {b c : Nat} {p : Ml} {l : Lm} {s : List Nat} {W : World} (h : FS w b c p l s W) {pv : Value} {ps : List Nat} (hw : Wide w pv ps) (hl : s.length + (form ps.length ++ ps).length ≤ 525288) : Calls Tryz.prog 36 #[.pointer (some ⟨c, 0, none⟩), pv] W fun e w' => e = .returned (.tuple #[]) ∧ FS w b c p l (s ++ (form ps.length ++ ps)) w' := by
  obtain ⟨F, hv, hF⟩ := h.wr
  have hfar : Far W pv ps F := (hw.far (F := F) (fun k hk hm => by have := hF k hm; omega)).keep h.kept
  refine (vtext_s hv pv ps hfar (by simp at hl ⊢; omega)).mono ?_
  rintro e w' ⟨rfl, hp⟩
  exact ⟨rfl, h.lay hF _ hl hp⟩
theorem FS.done {w : World} {b c : Nat} {p : Ml} {l : Lm} {s : List Nat} {W : World} (h : FS w b c p l s W) : Calls Tryz.prog 38 #[.pointer (some ⟨c, 0, none⟩)] W fun e w' => ∃ a cap, e = .returned (.tuple #[.slice a s.length cap, .int .i64 0]) ∧ w'.ownsRow w.heap.size 5 1 (.slice a s.length cap) s.length (u8s s) ∧ Kept [] w w' := by
  obtain ⟨F, hv, hF⟩ := h.wr
  refine (vdone_s hv).mono ?_
  rintro e w' ⟨⟨a, cap, rfl, ho⟩, k⟩
  exact ⟨a, cap, by simp [wDone], (by simpa [wDone] using own_down ho h.kept.size), h.kept.step k⟩
theorem FS.as {w : World} {b c : Nat} {p : Ml} {l : Lm} {s s' : List Nat} {W : World} (h : FS w b c p l s W) (e : s = s') : FS w b c p l s' W := e ▸ h
theorem FS.begin (w : World) (p : Ml) (l : Lm) (W : World) (hW : W = w.alloc (.cells (mcc p l) 30)) : Calls Tryz.prog 32 #[.int .i64 525288] W fun e w' => ∃ c, e = .returned (.pointer (some ⟨c, 0, none⟩)) ∧ FS w w.heap.size c p l [] w' := by
  subst hW
  refine (vnew_any 525288 _ (by omega)).mono ?_
  rintro e w3 ⟨c, rfl, hv, hc, k3⟩
  exact ⟨c, rfl, (Blk.new w (mcc p l) 30).kept k3 (by simp), rfl, ⟨[c], by simpa [newWS] using hv, by simp at hc ⊢; omega⟩, Kept.step ((Kept.refl [] w).alloc _) k3⟩
theorem FS.fixed {w : World} {b c : Nat} {p : Ml} {l : Lm} {s : List Nat} {W : World} (h : FS w b c p l s W) (n : Nat) (hn : n < 18446744073709551616) (hl : s.length + 8 ≤ 525288) : Calls Tryz.prog 37 #[.pointer (some ⟨c, 0, none⟩), .int .u64 n, .int .i64 8] W fun e w' => e = .returned (.tuple #[]) ∧ FS w b c p l (s ++ le n 8) w' := by
  obtain ⟨F, hv, hF⟩ := h.wr
  refine (vfixed_s hv n 8 hn (by simp; omega)).mono ?_
  rintro e w' ⟨rfl, hp⟩
  rw [if_neg (by omega)] at hp
  exact ⟨rfl, h.lay hF (le n 8) (by rw [le_len]; exact hl) hp⟩
end Go.Proofs.YtfhfkpgfnlmfhaaGreatDoor

/- The document's writer, beside boxes that stay. -/
namespace Go.Proofs.YtfhfkpgfnlmfhaaGreatDoor
open Go.RowKit

/-- The document's writer c holds s; boxes lie beside it. -/
structure FB (w : World) (c : Nat) (s : List Nat) (boxes : List (Nat × Array Value × TypeId)) (W : World) : Prop where
  wr : ∃ F, Vs W c F ⟨525288, s, [], 0⟩ ∧ (∀ x ∈ F, w.heap.size ≤ x) ∧ ∀ x ∈ boxes, Blk W x.1 x.2.1 x.2.2 ∧ x.1 ∉ F
  kept : Kept [] w W
theorem FB.nth {w : World} {c : Nat} {s : List Nat} {boxes : List (Nat × Array Value × TypeId)} {W : World} (h : FB w c s boxes W) {i : Nat} {x : Nat × Array Value × TypeId} (hi : boxes[i]? = some x) : Blk W x.1 x.2.1 x.2.2 := by
  obtain ⟨F, _, _, hb⟩ := h.wr
  exact (hb x (List.mem_of_getElem? hi)).1
theorem FB.lay {w : World} {c : Nat} {s : List Nat} {boxes : List (Nat × Array Value × TypeId)} {W W' : World} {F : List Nat} (h : Kept [] w W) (hF : ∀ x ∈ F, w.heap.size ≤ x) (hb : ∀ x ∈ boxes, Blk W x.1 x.2.1 x.2.2 ∧ x.1 ∉ F) (ys : List Nat) (hl : s.length + ys.length ≤ 525288) (hp : VsP W c F (wLay ⟨525288, s, [], 0⟩ ys) W') : FB w c (s ++ ys) boxes W' := by
  obtain ⟨F', h1, h2, h3⟩ := hp
  have hws := h.size
  refine ⟨⟨F', by simpa [wLay, hl] using h1, fun x hx => ?_, fun x hx => ?_⟩, h.trans h2 (fun x hx => Or.inr (hF x hx))⟩
  · rcases h3 x hx with g | g
    · exact hF x g
    · omega
  · obtain ⟨g1, g2⟩ := hb x hx
    refine ⟨g1.kept h2 g2, fun hm => ?_⟩
    rcases h3 _ hm with g | g
    · exact g2 g
    · have := g1.lt; omega
theorem FB.byte {w : World} {c : Nat} {s : List Nat} {boxes : List (Nat × Array Value × TypeId)} {W : World} (h : FB w c s boxes W) (n : Int) (h0 : 0 ≤ n) (h1 : n < 256) (hl : s.length + 1 ≤ 525288) : Calls Tryz.prog 33 #[.pointer (some ⟨c, 0, none⟩), .int .i64 n] W fun e w' => e = .returned (.tuple #[]) ∧ FB w c (s ++ [n.toNat]) boxes w' := by
  obtain ⟨F, hv, hF, hb⟩ := h.wr
  refine (vbyte_s hv n (by simp; omega)).mono ?_
  rintro e w' ⟨rfl, hp⟩
  rw [if_neg (by omega)] at hp
  exact ⟨rfl, FB.lay h.kept hF hb [n.toNat] (by simpa using hl) hp⟩
theorem FB.num {w : World} {c : Nat} {s : List Nat} {boxes : List (Nat × Array Value × TypeId)} {W : World} (h : FB w c s boxes W) (n : Nat) (hn : n < 18446744073709551616) (hl : s.length + (form n).length ≤ 525288) : Calls Tryz.prog 34 #[.pointer (some ⟨c, 0, none⟩), .int .u64 n] W fun e w' => e = .returned (.tuple #[]) ∧ FB w c (s ++ form n) boxes w' := by
  obtain ⟨F, hv, hF, hb⟩ := h.wr
  refine (vnum_s hv n hn (by simp; omega)).mono ?_
  rintro e w' ⟨rfl, hp⟩
  exact ⟨rfl, FB.lay h.kept hF hb _ hl hp⟩
theorem FB.text {w : World} {c : Nat} {s : List Nat} {boxes : List (Nat × Array Value × TypeId)} {W : World} (h : FB w c s boxes W) {pv : Value} {ps : List Nat} (hw : Wide w pv ps) (hl : s.length + (form ps.length ++ ps).length ≤ 525288) : Calls Tryz.prog 36 #[.pointer (some ⟨c, 0, none⟩), pv] W fun e w' => e = .returned (.tuple #[]) ∧ FB w c (s ++ (form ps.length ++ ps)) boxes w' := by
  obtain ⟨F, hv, hF, hb⟩ := h.wr
  have hfar : Far W pv ps F := (hw.far (F := F) (fun k hk hm => by have := hF k hm; omega)).keep h.kept
  refine (vtext_s hv pv ps hfar (by simp at hl ⊢; omega)).mono ?_
  rintro e w' ⟨rfl, hp⟩
  exact ⟨rfl, FB.lay h.kept hF hb _ hl hp⟩
theorem FB.fixed {w : World} {c : Nat} {s : List Nat} {boxes : List (Nat × Array Value × TypeId)} {W : World} (h : FB w c s boxes W) (n : Nat) (hn : n < 18446744073709551616) (hl : s.length + 8 ≤ 525288) : Calls Tryz.prog 37 #[.pointer (some ⟨c, 0, none⟩), .int .u64 n, .int .i64 8] W fun e w' => e = .returned (.tuple #[]) ∧ FB w c (s ++ le n 8) boxes w' := by
  obtain ⟨F, hv, hF, hb⟩ := h.wr
  refine (vfixed_s hv n 8 hn (by simp; omega)).mono ?_
  rintro e w' ⟨rfl, hp⟩
  rw [if_neg (by omega)] at hp
  exact ⟨rfl, FB.lay h.kept hF hb (le n 8) (by rw [le_len]; exact hl) hp⟩
theorem FB.done {w : World} {c : Nat} {s : List Nat} {boxes : List (Nat × Array Value × TypeId)} {W : World} (h : FB w c s boxes W) : Calls Tryz.prog 38 #[.pointer (some ⟨c, 0, none⟩)] W fun e w' => ∃ a cap, e = .returned (.tuple #[.slice a s.length cap, .int .i64 0]) ∧ w'.ownsRow w.heap.size 5 1 (.slice a s.length cap) s.length (u8s s) ∧ Kept [] w w' := by
  obtain ⟨F, hv, hF, hb⟩ := h.wr
  refine (vdone_s hv).mono ?_
  rintro e w' ⟨⟨a, cap, rfl, ho⟩, k⟩
  exact ⟨a, cap, by simp [wDone], (by simpa [wDone] using own_down ho h.kept.size), h.kept.step k⟩
/-- A box more. -/
theorem FB.box {w : World} {c : Nat} {s : List Nat} {boxes : List (Nat × Array Value × TypeId)} {W : World} (h : FB w c s boxes W) (cs : Array Value) (t : TypeId) : FB w c s ((W.heap.size, cs, t) :: boxes) (W.alloc (.cells cs t)) := by
  obtain ⟨F, hv, hF, hb⟩ := h.wr
  have k := (Kept.refl [] W).alloc (.cells cs t)
  refine ⟨⟨F, hv.kept k (by simp), hF, fun x hx => ?_⟩, h.kept.step k⟩
  rcases List.mem_cons.1 hx with rfl | hx
  · exact ⟨Blk.new _ _ _, fun hm => by have := hv.lt _ hm; omega⟩
  · exact ⟨(hb x hx).1.kept k (by simp), (hb x hx).2⟩
theorem FB.begin (w W : World) (boxes : List (Nat × Array Value × TypeId)) (hk : Kept [] w W) (hb : ∀ x ∈ boxes, Blk W x.1 x.2.1 x.2.2) : Calls Tryz.prog 32 #[.int .i64 525288] W fun e w' => ∃ c, e = .returned (.pointer (some ⟨c, 0, none⟩)) ∧ FB w c [] boxes w' := by
  refine (vnew_any 525288 _ (by omega)).mono ?_
  rintro e w3 ⟨c, rfl, hv, hc, k3⟩
  have hs := hk.size
  refine ⟨c, rfl, ⟨[c], by simpa [newWS] using hv, by simp; omega, fun x hx => ⟨(hb x hx).kept k3 (by simp), ?_⟩⟩, hk.step k3⟩
  have := (hb x hx).lt
  simp
  omega
end Go.Proofs.YtfhfkpgfnlmfhaaGreatDoor

/- The document's layOp. -/
namespace Go.Proofs.YtfhfkpgfnlmfhaaGreatDoor
open Go.RowKit

theorem FB.drop {w : World} {c : Nat} {s : List Nat} {x : Nat × Array Value × TypeId} {boxes : List (Nat × Array Value × TypeId)} {W : World} (h : FB w c s (x :: boxes) W) : FB w c s boxes W := by
  obtain ⟨F, h1, h2, h3⟩ := h.wr
  exact ⟨⟨F, h1, h2, fun y hy => h3 y (List.mem_cons_of_mem _ hy)⟩, h.kept⟩
theorem FB.as {w : World} {c : Nat} {s s' : List Nat} {boxes : List (Nat × Array Value × TypeId)} {W : World} (h : FB w c s boxes W) (e : s = s') : FB w c s' boxes W := e ▸ h
set_option maxRecDepth 100000 in
set_option maxHeartbeats 1600000 in
theorem rlayOp_any {w W : World} {c : Nat} {s : List Nat} {boxes : List (Nat × Array Value × TypeId)} {p : Ml} {l : Lm} (h : FB w c s boxes W) (hm : MW w p l) (hk : p.kind = 1) (hg : rgt p.okind p.key.length p.val.length p.rev = true) (hl : s.length ≤ 1000) : Calls Tryz.prog 35 #[.pointer (some ⟨c, 0, none⟩), .agg #[.int .i64 p.okind, .slice l.ka p.key.length l.kc, .slice l.va p.val.length l.vc, .int .i64 p.rev]] W fun e w' => e = .returned (.tuple #[]) ∧ FB w c (s ++ encL p (.byte 9 :: .text 10 :: fin p)) boxes w' := by
  obtain ⟨⟨o1, o2⟩, k65, v256, ⟨r0, r1⟩, -, -⟩ := rgt_iff hg
  have f1 := form1 (n := p.key.length) (by omega)
  have f2 := form_len 1 p.val.length (by omega)
  have f3 := form_len 5 p.rev.toNat (by omega)
  have H0 := hide (h.box #[.int .i64 p.okind, .slice l.ka p.key.length l.kc, .slice l.va p.val.length l.vc, .int .i64 p.rev] 25)
  have HW1 := hide (hm.wide 10 (by simp [isT]))
  have HW2 := hide (hm.wide 11 (by simp [isT]))
  have HB1 : Hid (∀ X cs, FB w c s cs X → Calls Tryz.prog 33 #[.pointer (some ⟨c, 0, none⟩), .int .i64 p.okind] X fun e w' => e = .returned (.tuple #[]) ∧ FB w c (s ++ [p.okind.toNat]) cs w') := hide (fun X cs h => h.byte p.okind (by omega) (by omega) (by omega))
  have HB2 : Hid (∀ X cs, FB w c (s ++ [p.okind.toNat]) cs X → Calls Tryz.prog 36 #[.pointer (some ⟨c, 0, none⟩), .slice l.ka p.key.length l.kc] X fun e w' => e = .returned (.tuple #[]) ∧ FB w c (s ++ [p.okind.toNat] ++ (form p.key.length ++ p.key)) cs w') := hide (fun X cs h => h.text (unhide HW1) (by simp; omega))
  have HB3 : Hid (∀ X cs, FB w c (s ++ [p.okind.toNat] ++ (form p.key.length ++ p.key)) cs X → Calls Tryz.prog 36 #[.pointer (some ⟨c, 0, none⟩), .slice l.va p.val.length l.vc] X fun e w' => e = .returned (.tuple #[]) ∧ FB w c (s ++ [p.okind.toNat] ++ (form p.key.length ++ p.key) ++ (form p.val.length ++ p.val)) cs w') := hide (fun X cs h => h.text (unhide HW2) (by simp; omega))
  have HB4 : Hid (∀ X cs, FB w c (s ++ [p.okind.toNat] ++ (form p.key.length ++ p.key) ++ (form p.val.length ++ p.val)) cs X → Calls Tryz.prog 34 #[.pointer (some ⟨c, 0, none⟩), .int .u64 (p.rev.toNat : Nat)] X fun e w' => e = .returned (.tuple #[]) ∧ FB w c (s ++ [p.okind.toNat] ++ (form p.key.length ++ p.key) ++ (form p.val.length ++ p.val) ++ form p.rev.toNat) cs w') := hide (fun X cs h => h.num p.rev.toNat (by omega) (by simp; omega))
  have er : IntKind.u64.wrap p.rev = (p.rev.toNat : Int) := by rw [IntKind.wrap_u64]; omega
  obtain ⟨r, hr⟩ : ∃ r, p.rev.toNat = r := ⟨_, rfl⟩
  rw [hr] at HB4 er
  have HRV := hide hr
  clear hr
  have HF : Hid (fin p = if p.okind = 2 then [.text 11] else if p.okind = 4 then [.text 11, .num 12] else []) := by unfold Hid fin; rw [if_pos hk]
  clear h hm hg hk hl o1 o2 k65 v256 r0 r1 f1 f2 f3 HW1 HW2
  go_enter Tryz.func35, Tryz.ntmps35
  go_upto_region 1 with fail
  refine world_at (R := fun X => FB w c s ((W.heap.size, #[.int .i64 p.okind, .slice l.ka p.key.length l.kc, .slice l.va p.val.length l.vc, .int .i64 p.rev], 25) :: boxes) X) (unhide H0) ?_
  clear H0
  rintro X hx
  obtain ⟨d0, d1, d2, d3⟩ := box4 (hx.nth (i := 0) rfl)
  have H1 := hide hx
  clear hx
  by_cases o2 : p.okind = 2
  · have HFE : Hid (fin p = [.text 11]) := by unfold Hid; rw [unhide HF, if_pos o2]
    have q2 : (p.okind == 2) = true := by rw [beq_iff_eq]; exact o2
    have q4 : (p.okind == 4) = false := by rw [beq_eq_false_iff_ne]; omega
    clear o2
    go_wp2_with (first
      | (go_at_call 33; refine (unhide HB1 _ _ (unhide H1)).mono ?_; rintro e w2 ⟨rfl, h⟩; obtain ⟨d0, d1, d2, d3⟩ := box4 (h.nth (i := 0) rfl); have H2 := hide h; clear h H1)
      | (go_at_call 36; refine (unhide HB2 _ _ (unhide H2)).mono ?_; rintro e w3 ⟨rfl, h⟩; obtain ⟨d0, d1, d2, d3⟩ := box4 (h.nth (i := 0) rfl); have H3 := hide h; clear h H2)
      | (go_at_call 36; refine (unhide HB3 _ _ (unhide H3)).mono ?_; rintro e w4 ⟨rfl, h⟩; obtain ⟨d0, d1, d2, d3⟩ := box4 (h.nth (i := 0) rfl); have H4 := hide h; clear h H3))
    go_end0
    exact ⟨rfl, (unhide H4).drop.as (by rw [unhide HFE]; simp [encL, encP, getN, getT])⟩
  · by_cases o4 : p.okind = 4
    · have HFE : Hid (fin p = [.text 11, .num 12]) := by unfold Hid; rw [unhide HF, if_neg o2, if_pos o4]
      have q2 : (p.okind == 2) = false := by rw [beq_eq_false_iff_ne]; exact o2
      have q4 : (p.okind == 4) = true := by rw [beq_iff_eq]; exact o4
      clear o2 o4
      go_wp2_with (first
        | (go_at_call 33; refine (unhide HB1 _ _ (unhide H1)).mono ?_; rintro e w2 ⟨rfl, h⟩; obtain ⟨d0, d1, d2, d3⟩ := box4 (h.nth (i := 0) rfl); have H2 := hide h; clear h H1)
        | (go_at_call 36; refine (unhide HB2 _ _ (unhide H2)).mono ?_; rintro e w3 ⟨rfl, h⟩; obtain ⟨d0, d1, d2, d3⟩ := box4 (h.nth (i := 0) rfl); have H3 := hide h; clear h H2)
        | (go_at_call 36; refine (unhide HB3 _ _ (unhide H3)).mono ?_; rintro e w4 ⟨rfl, h⟩; obtain ⟨d0, d1, d2, d3⟩ := box4 (h.nth (i := 0) rfl); have H4 := hide h; clear h H3)
        | (go_at_call 34; refine (unhide HB4 _ _ (unhide H4)).mono ?_; rintro e w5 ⟨rfl, h⟩; have H5 := hide h; clear h H4))
      go_end0
      exact ⟨rfl, (unhide H5).drop.as (by rw [unhide HFE, ← unhide HRV]; simp [encL, encP, getN, getT])⟩
    · have HFE : Hid (fin p = []) := by unfold Hid; rw [unhide HF, if_neg o2, if_neg o4]
      have q2 : (p.okind == 2) = false := by rw [beq_eq_false_iff_ne]; exact o2
      have q4 : (p.okind == 4) = false := by rw [beq_eq_false_iff_ne]; exact o4
      clear o2 o4
      go_wp2_with (first
        | (go_at_call 33; refine (unhide HB1 _ _ (unhide H1)).mono ?_; rintro e w2 ⟨rfl, h⟩; obtain ⟨d0, d1, d2, d3⟩ := box4 (h.nth (i := 0) rfl); have H2 := hide h; clear h H1)
        | (go_at_call 36; refine (unhide HB2 _ _ (unhide H2)).mono ?_; rintro e w3 ⟨rfl, h⟩; obtain ⟨d0, d1, d2, d3⟩ := box4 (h.nth (i := 0) rfl); have H3 := hide h; clear h H2))
      go_end0
      exact ⟨rfl, (unhide H3).drop.as (by rw [unhide HFE]; simp [encL, encP, getN, getT])⟩
end Go.Proofs.YtfhfkpgfnlmfhaaGreatDoor

/- The document's Form: a piece at a time. -/
namespace Go.Proofs.YtfhfkpgfnlmfhaaGreatDoor
open Go.RowKit

theorem encL_snoc (p : Ml) (ks : List Pc) (k : Pc) : encL p (ks ++ [k]) = encL p ks ++ encP p k := by simp [encL]
theorem pre_len {p : Ml} (hs : snd p = true) {ks r : List Pc} {k : Pc} (h : pieces p = ks ++ k :: r) : (encL p ks).length + (encP p k).length ≤ 262164 := by
  have h1 := (snd_len hs).2
  have h2 : body p = encL p ks ++ (encP p k ++ encL p r) := by unfold body; rw [h]; simp [encL]
  rw [h2] at h1
  simp at h1
  omega
theorem FB.pbyte {w : World} {c : Nat} {bx : List (Nat × Array Value × TypeId)} {p : Ml} (hs : snd p = true) (hr : p.root < 18446744073709551616) {o : Nat} {ks r : List Pc} (h : pieces p = ks ++ .byte o :: r) {X : World} (hx : FB w c (encL p ks) bx X) : Calls Tryz.prog 33 #[.pointer (some ⟨c, 0, none⟩), .int .i64 (getN p o)] X fun e w' => e = .returned (.tuple #[]) ∧ FB w c (encL p (ks ++ [.byte o])) bx w' := by
  obtain ⟨_, h1, h2⟩ := snd_ok hs hr (.byte o) (by rw [h]; simp)
  have hl := pre_len hs h
  rw [encL_snoc]
  exact hx.byte (getN p o) h1 h2 (by simpa [encP] using (show (encL p ks).length + 1 ≤ 525288 by simp [encP] at hl; omega))
theorem FB.pnum {w : World} {c : Nat} {bx : List (Nat × Array Value × TypeId)} {p : Ml} (hs : snd p = true) (hr : p.root < 18446744073709551616) {o : Nat} {ks r : List Pc} (h : pieces p = ks ++ .num o :: r) {n : Nat} (hn : (getN p o).toNat = n) {X : World} (hx : FB w c (encL p ks) bx X) : Calls Tryz.prog 34 #[.pointer (some ⟨c, 0, none⟩), .int .u64 (n : Nat)] X fun e w' => e = .returned (.tuple #[]) ∧ FB w c (encL p (ks ++ [.num o])) bx w' := by
  obtain ⟨_, h1, h2⟩ := snd_ok hs hr (.num o) (by rw [h]; simp)
  have hl := pre_len hs h
  rw [encL_snoc]
  subst hn
  exact hx.num (getN p o).toNat (by omega) (by show (encL p ks).length + (encP p (.num o)).length ≤ _; omega)
theorem FB.ptext {w : World} {c : Nat} {bx : List (Nat × Array Value × TypeId)} {p : Ml} {l : Lm} (hs : snd p = true) (hm : MW w p l) {o : Nat} (ho : isT o) {ks r : List Pc} (h : pieces p = ks ++ .text o :: r) {X : World} (hx : FB w c (encL p ks) bx X) : Calls Tryz.prog 36 #[.pointer (some ⟨c, 0, none⟩), slT l p o] X fun e w' => e = .returned (.tuple #[]) ∧ FB w c (encL p (ks ++ [.text o])) bx w' := by
  have hl := pre_len hs h
  rw [encL_snoc]
  exact hx.text (hm.wide o ho) (by show (encL p ks).length + (encP p (.text o)).length ≤ _; omega)
theorem FB.proot {w : World} {c : Nat} {bx : List (Nat × Array Value × TypeId)} {p : Ml} (hs : snd p = true) (hr : p.root < 18446744073709551616) {ks r : List Pc} (h : pieces p = ks ++ .root :: r) {X : World} (hx : FB w c (encL p ks) bx X) : Calls Tryz.prog 37 #[.pointer (some ⟨c, 0, none⟩), .int .u64 (p.root : Nat), .int .i64 8] X fun e w' => e = .returned (.tuple #[]) ∧ FB w c (encL p (ks ++ [.root])) bx w' := by
  have hl := pre_len hs h
  rw [encL_snoc]
  refine hx.fixed p.root hr ?_
  simp [encP, le_len] at hl
  omega
theorem FB.pflag {w : World} {c : Nat} {bx : List (Nat × Array Value × TypeId)} {p : Ml} (hs : snd p = true) {ks r : List Pc} (h : pieces p = ks ++ .flag :: r) {X : World} (hx : FB w c (encL p ks) bx X) : Calls Tryz.prog 33 #[.pointer (some ⟨c, 0, none⟩), .int .i64 (if p.done then 1 else 0)] X fun e w' => e = .returned (.tuple #[]) ∧ FB w c (encL p (ks ++ [.flag])) bx w' := by
  have hl := pre_len hs h
  rw [encL_snoc]
  have hb := hx.byte (if p.done then 1 else 0) (by split <;> omega) (by split <;> omega) (by simp [encP] at hl; omega)
  have e : [(if p.done then (1 : Int) else 0).toNat] = encP p .flag := by unfold encP; split <;> rfl
  rw [e] at hb
  exact hb
/-- What Form answers. -/
def FoP (w : World) (p : Ml) (e : Ending) (w' : World) : Prop := ∃ a cap, e = .returned (.slice a (enc p).length cap) ∧ w'.ownsRow w.heap.size 5 1 (.slice a (enc p).length cap) (enc p).length (u8s (enc p)) ∧ Kept [] w w'
theorem FB.fin {w : World} {c : Nat} {bx : List (Nat × Array Value × TypeId)} {p : Ml} {ks : List Pc} (h : pieces p = ks) {X : World} (hx : FB w c (encL p ks) bx X) : Calls Tryz.prog 38 #[.pointer (some ⟨c, 0, none⟩)] X fun e w' => ∃ a cap, e = .returned (.tuple #[.slice a (body p).length cap, .int .i64 0]) ∧ Wide w' (.slice a (body p).length cap) (body p) ∧ Kept [] w w' := by
  have e : encL p ks = body p := by unfold body; rw [h]
  rw [e] at hx
  refine hx.done.mono ?_
  rintro e w' ⟨a, cap, rfl, ho, k⟩
  exact ⟨a, cap, rfl, Or.inl (Sees.of_own ho), k⟩
theorem sum_fin {w X : World} {x : Value} {p : Ml} (hs : snd p = true) (hr : p.root < 18446744073709551616) (hb : ∀ o, isT o → ∀ x ∈ getT p o, x < 256) (hx : Wide X x (body p)) (k : Kept [] w X) : Calls Tryz.prog 9 #[x] X (FoP w p) := by
  have hl := (snd_len hs).2
  refine (rsummed_any hx (body_lt hs hr hb) (by omega)).mono ?_
  rintro e w' ⟨hk, a, cap, rfl, ho⟩
  exact ⟨a, cap, rfl, own_down ho k.size, k.step hk⟩
end Go.Proofs.YtfhfkpgfnlmfhaaGreatDoor

/- The document's Form, by kinds. -/
namespace Go.Proofs.YtfhfkpgfnlmfhaaGreatDoor
open Go.RowKit
set_option linter.unusedSimpArgs false
set_option linter.unusedVariables false

set_option maxRecDepth 100000 in
set_option maxHeartbeats 3200000 in
theorem rform_O (w : World) (p : Ml) (l : Lm) (hm : MW w p l) (hs : snd p = true) (hk : p.kind = 3) : Calls Tryz.prog 12 #[.agg (mcc p l)] w (FoP w p) := by
  have hr := hm.root
  have hb := hm.byt
  have hp : pieces p = [.byte 0, .byte 1, .byte 2, .num 3, .num 4, .root, .text 6] := by
    rw [pcs_0, pcs_3 hk]
  have HP0 : Hid (∀ c X, FB w c (encL p []) [(w.heap.size, mcc p l, 30)] X → Calls Tryz.prog 33 #[.pointer (some ⟨c, 0, none⟩), .int .i64 p.kind] X fun e w' => e = .returned (.tuple #[]) ∧ FB w c (encL p [.byte 0]) [(w.heap.size, mcc p l, 30)] w') := hide (fun c X h => FB.pbyte hs hr (o := 0) (ks := []) (r := [.byte 1, .byte 2, .num 3, .num 4, .root, .text 6]) hp h)
  have HP1 : Hid (∀ c X, FB w c (encL p [.byte 0]) [(w.heap.size, mcc p l, 30)] X → Calls Tryz.prog 33 #[.pointer (some ⟨c, 0, none⟩), .int .i64 p.frm] X fun e w' => e = .returned (.tuple #[]) ∧ FB w c (encL p [.byte 0, .byte 1]) [(w.heap.size, mcc p l, 30)] w') := hide (fun c X h => FB.pbyte hs hr (o := 1) (ks := [.byte 0]) (r := [.byte 2, .num 3, .num 4, .root, .text 6]) hp h)
  have HP2 : Hid (∀ c X, FB w c (encL p [.byte 0, .byte 1]) [(w.heap.size, mcc p l, 30)] X → Calls Tryz.prog 33 #[.pointer (some ⟨c, 0, none⟩), .int .i64 p.dst] X fun e w' => e = .returned (.tuple #[]) ∧ FB w c (encL p [.byte 0, .byte 1, .byte 2]) [(w.heap.size, mcc p l, 30)] w') := hide (fun c X h => FB.pbyte hs hr (o := 2) (ks := [.byte 0, .byte 1]) (r := [.num 3, .num 4, .root, .text 6]) hp h)
  obtain ⟨r3, hr3⟩ : ∃ r, (p.shard).toNat = r := ⟨_, rfl⟩
  obtain ⟨-, za3, zb3⟩ := snd_ok hs hr (.num 3) (by rw [hp]; simp)
  have er3 : IntKind.u64.wrap p.shard = (r3 : Int) := by
    have z1 : 0 ≤ p.shard := za3
    have z2 : p.shard < _ := zb3
    rw [IntKind.wrap_u64]; omega
  have HP3 : Hid (∀ c X, FB w c (encL p [.byte 0, .byte 1, .byte 2]) [(w.heap.size, mcc p l, 30)] X → Calls Tryz.prog 34 #[.pointer (some ⟨c, 0, none⟩), .int .u64 (r3 : Nat)] X fun e w' => e = .returned (.tuple #[]) ∧ FB w c (encL p [.byte 0, .byte 1, .byte 2, .num 3]) [(w.heap.size, mcc p l, 30)] w') := hide (fun c X h => FB.pnum hs hr (o := 3) (ks := [.byte 0, .byte 1, .byte 2]) (r := [.num 4, .root, .text 6]) hp hr3 h)
  clear za3 zb3 hr3
  obtain ⟨r4, hr4⟩ : ∃ r, (p.epoch).toNat = r := ⟨_, rfl⟩
  obtain ⟨-, za4, zb4⟩ := snd_ok hs hr (.num 4) (by rw [hp]; simp)
  have er4 : IntKind.u64.wrap p.epoch = (r4 : Int) := by
    have z1 : 0 ≤ p.epoch := za4
    have z2 : p.epoch < _ := zb4
    rw [IntKind.wrap_u64]; omega
  have HP4 : Hid (∀ c X, FB w c (encL p [.byte 0, .byte 1, .byte 2, .num 3]) [(w.heap.size, mcc p l, 30)] X → Calls Tryz.prog 34 #[.pointer (some ⟨c, 0, none⟩), .int .u64 (r4 : Nat)] X fun e w' => e = .returned (.tuple #[]) ∧ FB w c (encL p [.byte 0, .byte 1, .byte 2, .num 3, .num 4]) [(w.heap.size, mcc p l, 30)] w') := hide (fun c X h => FB.pnum hs hr (o := 4) (ks := [.byte 0, .byte 1, .byte 2, .num 3]) (r := [.root, .text 6]) hp hr4 h)
  clear za4 zb4 hr4
  have HP5 : Hid (∀ c X, FB w c (encL p [.byte 0, .byte 1, .byte 2, .num 3, .num 4]) [(w.heap.size, mcc p l, 30)] X → Calls Tryz.prog 37 #[.pointer (some ⟨c, 0, none⟩), .int .u64 (p.root : Nat), .int .i64 8] X fun e w' => e = .returned (.tuple #[]) ∧ FB w c (encL p [.byte 0, .byte 1, .byte 2, .num 3, .num 4, .root]) [(w.heap.size, mcc p l, 30)] w') := hide (fun c X h => FB.proot hs hr (ks := [.byte 0, .byte 1, .byte 2, .num 3, .num 4]) (r := [.text 6]) hp h)
  have HP6 : Hid (∀ c X, FB w c (encL p [.byte 0, .byte 1, .byte 2, .num 3, .num 4, .root]) [(w.heap.size, mcc p l, 30)] X → Calls Tryz.prog 36 #[.pointer (some ⟨c, 0, none⟩), .slice l.ca p.copy.length l.cc] X fun e w' => e = .returned (.tuple #[]) ∧ FB w c (encL p [.byte 0, .byte 1, .byte 2, .num 3, .num 4, .root, .text 6]) [(w.heap.size, mcc p l, 30)] w') := hide (fun c X h => FB.ptext hs hm (o := 6) (by simp [isT]) (ks := [.byte 0, .byte 1, .byte 2, .num 3, .num 4, .root]) (r := []) hp h)
  have HFN : Hid (∀ c X, FB w c (encL p [.byte 0, .byte 1, .byte 2, .num 3, .num 4, .root, .text 6]) [(w.heap.size, mcc p l, 30)] X → Calls Tryz.prog 38 #[.pointer (some ⟨c, 0, none⟩)] X fun e w' => ∃ a cap, e = .returned (.tuple #[.slice a (body p).length cap, .int .i64 0]) ∧ Wide w' (.slice a (body p).length cap) (body p) ∧ Kept [] w w') := hide (fun c X h => FB.fin hp h)
  have HSU : Hid (∀ X x, Wide X x (body p) → Kept [] w X → Calls Tryz.prog 9 #[x] X (FoP w p)) := hide (fun X x hx k => sum_fin hs hr hb hx k)
  have k1 : (p.kind == 1) = false := by rw [beq_eq_false_iff_ne]; omega
  have k2 : (p.kind == 2) = false := by rw [beq_eq_false_iff_ne]; omega
  have k3 : (p.kind == 3) = true := by rw [beq_iff_eq]; omega
  clear hk
  clear hm hs hr hb hp
  go_enter Tryz.func12, Tryz.ntmps12
  go_upto_region 1 with fail
  refine world_at (R := fun X => Blk X w.heap.size (mcc p l) 30 ∧ Kept [] w X) ⟨Blk.new _ _ _, (Kept.refl [] w).alloc _⟩ ?_
  rintro X0 ⟨hx, hk0⟩
  have HX := hide hx
  have HK := hide hk0
  clear hx hk0
  obtain ⟨c0, c1, c2, c3, c4, c5, c6, c7, c8, c9, c10, c11, c12, c13, c14, c15, c16, c17, c18, c19⟩ := box20 (unhide HX)
  go_wp2_with (first
    | (go_at_call 32; refine (FB.begin w X0 [(w.heap.size, mcc p l, 30)] (unhide HK) (fun x hx => by simp at hx; subst hx; exact unhide HX)).mono ?_; rintro e w1 ⟨cw, rfl, h⟩; clear c0 c1 c2 c3 c4 c5 c6 c7 c8 c9 c10 c11 c12 c13 c14 c15 c16 c17 c18 c19; obtain ⟨c0, c1, c2, c3, c4, c5, c6, c7, c8, c9, c10, c11, c12, c13, c14, c15, c16, c17, c18, c19⟩ := box20 (h.nth (i := 0) rfl); have H0 := hide h; clear h)
    | (go_at_call 33; refine (unhide HP0 _ _ (unhide H0)).mono ?_; rintro e w2 ⟨rfl, h⟩; clear c0 c1 c2 c3 c4 c5 c6 c7 c8 c9 c10 c11 c12 c13 c14 c15 c16 c17 c18 c19; obtain ⟨c0, c1, c2, c3, c4, c5, c6, c7, c8, c9, c10, c11, c12, c13, c14, c15, c16, c17, c18, c19⟩ := box20 (h.nth (i := 0) rfl); have H1 := hide h; clear h H0)
    | (go_at_call 33; refine (unhide HP1 _ _ (unhide H1)).mono ?_; rintro e w3 ⟨rfl, h⟩; clear c0 c1 c2 c3 c4 c5 c6 c7 c8 c9 c10 c11 c12 c13 c14 c15 c16 c17 c18 c19; obtain ⟨c0, c1, c2, c3, c4, c5, c6, c7, c8, c9, c10, c11, c12, c13, c14, c15, c16, c17, c18, c19⟩ := box20 (h.nth (i := 0) rfl); have H2 := hide h; clear h H1)
    | (go_at_call 33; refine (unhide HP2 _ _ (unhide H2)).mono ?_; rintro e w4 ⟨rfl, h⟩; clear c0 c1 c2 c3 c4 c5 c6 c7 c8 c9 c10 c11 c12 c13 c14 c15 c16 c17 c18 c19; obtain ⟨c0, c1, c2, c3, c4, c5, c6, c7, c8, c9, c10, c11, c12, c13, c14, c15, c16, c17, c18, c19⟩ := box20 (h.nth (i := 0) rfl); have H3 := hide h; clear h H2)
    | (go_at_call 34; refine (unhide HP3 _ _ (unhide H3)).mono ?_; rintro e w5 ⟨rfl, h⟩; clear c0 c1 c2 c3 c4 c5 c6 c7 c8 c9 c10 c11 c12 c13 c14 c15 c16 c17 c18 c19; obtain ⟨c0, c1, c2, c3, c4, c5, c6, c7, c8, c9, c10, c11, c12, c13, c14, c15, c16, c17, c18, c19⟩ := box20 (h.nth (i := 0) rfl); have H4 := hide h; clear h H3)
    | (go_at_call 34; refine (unhide HP4 _ _ (unhide H4)).mono ?_; rintro e w6 ⟨rfl, h⟩; clear c0 c1 c2 c3 c4 c5 c6 c7 c8 c9 c10 c11 c12 c13 c14 c15 c16 c17 c18 c19; obtain ⟨c0, c1, c2, c3, c4, c5, c6, c7, c8, c9, c10, c11, c12, c13, c14, c15, c16, c17, c18, c19⟩ := box20 (h.nth (i := 0) rfl); have H5 := hide h; clear h H4)
    | (go_at_call 37; refine (unhide HP5 _ _ (unhide H5)).mono ?_; rintro e w7 ⟨rfl, h⟩; clear c0 c1 c2 c3 c4 c5 c6 c7 c8 c9 c10 c11 c12 c13 c14 c15 c16 c17 c18 c19; obtain ⟨c0, c1, c2, c3, c4, c5, c6, c7, c8, c9, c10, c11, c12, c13, c14, c15, c16, c17, c18, c19⟩ := box20 (h.nth (i := 0) rfl); have H6 := hide h; clear h H5)
    | (go_at_call 36; refine (unhide HP6 _ _ (unhide H6)).mono ?_; rintro e w8 ⟨rfl, h⟩; clear c0 c1 c2 c3 c4 c5 c6 c7 c8 c9 c10 c11 c12 c13 c14 c15 c16 c17 c18 c19; obtain ⟨c0, c1, c2, c3, c4, c5, c6, c7, c8, c9, c10, c11, c12, c13, c14, c15, c16, c17, c18, c19⟩ := box20 (h.nth (i := 0) rfl); have H7 := hide h; clear h H6)
    | (go_at_call 38; refine (unhide HFN _ _ (unhide H7)).mono ?_; rintro e wd ⟨ad, xd, rfl, hw, k⟩; have HWD := hide hw; have HKD := hide k; clear hw k H7)
    | (go_at_call 9; refine (unhide HSU _ _ (unhide HWD) (unhide HKD)).mono ?_; rintro e ws ⟨asx, xs, rfl, ho, k⟩; have HFI := hide (And.intro ho k); clear ho k))
  go_ret
  exact ⟨asx, xs, rfl, (unhide HFI).1, (unhide HFI).2⟩
end Go.Proofs.YtfhfkpgfnlmfhaaGreatDoor

/- The document's Form, by kinds. -/
namespace Go.Proofs.YtfhfkpgfnlmfhaaGreatDoor
open Go.RowKit
set_option linter.unusedSimpArgs false
set_option linter.unusedVariables false

set_option maxRecDepth 100000 in
set_option maxHeartbeats 3200000 in
theorem rform_H (w : World) (p : Ml) (l : Lm) (hm : MW w p l) (hs : snd p = true) (hk : 4 ≤ p.kind) : Calls Tryz.prog 12 #[.agg (mcc p l)] w (FoP w p) := by
  have hr := hm.root
  have hb := hm.byt
  have hp : pieces p = [.byte 0, .byte 1, .byte 2, .num 3, .num 4] := by
    rw [pcs_0, pcs_4 (by omega) (by omega) (by omega)]
  have HP0 : Hid (∀ c X, FB w c (encL p []) [(w.heap.size, mcc p l, 30)] X → Calls Tryz.prog 33 #[.pointer (some ⟨c, 0, none⟩), .int .i64 p.kind] X fun e w' => e = .returned (.tuple #[]) ∧ FB w c (encL p [.byte 0]) [(w.heap.size, mcc p l, 30)] w') := hide (fun c X h => FB.pbyte hs hr (o := 0) (ks := []) (r := [.byte 1, .byte 2, .num 3, .num 4]) hp h)
  have HP1 : Hid (∀ c X, FB w c (encL p [.byte 0]) [(w.heap.size, mcc p l, 30)] X → Calls Tryz.prog 33 #[.pointer (some ⟨c, 0, none⟩), .int .i64 p.frm] X fun e w' => e = .returned (.tuple #[]) ∧ FB w c (encL p [.byte 0, .byte 1]) [(w.heap.size, mcc p l, 30)] w') := hide (fun c X h => FB.pbyte hs hr (o := 1) (ks := [.byte 0]) (r := [.byte 2, .num 3, .num 4]) hp h)
  have HP2 : Hid (∀ c X, FB w c (encL p [.byte 0, .byte 1]) [(w.heap.size, mcc p l, 30)] X → Calls Tryz.prog 33 #[.pointer (some ⟨c, 0, none⟩), .int .i64 p.dst] X fun e w' => e = .returned (.tuple #[]) ∧ FB w c (encL p [.byte 0, .byte 1, .byte 2]) [(w.heap.size, mcc p l, 30)] w') := hide (fun c X h => FB.pbyte hs hr (o := 2) (ks := [.byte 0, .byte 1]) (r := [.num 3, .num 4]) hp h)
  obtain ⟨r3, hr3⟩ : ∃ r, (p.shard).toNat = r := ⟨_, rfl⟩
  obtain ⟨-, za3, zb3⟩ := snd_ok hs hr (.num 3) (by rw [hp]; simp)
  have er3 : IntKind.u64.wrap p.shard = (r3 : Int) := by
    have z1 : 0 ≤ p.shard := za3
    have z2 : p.shard < _ := zb3
    rw [IntKind.wrap_u64]; omega
  have HP3 : Hid (∀ c X, FB w c (encL p [.byte 0, .byte 1, .byte 2]) [(w.heap.size, mcc p l, 30)] X → Calls Tryz.prog 34 #[.pointer (some ⟨c, 0, none⟩), .int .u64 (r3 : Nat)] X fun e w' => e = .returned (.tuple #[]) ∧ FB w c (encL p [.byte 0, .byte 1, .byte 2, .num 3]) [(w.heap.size, mcc p l, 30)] w') := hide (fun c X h => FB.pnum hs hr (o := 3) (ks := [.byte 0, .byte 1, .byte 2]) (r := [.num 4]) hp hr3 h)
  clear za3 zb3 hr3
  obtain ⟨r4, hr4⟩ : ∃ r, (p.epoch).toNat = r := ⟨_, rfl⟩
  obtain ⟨-, za4, zb4⟩ := snd_ok hs hr (.num 4) (by rw [hp]; simp)
  have er4 : IntKind.u64.wrap p.epoch = (r4 : Int) := by
    have z1 : 0 ≤ p.epoch := za4
    have z2 : p.epoch < _ := zb4
    rw [IntKind.wrap_u64]; omega
  have HP4 : Hid (∀ c X, FB w c (encL p [.byte 0, .byte 1, .byte 2, .num 3]) [(w.heap.size, mcc p l, 30)] X → Calls Tryz.prog 34 #[.pointer (some ⟨c, 0, none⟩), .int .u64 (r4 : Nat)] X fun e w' => e = .returned (.tuple #[]) ∧ FB w c (encL p [.byte 0, .byte 1, .byte 2, .num 3, .num 4]) [(w.heap.size, mcc p l, 30)] w') := hide (fun c X h => FB.pnum hs hr (o := 4) (ks := [.byte 0, .byte 1, .byte 2, .num 3]) (r := []) hp hr4 h)
  clear za4 zb4 hr4
  have HFN : Hid (∀ c X, FB w c (encL p [.byte 0, .byte 1, .byte 2, .num 3, .num 4]) [(w.heap.size, mcc p l, 30)] X → Calls Tryz.prog 38 #[.pointer (some ⟨c, 0, none⟩)] X fun e w' => ∃ a cap, e = .returned (.tuple #[.slice a (body p).length cap, .int .i64 0]) ∧ Wide w' (.slice a (body p).length cap) (body p) ∧ Kept [] w w') := hide (fun c X h => FB.fin hp h)
  have HSU : Hid (∀ X x, Wide X x (body p) → Kept [] w X → Calls Tryz.prog 9 #[x] X (FoP w p)) := hide (fun X x hx k => sum_fin hs hr hb hx k)
  have k1 : (p.kind == 1) = false := by rw [beq_eq_false_iff_ne]; omega
  have k2 : (p.kind == 2) = false := by rw [beq_eq_false_iff_ne]; omega
  have k3 : (p.kind == 3) = false := by rw [beq_eq_false_iff_ne]; omega
  clear hk
  clear hm hs hr hb hp
  go_enter Tryz.func12, Tryz.ntmps12
  go_upto_region 1 with fail
  refine world_at (R := fun X => Blk X w.heap.size (mcc p l) 30 ∧ Kept [] w X) ⟨Blk.new _ _ _, (Kept.refl [] w).alloc _⟩ ?_
  rintro X0 ⟨hx, hk0⟩
  have HX := hide hx
  have HK := hide hk0
  clear hx hk0
  obtain ⟨c0, c1, c2, c3, c4, c5, c6, c7, c8, c9, c10, c11, c12, c13, c14, c15, c16, c17, c18, c19⟩ := box20 (unhide HX)
  go_wp2_with (first
    | (go_at_call 32; refine (FB.begin w X0 [(w.heap.size, mcc p l, 30)] (unhide HK) (fun x hx => by simp at hx; subst hx; exact unhide HX)).mono ?_; rintro e w1 ⟨cw, rfl, h⟩; clear c0 c1 c2 c3 c4 c5 c6 c7 c8 c9 c10 c11 c12 c13 c14 c15 c16 c17 c18 c19; obtain ⟨c0, c1, c2, c3, c4, c5, c6, c7, c8, c9, c10, c11, c12, c13, c14, c15, c16, c17, c18, c19⟩ := box20 (h.nth (i := 0) rfl); have H0 := hide h; clear h)
    | (go_at_call 33; refine (unhide HP0 _ _ (unhide H0)).mono ?_; rintro e w2 ⟨rfl, h⟩; clear c0 c1 c2 c3 c4 c5 c6 c7 c8 c9 c10 c11 c12 c13 c14 c15 c16 c17 c18 c19; obtain ⟨c0, c1, c2, c3, c4, c5, c6, c7, c8, c9, c10, c11, c12, c13, c14, c15, c16, c17, c18, c19⟩ := box20 (h.nth (i := 0) rfl); have H1 := hide h; clear h H0)
    | (go_at_call 33; refine (unhide HP1 _ _ (unhide H1)).mono ?_; rintro e w3 ⟨rfl, h⟩; clear c0 c1 c2 c3 c4 c5 c6 c7 c8 c9 c10 c11 c12 c13 c14 c15 c16 c17 c18 c19; obtain ⟨c0, c1, c2, c3, c4, c5, c6, c7, c8, c9, c10, c11, c12, c13, c14, c15, c16, c17, c18, c19⟩ := box20 (h.nth (i := 0) rfl); have H2 := hide h; clear h H1)
    | (go_at_call 33; refine (unhide HP2 _ _ (unhide H2)).mono ?_; rintro e w4 ⟨rfl, h⟩; clear c0 c1 c2 c3 c4 c5 c6 c7 c8 c9 c10 c11 c12 c13 c14 c15 c16 c17 c18 c19; obtain ⟨c0, c1, c2, c3, c4, c5, c6, c7, c8, c9, c10, c11, c12, c13, c14, c15, c16, c17, c18, c19⟩ := box20 (h.nth (i := 0) rfl); have H3 := hide h; clear h H2)
    | (go_at_call 34; refine (unhide HP3 _ _ (unhide H3)).mono ?_; rintro e w5 ⟨rfl, h⟩; clear c0 c1 c2 c3 c4 c5 c6 c7 c8 c9 c10 c11 c12 c13 c14 c15 c16 c17 c18 c19; obtain ⟨c0, c1, c2, c3, c4, c5, c6, c7, c8, c9, c10, c11, c12, c13, c14, c15, c16, c17, c18, c19⟩ := box20 (h.nth (i := 0) rfl); have H4 := hide h; clear h H3)
    | (go_at_call 34; refine (unhide HP4 _ _ (unhide H4)).mono ?_; rintro e w6 ⟨rfl, h⟩; clear c0 c1 c2 c3 c4 c5 c6 c7 c8 c9 c10 c11 c12 c13 c14 c15 c16 c17 c18 c19; obtain ⟨c0, c1, c2, c3, c4, c5, c6, c7, c8, c9, c10, c11, c12, c13, c14, c15, c16, c17, c18, c19⟩ := box20 (h.nth (i := 0) rfl); have H5 := hide h; clear h H4)
    | (go_at_call 38; refine (unhide HFN _ _ (unhide H5)).mono ?_; rintro e wd ⟨ad, xd, rfl, hw, k⟩; have HWD := hide hw; have HKD := hide k; clear hw k H5)
    | (go_at_call 9; refine (unhide HSU _ _ (unhide HWD) (unhide HKD)).mono ?_; rintro e ws ⟨asx, xs, rfl, ho, k⟩; have HFI := hide (And.intro ho k); clear ho k))
  go_ret
  exact ⟨asx, xs, rfl, (unhide HFI).1, (unhide HFI).2⟩
end Go.Proofs.YtfhfkpgfnlmfhaaGreatDoor

/- The document's Form, by kinds. -/
namespace Go.Proofs.YtfhfkpgfnlmfhaaGreatDoor
open Go.RowKit
set_option linter.unusedSimpArgs false
set_option linter.unusedVariables false

set_option maxRecDepth 100000 in
set_option maxHeartbeats 3200000 in
theorem rform_R0t (w : World) (p : Ml) (l : Lm) (hm : MW w p l) (hs : snd p = true) (hk : p.kind = 2) (hv : p.verd = 0) (hdn : p.done = true) : Calls Tryz.prog 12 #[.agg (mcc p l)] w (FoP w p) := by
  have hr := hm.root
  have hb := hm.byt
  have hp : pieces p = [.byte 0, .byte 1, .byte 2, .num 3, .num 8, .num 13, .flag, .text 15, .text 16, .num 17, .num 18] := by
    rw [pcs_0, pcs_2 hk]
    unfold veG
    simp [hv]
  have HP0 : Hid (∀ c X, FB w c (encL p []) [(w.heap.size, mcc p l, 30)] X → Calls Tryz.prog 33 #[.pointer (some ⟨c, 0, none⟩), .int .i64 p.kind] X fun e w' => e = .returned (.tuple #[]) ∧ FB w c (encL p [.byte 0]) [(w.heap.size, mcc p l, 30)] w') := hide (fun c X h => FB.pbyte hs hr (o := 0) (ks := []) (r := [.byte 1, .byte 2, .num 3, .num 8, .num 13, .flag, .text 15, .text 16, .num 17, .num 18]) hp h)
  have HP1 : Hid (∀ c X, FB w c (encL p [.byte 0]) [(w.heap.size, mcc p l, 30)] X → Calls Tryz.prog 33 #[.pointer (some ⟨c, 0, none⟩), .int .i64 p.frm] X fun e w' => e = .returned (.tuple #[]) ∧ FB w c (encL p [.byte 0, .byte 1]) [(w.heap.size, mcc p l, 30)] w') := hide (fun c X h => FB.pbyte hs hr (o := 1) (ks := [.byte 0]) (r := [.byte 2, .num 3, .num 8, .num 13, .flag, .text 15, .text 16, .num 17, .num 18]) hp h)
  have HP2 : Hid (∀ c X, FB w c (encL p [.byte 0, .byte 1]) [(w.heap.size, mcc p l, 30)] X → Calls Tryz.prog 33 #[.pointer (some ⟨c, 0, none⟩), .int .i64 p.dst] X fun e w' => e = .returned (.tuple #[]) ∧ FB w c (encL p [.byte 0, .byte 1, .byte 2]) [(w.heap.size, mcc p l, 30)] w') := hide (fun c X h => FB.pbyte hs hr (o := 2) (ks := [.byte 0, .byte 1]) (r := [.num 3, .num 8, .num 13, .flag, .text 15, .text 16, .num 17, .num 18]) hp h)
  obtain ⟨r3, hr3⟩ : ∃ r, (p.shard).toNat = r := ⟨_, rfl⟩
  obtain ⟨-, za3, zb3⟩ := snd_ok hs hr (.num 3) (by rw [hp]; simp)
  have er3 : IntKind.u64.wrap p.shard = (r3 : Int) := by
    have z1 : 0 ≤ p.shard := za3
    have z2 : p.shard < _ := zb3
    rw [IntKind.wrap_u64]; omega
  have HP3 : Hid (∀ c X, FB w c (encL p [.byte 0, .byte 1, .byte 2]) [(w.heap.size, mcc p l, 30)] X → Calls Tryz.prog 34 #[.pointer (some ⟨c, 0, none⟩), .int .u64 (r3 : Nat)] X fun e w' => e = .returned (.tuple #[]) ∧ FB w c (encL p [.byte 0, .byte 1, .byte 2, .num 3]) [(w.heap.size, mcc p l, 30)] w') := hide (fun c X h => FB.pnum hs hr (o := 3) (ks := [.byte 0, .byte 1, .byte 2]) (r := [.num 8, .num 13, .flag, .text 15, .text 16, .num 17, .num 18]) hp hr3 h)
  clear za3 zb3 hr3
  obtain ⟨r8, hr8⟩ : ∃ r, (p.seq).toNat = r := ⟨_, rfl⟩
  obtain ⟨-, za8, zb8⟩ := snd_ok hs hr (.num 8) (by rw [hp]; simp)
  have er8 : IntKind.u64.wrap p.seq = (r8 : Int) := by
    have z1 : 0 ≤ p.seq := za8
    have z2 : p.seq < _ := zb8
    rw [IntKind.wrap_u64]; omega
  have HP4 : Hid (∀ c X, FB w c (encL p [.byte 0, .byte 1, .byte 2, .num 3]) [(w.heap.size, mcc p l, 30)] X → Calls Tryz.prog 34 #[.pointer (some ⟨c, 0, none⟩), .int .u64 (r8 : Nat)] X fun e w' => e = .returned (.tuple #[]) ∧ FB w c (encL p [.byte 0, .byte 1, .byte 2, .num 3, .num 8]) [(w.heap.size, mcc p l, 30)] w') := hide (fun c X h => FB.pnum hs hr (o := 8) (ks := [.byte 0, .byte 1, .byte 2, .num 3]) (r := [.num 13, .flag, .text 15, .text 16, .num 17, .num 18]) hp hr8 h)
  clear za8 zb8 hr8
  obtain ⟨r13, hr13⟩ : ∃ r, (p.verd).toNat = r := ⟨_, rfl⟩
  obtain ⟨-, za13, zb13⟩ := snd_ok hs hr (.num 13) (by rw [hp]; simp)
  have er13 : IntKind.u64.wrap p.verd = (r13 : Int) := by
    have z1 : 0 ≤ p.verd := za13
    have z2 : p.verd < _ := zb13
    rw [IntKind.wrap_u64]; omega
  have HP5 : Hid (∀ c X, FB w c (encL p [.byte 0, .byte 1, .byte 2, .num 3, .num 8]) [(w.heap.size, mcc p l, 30)] X → Calls Tryz.prog 34 #[.pointer (some ⟨c, 0, none⟩), .int .u64 (r13 : Nat)] X fun e w' => e = .returned (.tuple #[]) ∧ FB w c (encL p [.byte 0, .byte 1, .byte 2, .num 3, .num 8, .num 13]) [(w.heap.size, mcc p l, 30)] w') := hide (fun c X h => FB.pnum hs hr (o := 13) (ks := [.byte 0, .byte 1, .byte 2, .num 3, .num 8]) (r := [.flag, .text 15, .text 16, .num 17, .num 18]) hp hr13 h)
  clear za13 zb13 hr13
  have HP6 : Hid (∀ c X, FB w c (encL p [.byte 0, .byte 1, .byte 2, .num 3, .num 8, .num 13]) [(w.heap.size, mcc p l, 30)] X → Calls Tryz.prog 33 #[.pointer (some ⟨c, 0, none⟩), .int .i64 1] X fun e w' => e = .returned (.tuple #[]) ∧ FB w c (encL p [.byte 0, .byte 1, .byte 2, .num 3, .num 8, .num 13, .flag]) [(w.heap.size, mcc p l, 30)] w') := hide (fun c X h => by have q := FB.pflag hs (ks := [.byte 0, .byte 1, .byte 2, .num 3, .num 8, .num 13]) (r := [.text 15, .text 16, .num 17, .num 18]) hp h; rw [hdn] at q; exact q)
  have HP7 : Hid (∀ c X, FB w c (encL p [.byte 0, .byte 1, .byte 2, .num 3, .num 8, .num 13, .flag]) [(w.heap.size, mcc p l, 30)] X → Calls Tryz.prog 36 #[.pointer (some ⟨c, 0, none⟩), .slice l.xa p.akey.length l.xc] X fun e w' => e = .returned (.tuple #[]) ∧ FB w c (encL p [.byte 0, .byte 1, .byte 2, .num 3, .num 8, .num 13, .flag, .text 15]) [(w.heap.size, mcc p l, 30)] w') := hide (fun c X h => FB.ptext hs hm (o := 15) (by simp [isT]) (ks := [.byte 0, .byte 1, .byte 2, .num 3, .num 8, .num 13, .flag]) (r := [.text 16, .num 17, .num 18]) hp h)
  have HP8 : Hid (∀ c X, FB w c (encL p [.byte 0, .byte 1, .byte 2, .num 3, .num 8, .num 13, .flag, .text 15]) [(w.heap.size, mcc p l, 30)] X → Calls Tryz.prog 36 #[.pointer (some ⟨c, 0, none⟩), .slice l.ya p.aval.length l.yc] X fun e w' => e = .returned (.tuple #[]) ∧ FB w c (encL p [.byte 0, .byte 1, .byte 2, .num 3, .num 8, .num 13, .flag, .text 15, .text 16]) [(w.heap.size, mcc p l, 30)] w') := hide (fun c X h => FB.ptext hs hm (o := 16) (by simp [isT]) (ks := [.byte 0, .byte 1, .byte 2, .num 3, .num 8, .num 13, .flag, .text 15]) (r := [.num 17, .num 18]) hp h)
  obtain ⟨r17, hr17⟩ : ∃ r, (p.arev).toNat = r := ⟨_, rfl⟩
  obtain ⟨-, za17, zb17⟩ := snd_ok hs hr (.num 17) (by rw [hp]; simp)
  have er17 : IntKind.u64.wrap p.arev = (r17 : Int) := by
    have z1 : 0 ≤ p.arev := za17
    have z2 : p.arev < _ := zb17
    rw [IntKind.wrap_u64]; omega
  have HP9 : Hid (∀ c X, FB w c (encL p [.byte 0, .byte 1, .byte 2, .num 3, .num 8, .num 13, .flag, .text 15, .text 16]) [(w.heap.size, mcc p l, 30)] X → Calls Tryz.prog 34 #[.pointer (some ⟨c, 0, none⟩), .int .u64 (r17 : Nat)] X fun e w' => e = .returned (.tuple #[]) ∧ FB w c (encL p [.byte 0, .byte 1, .byte 2, .num 3, .num 8, .num 13, .flag, .text 15, .text 16, .num 17]) [(w.heap.size, mcc p l, 30)] w') := hide (fun c X h => FB.pnum hs hr (o := 17) (ks := [.byte 0, .byte 1, .byte 2, .num 3, .num 8, .num 13, .flag, .text 15, .text 16]) (r := [.num 18]) hp hr17 h)
  clear za17 zb17 hr17
  obtain ⟨r18, hr18⟩ : ∃ r, (p.aat).toNat = r := ⟨_, rfl⟩
  obtain ⟨-, za18, zb18⟩ := snd_ok hs hr (.num 18) (by rw [hp]; simp)
  have er18 : IntKind.u64.wrap p.aat = (r18 : Int) := by
    have z1 : 0 ≤ p.aat := za18
    have z2 : p.aat < _ := zb18
    rw [IntKind.wrap_u64]; omega
  have HP10 : Hid (∀ c X, FB w c (encL p [.byte 0, .byte 1, .byte 2, .num 3, .num 8, .num 13, .flag, .text 15, .text 16, .num 17]) [(w.heap.size, mcc p l, 30)] X → Calls Tryz.prog 34 #[.pointer (some ⟨c, 0, none⟩), .int .u64 (r18 : Nat)] X fun e w' => e = .returned (.tuple #[]) ∧ FB w c (encL p [.byte 0, .byte 1, .byte 2, .num 3, .num 8, .num 13, .flag, .text 15, .text 16, .num 17, .num 18]) [(w.heap.size, mcc p l, 30)] w') := hide (fun c X h => FB.pnum hs hr (o := 18) (ks := [.byte 0, .byte 1, .byte 2, .num 3, .num 8, .num 13, .flag, .text 15, .text 16, .num 17]) (r := []) hp hr18 h)
  clear za18 zb18 hr18
  have HFN : Hid (∀ c X, FB w c (encL p [.byte 0, .byte 1, .byte 2, .num 3, .num 8, .num 13, .flag, .text 15, .text 16, .num 17, .num 18]) [(w.heap.size, mcc p l, 30)] X → Calls Tryz.prog 38 #[.pointer (some ⟨c, 0, none⟩)] X fun e w' => ∃ a cap, e = .returned (.tuple #[.slice a (body p).length cap, .int .i64 0]) ∧ Wide w' (.slice a (body p).length cap) (body p) ∧ Kept [] w w') := hide (fun c X h => FB.fin hp h)
  have HSU : Hid (∀ X x, Wide X x (body p) → Kept [] w X → Calls Tryz.prog 9 #[x] X (FoP w p)) := hide (fun X x hx k => sum_fin hs hr hb hx k)
  have k1 : (p.kind == 1) = false := by rw [beq_eq_false_iff_ne]; omega
  have k2 : (p.kind == 2) = true := by rw [beq_iff_eq]; omega
  have k3 : (p.kind == 3) = false := by rw [beq_eq_false_iff_ne]; omega
  have v0 : (p.verd == 0) = true := by rw [beq_iff_eq]; omega
  have v220 : (p.verd == 220) = false := by rw [beq_eq_false_iff_ne]; omega
  have v221 : (p.verd == 221) = false := by rw [beq_eq_false_iff_ne]; omega
  clear hk hv
  clear hm hs hr hb hp
  go_enter Tryz.func12, Tryz.ntmps12
  go_upto_region 1 with fail
  refine world_at (R := fun X => Blk X w.heap.size (mcc p l) 30 ∧ Kept [] w X) ⟨Blk.new _ _ _, (Kept.refl [] w).alloc _⟩ ?_
  rintro X0 ⟨hx, hk0⟩
  have HX := hide hx
  have HK := hide hk0
  clear hx hk0
  obtain ⟨c0, c1, c2, c3, c4, c5, c6, c7, c8, c9, c10, c11, c12, c13, c14, c15, c16, c17, c18, c19⟩ := box20 (unhide HX)
  go_wp2_with (first
    | (go_at_call 32; refine (FB.begin w X0 [(w.heap.size, mcc p l, 30)] (unhide HK) (fun x hx => by simp at hx; subst hx; exact unhide HX)).mono ?_; rintro e w1 ⟨cw, rfl, h⟩; clear c0 c1 c2 c3 c4 c5 c6 c7 c8 c9 c10 c11 c12 c13 c14 c15 c16 c17 c18 c19; obtain ⟨c0, c1, c2, c3, c4, c5, c6, c7, c8, c9, c10, c11, c12, c13, c14, c15, c16, c17, c18, c19⟩ := box20 (h.nth (i := 0) rfl); have H0 := hide h; clear h)
    | (go_at_call 33; refine (unhide HP0 _ _ (unhide H0)).mono ?_; rintro e w2 ⟨rfl, h⟩; clear c0 c1 c2 c3 c4 c5 c6 c7 c8 c9 c10 c11 c12 c13 c14 c15 c16 c17 c18 c19; obtain ⟨c0, c1, c2, c3, c4, c5, c6, c7, c8, c9, c10, c11, c12, c13, c14, c15, c16, c17, c18, c19⟩ := box20 (h.nth (i := 0) rfl); have H1 := hide h; clear h H0)
    | (go_at_call 33; refine (unhide HP1 _ _ (unhide H1)).mono ?_; rintro e w3 ⟨rfl, h⟩; clear c0 c1 c2 c3 c4 c5 c6 c7 c8 c9 c10 c11 c12 c13 c14 c15 c16 c17 c18 c19; obtain ⟨c0, c1, c2, c3, c4, c5, c6, c7, c8, c9, c10, c11, c12, c13, c14, c15, c16, c17, c18, c19⟩ := box20 (h.nth (i := 0) rfl); have H2 := hide h; clear h H1)
    | (go_at_call 33; refine (unhide HP2 _ _ (unhide H2)).mono ?_; rintro e w4 ⟨rfl, h⟩; clear c0 c1 c2 c3 c4 c5 c6 c7 c8 c9 c10 c11 c12 c13 c14 c15 c16 c17 c18 c19; obtain ⟨c0, c1, c2, c3, c4, c5, c6, c7, c8, c9, c10, c11, c12, c13, c14, c15, c16, c17, c18, c19⟩ := box20 (h.nth (i := 0) rfl); have H3 := hide h; clear h H2)
    | (go_at_call 34; refine (unhide HP3 _ _ (unhide H3)).mono ?_; rintro e w5 ⟨rfl, h⟩; clear c0 c1 c2 c3 c4 c5 c6 c7 c8 c9 c10 c11 c12 c13 c14 c15 c16 c17 c18 c19; obtain ⟨c0, c1, c2, c3, c4, c5, c6, c7, c8, c9, c10, c11, c12, c13, c14, c15, c16, c17, c18, c19⟩ := box20 (h.nth (i := 0) rfl); have H4 := hide h; clear h H3)
    | (go_at_call 34; refine (unhide HP4 _ _ (unhide H4)).mono ?_; rintro e w6 ⟨rfl, h⟩; clear c0 c1 c2 c3 c4 c5 c6 c7 c8 c9 c10 c11 c12 c13 c14 c15 c16 c17 c18 c19; obtain ⟨c0, c1, c2, c3, c4, c5, c6, c7, c8, c9, c10, c11, c12, c13, c14, c15, c16, c17, c18, c19⟩ := box20 (h.nth (i := 0) rfl); have H5 := hide h; clear h H4)
    | (go_at_call 34; refine (unhide HP5 _ _ (unhide H5)).mono ?_; rintro e w7 ⟨rfl, h⟩; clear c0 c1 c2 c3 c4 c5 c6 c7 c8 c9 c10 c11 c12 c13 c14 c15 c16 c17 c18 c19; obtain ⟨c0, c1, c2, c3, c4, c5, c6, c7, c8, c9, c10, c11, c12, c13, c14, c15, c16, c17, c18, c19⟩ := box20 (h.nth (i := 0) rfl); have H6 := hide h; clear h H5)
    | (go_at_call 33; refine (unhide HP6 _ _ (unhide H6)).mono ?_; rintro e w8 ⟨rfl, h⟩; clear c0 c1 c2 c3 c4 c5 c6 c7 c8 c9 c10 c11 c12 c13 c14 c15 c16 c17 c18 c19; obtain ⟨c0, c1, c2, c3, c4, c5, c6, c7, c8, c9, c10, c11, c12, c13, c14, c15, c16, c17, c18, c19⟩ := box20 (h.nth (i := 0) rfl); have H7 := hide h; clear h H6)
    | (go_at_call 36; refine (unhide HP7 _ _ (unhide H7)).mono ?_; rintro e w9 ⟨rfl, h⟩; clear c0 c1 c2 c3 c4 c5 c6 c7 c8 c9 c10 c11 c12 c13 c14 c15 c16 c17 c18 c19; obtain ⟨c0, c1, c2, c3, c4, c5, c6, c7, c8, c9, c10, c11, c12, c13, c14, c15, c16, c17, c18, c19⟩ := box20 (h.nth (i := 0) rfl); have H8 := hide h; clear h H7)
    | (go_at_call 36; refine (unhide HP8 _ _ (unhide H8)).mono ?_; rintro e w10 ⟨rfl, h⟩; clear c0 c1 c2 c3 c4 c5 c6 c7 c8 c9 c10 c11 c12 c13 c14 c15 c16 c17 c18 c19; obtain ⟨c0, c1, c2, c3, c4, c5, c6, c7, c8, c9, c10, c11, c12, c13, c14, c15, c16, c17, c18, c19⟩ := box20 (h.nth (i := 0) rfl); have H9 := hide h; clear h H8)
    | (go_at_call 34; refine (unhide HP9 _ _ (unhide H9)).mono ?_; rintro e w11 ⟨rfl, h⟩; clear c0 c1 c2 c3 c4 c5 c6 c7 c8 c9 c10 c11 c12 c13 c14 c15 c16 c17 c18 c19; obtain ⟨c0, c1, c2, c3, c4, c5, c6, c7, c8, c9, c10, c11, c12, c13, c14, c15, c16, c17, c18, c19⟩ := box20 (h.nth (i := 0) rfl); have H10 := hide h; clear h H9)
    | (go_at_call 34; refine (unhide HP10 _ _ (unhide H10)).mono ?_; rintro e w12 ⟨rfl, h⟩; clear c0 c1 c2 c3 c4 c5 c6 c7 c8 c9 c10 c11 c12 c13 c14 c15 c16 c17 c18 c19; obtain ⟨c0, c1, c2, c3, c4, c5, c6, c7, c8, c9, c10, c11, c12, c13, c14, c15, c16, c17, c18, c19⟩ := box20 (h.nth (i := 0) rfl); have H11 := hide h; clear h H10)
    | (go_at_call 38; refine (unhide HFN _ _ (unhide H11)).mono ?_; rintro e wd ⟨ad, xd, rfl, hw, k⟩; have HWD := hide hw; have HKD := hide k; clear hw k H11)
    | (go_at_call 9; refine (unhide HSU _ _ (unhide HWD) (unhide HKD)).mono ?_; rintro e ws ⟨asx, xs, rfl, ho, k⟩; have HFI := hide (And.intro ho k); clear ho k))
  go_ret
  exact ⟨asx, xs, rfl, (unhide HFI).1, (unhide HFI).2⟩
set_option maxRecDepth 100000 in
set_option maxHeartbeats 3200000 in
theorem rform_R0f (w : World) (p : Ml) (l : Lm) (hm : MW w p l) (hs : snd p = true) (hk : p.kind = 2) (hv : p.verd = 0) (hdn : p.done = false) : Calls Tryz.prog 12 #[.agg (mcc p l)] w (FoP w p) := by
  have hr := hm.root
  have hb := hm.byt
  have hp : pieces p = [.byte 0, .byte 1, .byte 2, .num 3, .num 8, .num 13, .flag, .text 15, .text 16, .num 17, .num 18] := by
    rw [pcs_0, pcs_2 hk]
    unfold veG
    simp [hv]
  have HP0 : Hid (∀ c X, FB w c (encL p []) [(w.heap.size, mcc p l, 30)] X → Calls Tryz.prog 33 #[.pointer (some ⟨c, 0, none⟩), .int .i64 p.kind] X fun e w' => e = .returned (.tuple #[]) ∧ FB w c (encL p [.byte 0]) [(w.heap.size, mcc p l, 30)] w') := hide (fun c X h => FB.pbyte hs hr (o := 0) (ks := []) (r := [.byte 1, .byte 2, .num 3, .num 8, .num 13, .flag, .text 15, .text 16, .num 17, .num 18]) hp h)
  have HP1 : Hid (∀ c X, FB w c (encL p [.byte 0]) [(w.heap.size, mcc p l, 30)] X → Calls Tryz.prog 33 #[.pointer (some ⟨c, 0, none⟩), .int .i64 p.frm] X fun e w' => e = .returned (.tuple #[]) ∧ FB w c (encL p [.byte 0, .byte 1]) [(w.heap.size, mcc p l, 30)] w') := hide (fun c X h => FB.pbyte hs hr (o := 1) (ks := [.byte 0]) (r := [.byte 2, .num 3, .num 8, .num 13, .flag, .text 15, .text 16, .num 17, .num 18]) hp h)
  have HP2 : Hid (∀ c X, FB w c (encL p [.byte 0, .byte 1]) [(w.heap.size, mcc p l, 30)] X → Calls Tryz.prog 33 #[.pointer (some ⟨c, 0, none⟩), .int .i64 p.dst] X fun e w' => e = .returned (.tuple #[]) ∧ FB w c (encL p [.byte 0, .byte 1, .byte 2]) [(w.heap.size, mcc p l, 30)] w') := hide (fun c X h => FB.pbyte hs hr (o := 2) (ks := [.byte 0, .byte 1]) (r := [.num 3, .num 8, .num 13, .flag, .text 15, .text 16, .num 17, .num 18]) hp h)
  obtain ⟨r3, hr3⟩ : ∃ r, (p.shard).toNat = r := ⟨_, rfl⟩
  obtain ⟨-, za3, zb3⟩ := snd_ok hs hr (.num 3) (by rw [hp]; simp)
  have er3 : IntKind.u64.wrap p.shard = (r3 : Int) := by
    have z1 : 0 ≤ p.shard := za3
    have z2 : p.shard < _ := zb3
    rw [IntKind.wrap_u64]; omega
  have HP3 : Hid (∀ c X, FB w c (encL p [.byte 0, .byte 1, .byte 2]) [(w.heap.size, mcc p l, 30)] X → Calls Tryz.prog 34 #[.pointer (some ⟨c, 0, none⟩), .int .u64 (r3 : Nat)] X fun e w' => e = .returned (.tuple #[]) ∧ FB w c (encL p [.byte 0, .byte 1, .byte 2, .num 3]) [(w.heap.size, mcc p l, 30)] w') := hide (fun c X h => FB.pnum hs hr (o := 3) (ks := [.byte 0, .byte 1, .byte 2]) (r := [.num 8, .num 13, .flag, .text 15, .text 16, .num 17, .num 18]) hp hr3 h)
  clear za3 zb3 hr3
  obtain ⟨r8, hr8⟩ : ∃ r, (p.seq).toNat = r := ⟨_, rfl⟩
  obtain ⟨-, za8, zb8⟩ := snd_ok hs hr (.num 8) (by rw [hp]; simp)
  have er8 : IntKind.u64.wrap p.seq = (r8 : Int) := by
    have z1 : 0 ≤ p.seq := za8
    have z2 : p.seq < _ := zb8
    rw [IntKind.wrap_u64]; omega
  have HP4 : Hid (∀ c X, FB w c (encL p [.byte 0, .byte 1, .byte 2, .num 3]) [(w.heap.size, mcc p l, 30)] X → Calls Tryz.prog 34 #[.pointer (some ⟨c, 0, none⟩), .int .u64 (r8 : Nat)] X fun e w' => e = .returned (.tuple #[]) ∧ FB w c (encL p [.byte 0, .byte 1, .byte 2, .num 3, .num 8]) [(w.heap.size, mcc p l, 30)] w') := hide (fun c X h => FB.pnum hs hr (o := 8) (ks := [.byte 0, .byte 1, .byte 2, .num 3]) (r := [.num 13, .flag, .text 15, .text 16, .num 17, .num 18]) hp hr8 h)
  clear za8 zb8 hr8
  obtain ⟨r13, hr13⟩ : ∃ r, (p.verd).toNat = r := ⟨_, rfl⟩
  obtain ⟨-, za13, zb13⟩ := snd_ok hs hr (.num 13) (by rw [hp]; simp)
  have er13 : IntKind.u64.wrap p.verd = (r13 : Int) := by
    have z1 : 0 ≤ p.verd := za13
    have z2 : p.verd < _ := zb13
    rw [IntKind.wrap_u64]; omega
  have HP5 : Hid (∀ c X, FB w c (encL p [.byte 0, .byte 1, .byte 2, .num 3, .num 8]) [(w.heap.size, mcc p l, 30)] X → Calls Tryz.prog 34 #[.pointer (some ⟨c, 0, none⟩), .int .u64 (r13 : Nat)] X fun e w' => e = .returned (.tuple #[]) ∧ FB w c (encL p [.byte 0, .byte 1, .byte 2, .num 3, .num 8, .num 13]) [(w.heap.size, mcc p l, 30)] w') := hide (fun c X h => FB.pnum hs hr (o := 13) (ks := [.byte 0, .byte 1, .byte 2, .num 3, .num 8]) (r := [.flag, .text 15, .text 16, .num 17, .num 18]) hp hr13 h)
  clear za13 zb13 hr13
  have HP6 : Hid (∀ c X, FB w c (encL p [.byte 0, .byte 1, .byte 2, .num 3, .num 8, .num 13]) [(w.heap.size, mcc p l, 30)] X → Calls Tryz.prog 33 #[.pointer (some ⟨c, 0, none⟩), .int .i64 0] X fun e w' => e = .returned (.tuple #[]) ∧ FB w c (encL p [.byte 0, .byte 1, .byte 2, .num 3, .num 8, .num 13, .flag]) [(w.heap.size, mcc p l, 30)] w') := hide (fun c X h => by have q := FB.pflag hs (ks := [.byte 0, .byte 1, .byte 2, .num 3, .num 8, .num 13]) (r := [.text 15, .text 16, .num 17, .num 18]) hp h; rw [hdn] at q; exact q)
  have HP7 : Hid (∀ c X, FB w c (encL p [.byte 0, .byte 1, .byte 2, .num 3, .num 8, .num 13, .flag]) [(w.heap.size, mcc p l, 30)] X → Calls Tryz.prog 36 #[.pointer (some ⟨c, 0, none⟩), .slice l.xa p.akey.length l.xc] X fun e w' => e = .returned (.tuple #[]) ∧ FB w c (encL p [.byte 0, .byte 1, .byte 2, .num 3, .num 8, .num 13, .flag, .text 15]) [(w.heap.size, mcc p l, 30)] w') := hide (fun c X h => FB.ptext hs hm (o := 15) (by simp [isT]) (ks := [.byte 0, .byte 1, .byte 2, .num 3, .num 8, .num 13, .flag]) (r := [.text 16, .num 17, .num 18]) hp h)
  have HP8 : Hid (∀ c X, FB w c (encL p [.byte 0, .byte 1, .byte 2, .num 3, .num 8, .num 13, .flag, .text 15]) [(w.heap.size, mcc p l, 30)] X → Calls Tryz.prog 36 #[.pointer (some ⟨c, 0, none⟩), .slice l.ya p.aval.length l.yc] X fun e w' => e = .returned (.tuple #[]) ∧ FB w c (encL p [.byte 0, .byte 1, .byte 2, .num 3, .num 8, .num 13, .flag, .text 15, .text 16]) [(w.heap.size, mcc p l, 30)] w') := hide (fun c X h => FB.ptext hs hm (o := 16) (by simp [isT]) (ks := [.byte 0, .byte 1, .byte 2, .num 3, .num 8, .num 13, .flag, .text 15]) (r := [.num 17, .num 18]) hp h)
  obtain ⟨r17, hr17⟩ : ∃ r, (p.arev).toNat = r := ⟨_, rfl⟩
  obtain ⟨-, za17, zb17⟩ := snd_ok hs hr (.num 17) (by rw [hp]; simp)
  have er17 : IntKind.u64.wrap p.arev = (r17 : Int) := by
    have z1 : 0 ≤ p.arev := za17
    have z2 : p.arev < _ := zb17
    rw [IntKind.wrap_u64]; omega
  have HP9 : Hid (∀ c X, FB w c (encL p [.byte 0, .byte 1, .byte 2, .num 3, .num 8, .num 13, .flag, .text 15, .text 16]) [(w.heap.size, mcc p l, 30)] X → Calls Tryz.prog 34 #[.pointer (some ⟨c, 0, none⟩), .int .u64 (r17 : Nat)] X fun e w' => e = .returned (.tuple #[]) ∧ FB w c (encL p [.byte 0, .byte 1, .byte 2, .num 3, .num 8, .num 13, .flag, .text 15, .text 16, .num 17]) [(w.heap.size, mcc p l, 30)] w') := hide (fun c X h => FB.pnum hs hr (o := 17) (ks := [.byte 0, .byte 1, .byte 2, .num 3, .num 8, .num 13, .flag, .text 15, .text 16]) (r := [.num 18]) hp hr17 h)
  clear za17 zb17 hr17
  obtain ⟨r18, hr18⟩ : ∃ r, (p.aat).toNat = r := ⟨_, rfl⟩
  obtain ⟨-, za18, zb18⟩ := snd_ok hs hr (.num 18) (by rw [hp]; simp)
  have er18 : IntKind.u64.wrap p.aat = (r18 : Int) := by
    have z1 : 0 ≤ p.aat := za18
    have z2 : p.aat < _ := zb18
    rw [IntKind.wrap_u64]; omega
  have HP10 : Hid (∀ c X, FB w c (encL p [.byte 0, .byte 1, .byte 2, .num 3, .num 8, .num 13, .flag, .text 15, .text 16, .num 17]) [(w.heap.size, mcc p l, 30)] X → Calls Tryz.prog 34 #[.pointer (some ⟨c, 0, none⟩), .int .u64 (r18 : Nat)] X fun e w' => e = .returned (.tuple #[]) ∧ FB w c (encL p [.byte 0, .byte 1, .byte 2, .num 3, .num 8, .num 13, .flag, .text 15, .text 16, .num 17, .num 18]) [(w.heap.size, mcc p l, 30)] w') := hide (fun c X h => FB.pnum hs hr (o := 18) (ks := [.byte 0, .byte 1, .byte 2, .num 3, .num 8, .num 13, .flag, .text 15, .text 16, .num 17]) (r := []) hp hr18 h)
  clear za18 zb18 hr18
  have HFN : Hid (∀ c X, FB w c (encL p [.byte 0, .byte 1, .byte 2, .num 3, .num 8, .num 13, .flag, .text 15, .text 16, .num 17, .num 18]) [(w.heap.size, mcc p l, 30)] X → Calls Tryz.prog 38 #[.pointer (some ⟨c, 0, none⟩)] X fun e w' => ∃ a cap, e = .returned (.tuple #[.slice a (body p).length cap, .int .i64 0]) ∧ Wide w' (.slice a (body p).length cap) (body p) ∧ Kept [] w w') := hide (fun c X h => FB.fin hp h)
  have HSU : Hid (∀ X x, Wide X x (body p) → Kept [] w X → Calls Tryz.prog 9 #[x] X (FoP w p)) := hide (fun X x hx k => sum_fin hs hr hb hx k)
  have k1 : (p.kind == 1) = false := by rw [beq_eq_false_iff_ne]; omega
  have k2 : (p.kind == 2) = true := by rw [beq_iff_eq]; omega
  have k3 : (p.kind == 3) = false := by rw [beq_eq_false_iff_ne]; omega
  have v0 : (p.verd == 0) = true := by rw [beq_iff_eq]; omega
  have v220 : (p.verd == 220) = false := by rw [beq_eq_false_iff_ne]; omega
  have v221 : (p.verd == 221) = false := by rw [beq_eq_false_iff_ne]; omega
  clear hk hv
  clear hm hs hr hb hp
  go_enter Tryz.func12, Tryz.ntmps12
  go_upto_region 1 with fail
  refine world_at (R := fun X => Blk X w.heap.size (mcc p l) 30 ∧ Kept [] w X) ⟨Blk.new _ _ _, (Kept.refl [] w).alloc _⟩ ?_
  rintro X0 ⟨hx, hk0⟩
  have HX := hide hx
  have HK := hide hk0
  clear hx hk0
  obtain ⟨c0, c1, c2, c3, c4, c5, c6, c7, c8, c9, c10, c11, c12, c13, c14, c15, c16, c17, c18, c19⟩ := box20 (unhide HX)
  go_wp2_with (first
    | (go_at_call 32; refine (FB.begin w X0 [(w.heap.size, mcc p l, 30)] (unhide HK) (fun x hx => by simp at hx; subst hx; exact unhide HX)).mono ?_; rintro e w1 ⟨cw, rfl, h⟩; clear c0 c1 c2 c3 c4 c5 c6 c7 c8 c9 c10 c11 c12 c13 c14 c15 c16 c17 c18 c19; obtain ⟨c0, c1, c2, c3, c4, c5, c6, c7, c8, c9, c10, c11, c12, c13, c14, c15, c16, c17, c18, c19⟩ := box20 (h.nth (i := 0) rfl); have H0 := hide h; clear h)
    | (go_at_call 33; refine (unhide HP0 _ _ (unhide H0)).mono ?_; rintro e w2 ⟨rfl, h⟩; clear c0 c1 c2 c3 c4 c5 c6 c7 c8 c9 c10 c11 c12 c13 c14 c15 c16 c17 c18 c19; obtain ⟨c0, c1, c2, c3, c4, c5, c6, c7, c8, c9, c10, c11, c12, c13, c14, c15, c16, c17, c18, c19⟩ := box20 (h.nth (i := 0) rfl); have H1 := hide h; clear h H0)
    | (go_at_call 33; refine (unhide HP1 _ _ (unhide H1)).mono ?_; rintro e w3 ⟨rfl, h⟩; clear c0 c1 c2 c3 c4 c5 c6 c7 c8 c9 c10 c11 c12 c13 c14 c15 c16 c17 c18 c19; obtain ⟨c0, c1, c2, c3, c4, c5, c6, c7, c8, c9, c10, c11, c12, c13, c14, c15, c16, c17, c18, c19⟩ := box20 (h.nth (i := 0) rfl); have H2 := hide h; clear h H1)
    | (go_at_call 33; refine (unhide HP2 _ _ (unhide H2)).mono ?_; rintro e w4 ⟨rfl, h⟩; clear c0 c1 c2 c3 c4 c5 c6 c7 c8 c9 c10 c11 c12 c13 c14 c15 c16 c17 c18 c19; obtain ⟨c0, c1, c2, c3, c4, c5, c6, c7, c8, c9, c10, c11, c12, c13, c14, c15, c16, c17, c18, c19⟩ := box20 (h.nth (i := 0) rfl); have H3 := hide h; clear h H2)
    | (go_at_call 34; refine (unhide HP3 _ _ (unhide H3)).mono ?_; rintro e w5 ⟨rfl, h⟩; clear c0 c1 c2 c3 c4 c5 c6 c7 c8 c9 c10 c11 c12 c13 c14 c15 c16 c17 c18 c19; obtain ⟨c0, c1, c2, c3, c4, c5, c6, c7, c8, c9, c10, c11, c12, c13, c14, c15, c16, c17, c18, c19⟩ := box20 (h.nth (i := 0) rfl); have H4 := hide h; clear h H3)
    | (go_at_call 34; refine (unhide HP4 _ _ (unhide H4)).mono ?_; rintro e w6 ⟨rfl, h⟩; clear c0 c1 c2 c3 c4 c5 c6 c7 c8 c9 c10 c11 c12 c13 c14 c15 c16 c17 c18 c19; obtain ⟨c0, c1, c2, c3, c4, c5, c6, c7, c8, c9, c10, c11, c12, c13, c14, c15, c16, c17, c18, c19⟩ := box20 (h.nth (i := 0) rfl); have H5 := hide h; clear h H4)
    | (go_at_call 34; refine (unhide HP5 _ _ (unhide H5)).mono ?_; rintro e w7 ⟨rfl, h⟩; clear c0 c1 c2 c3 c4 c5 c6 c7 c8 c9 c10 c11 c12 c13 c14 c15 c16 c17 c18 c19; obtain ⟨c0, c1, c2, c3, c4, c5, c6, c7, c8, c9, c10, c11, c12, c13, c14, c15, c16, c17, c18, c19⟩ := box20 (h.nth (i := 0) rfl); have H6 := hide h; clear h H5)
    | (go_at_call 33; refine (unhide HP6 _ _ (unhide H6)).mono ?_; rintro e w8 ⟨rfl, h⟩; clear c0 c1 c2 c3 c4 c5 c6 c7 c8 c9 c10 c11 c12 c13 c14 c15 c16 c17 c18 c19; obtain ⟨c0, c1, c2, c3, c4, c5, c6, c7, c8, c9, c10, c11, c12, c13, c14, c15, c16, c17, c18, c19⟩ := box20 (h.nth (i := 0) rfl); have H7 := hide h; clear h H6)
    | (go_at_call 36; refine (unhide HP7 _ _ (unhide H7)).mono ?_; rintro e w9 ⟨rfl, h⟩; clear c0 c1 c2 c3 c4 c5 c6 c7 c8 c9 c10 c11 c12 c13 c14 c15 c16 c17 c18 c19; obtain ⟨c0, c1, c2, c3, c4, c5, c6, c7, c8, c9, c10, c11, c12, c13, c14, c15, c16, c17, c18, c19⟩ := box20 (h.nth (i := 0) rfl); have H8 := hide h; clear h H7)
    | (go_at_call 36; refine (unhide HP8 _ _ (unhide H8)).mono ?_; rintro e w10 ⟨rfl, h⟩; clear c0 c1 c2 c3 c4 c5 c6 c7 c8 c9 c10 c11 c12 c13 c14 c15 c16 c17 c18 c19; obtain ⟨c0, c1, c2, c3, c4, c5, c6, c7, c8, c9, c10, c11, c12, c13, c14, c15, c16, c17, c18, c19⟩ := box20 (h.nth (i := 0) rfl); have H9 := hide h; clear h H8)
    | (go_at_call 34; refine (unhide HP9 _ _ (unhide H9)).mono ?_; rintro e w11 ⟨rfl, h⟩; clear c0 c1 c2 c3 c4 c5 c6 c7 c8 c9 c10 c11 c12 c13 c14 c15 c16 c17 c18 c19; obtain ⟨c0, c1, c2, c3, c4, c5, c6, c7, c8, c9, c10, c11, c12, c13, c14, c15, c16, c17, c18, c19⟩ := box20 (h.nth (i := 0) rfl); have H10 := hide h; clear h H9)
    | (go_at_call 34; refine (unhide HP10 _ _ (unhide H10)).mono ?_; rintro e w12 ⟨rfl, h⟩; clear c0 c1 c2 c3 c4 c5 c6 c7 c8 c9 c10 c11 c12 c13 c14 c15 c16 c17 c18 c19; obtain ⟨c0, c1, c2, c3, c4, c5, c6, c7, c8, c9, c10, c11, c12, c13, c14, c15, c16, c17, c18, c19⟩ := box20 (h.nth (i := 0) rfl); have H11 := hide h; clear h H10)
    | (go_at_call 38; refine (unhide HFN _ _ (unhide H11)).mono ?_; rintro e wd ⟨ad, xd, rfl, hw, k⟩; have HWD := hide hw; have HKD := hide k; clear hw k H11)
    | (go_at_call 9; refine (unhide HSU _ _ (unhide HWD) (unhide HKD)).mono ?_; rintro e ws ⟨asx, xs, rfl, ho, k⟩; have HFI := hide (And.intro ho k); clear ho k))
  go_ret
  exact ⟨asx, xs, rfl, (unhide HFI).1, (unhide HFI).2⟩
end Go.Proofs.YtfhfkpgfnlmfhaaGreatDoor

/- The document's Form, by kinds. -/
namespace Go.Proofs.YtfhfkpgfnlmfhaaGreatDoor
open Go.RowKit
set_option linter.unusedSimpArgs false
set_option linter.unusedVariables false

set_option maxRecDepth 100000 in
set_option maxHeartbeats 3200000 in
theorem rform_R1 (w : World) (p : Ml) (l : Lm) (hm : MW w p l) (hs : snd p = true) (hk : p.kind = 2) (hv : p.verd = 181 ∨ p.verd = 182) : Calls Tryz.prog 12 #[.agg (mcc p l)] w (FoP w p) := by
  have hr := hm.root
  have hb := hm.byt
  have hp : pieces p = [.byte 0, .byte 1, .byte 2, .num 3, .num 8, .num 13] := by
    rw [pcs_0, pcs_2 hk]
    unfold veG
    rcases hv with hv | hv <;> simp [hv]
  have HP0 : Hid (∀ c X, FB w c (encL p []) [(w.heap.size, mcc p l, 30)] X → Calls Tryz.prog 33 #[.pointer (some ⟨c, 0, none⟩), .int .i64 p.kind] X fun e w' => e = .returned (.tuple #[]) ∧ FB w c (encL p [.byte 0]) [(w.heap.size, mcc p l, 30)] w') := hide (fun c X h => FB.pbyte hs hr (o := 0) (ks := []) (r := [.byte 1, .byte 2, .num 3, .num 8, .num 13]) hp h)
  have HP1 : Hid (∀ c X, FB w c (encL p [.byte 0]) [(w.heap.size, mcc p l, 30)] X → Calls Tryz.prog 33 #[.pointer (some ⟨c, 0, none⟩), .int .i64 p.frm] X fun e w' => e = .returned (.tuple #[]) ∧ FB w c (encL p [.byte 0, .byte 1]) [(w.heap.size, mcc p l, 30)] w') := hide (fun c X h => FB.pbyte hs hr (o := 1) (ks := [.byte 0]) (r := [.byte 2, .num 3, .num 8, .num 13]) hp h)
  have HP2 : Hid (∀ c X, FB w c (encL p [.byte 0, .byte 1]) [(w.heap.size, mcc p l, 30)] X → Calls Tryz.prog 33 #[.pointer (some ⟨c, 0, none⟩), .int .i64 p.dst] X fun e w' => e = .returned (.tuple #[]) ∧ FB w c (encL p [.byte 0, .byte 1, .byte 2]) [(w.heap.size, mcc p l, 30)] w') := hide (fun c X h => FB.pbyte hs hr (o := 2) (ks := [.byte 0, .byte 1]) (r := [.num 3, .num 8, .num 13]) hp h)
  obtain ⟨r3, hr3⟩ : ∃ r, (p.shard).toNat = r := ⟨_, rfl⟩
  obtain ⟨-, za3, zb3⟩ := snd_ok hs hr (.num 3) (by rw [hp]; simp)
  have er3 : IntKind.u64.wrap p.shard = (r3 : Int) := by
    have z1 : 0 ≤ p.shard := za3
    have z2 : p.shard < _ := zb3
    rw [IntKind.wrap_u64]; omega
  have HP3 : Hid (∀ c X, FB w c (encL p [.byte 0, .byte 1, .byte 2]) [(w.heap.size, mcc p l, 30)] X → Calls Tryz.prog 34 #[.pointer (some ⟨c, 0, none⟩), .int .u64 (r3 : Nat)] X fun e w' => e = .returned (.tuple #[]) ∧ FB w c (encL p [.byte 0, .byte 1, .byte 2, .num 3]) [(w.heap.size, mcc p l, 30)] w') := hide (fun c X h => FB.pnum hs hr (o := 3) (ks := [.byte 0, .byte 1, .byte 2]) (r := [.num 8, .num 13]) hp hr3 h)
  clear za3 zb3 hr3
  obtain ⟨r8, hr8⟩ : ∃ r, (p.seq).toNat = r := ⟨_, rfl⟩
  obtain ⟨-, za8, zb8⟩ := snd_ok hs hr (.num 8) (by rw [hp]; simp)
  have er8 : IntKind.u64.wrap p.seq = (r8 : Int) := by
    have z1 : 0 ≤ p.seq := za8
    have z2 : p.seq < _ := zb8
    rw [IntKind.wrap_u64]; omega
  have HP4 : Hid (∀ c X, FB w c (encL p [.byte 0, .byte 1, .byte 2, .num 3]) [(w.heap.size, mcc p l, 30)] X → Calls Tryz.prog 34 #[.pointer (some ⟨c, 0, none⟩), .int .u64 (r8 : Nat)] X fun e w' => e = .returned (.tuple #[]) ∧ FB w c (encL p [.byte 0, .byte 1, .byte 2, .num 3, .num 8]) [(w.heap.size, mcc p l, 30)] w') := hide (fun c X h => FB.pnum hs hr (o := 8) (ks := [.byte 0, .byte 1, .byte 2, .num 3]) (r := [.num 13]) hp hr8 h)
  clear za8 zb8 hr8
  obtain ⟨r13, hr13⟩ : ∃ r, (p.verd).toNat = r := ⟨_, rfl⟩
  obtain ⟨-, za13, zb13⟩ := snd_ok hs hr (.num 13) (by rw [hp]; simp)
  have er13 : IntKind.u64.wrap p.verd = (r13 : Int) := by
    have z1 : 0 ≤ p.verd := za13
    have z2 : p.verd < _ := zb13
    rw [IntKind.wrap_u64]; omega
  have HP5 : Hid (∀ c X, FB w c (encL p [.byte 0, .byte 1, .byte 2, .num 3, .num 8]) [(w.heap.size, mcc p l, 30)] X → Calls Tryz.prog 34 #[.pointer (some ⟨c, 0, none⟩), .int .u64 (r13 : Nat)] X fun e w' => e = .returned (.tuple #[]) ∧ FB w c (encL p [.byte 0, .byte 1, .byte 2, .num 3, .num 8, .num 13]) [(w.heap.size, mcc p l, 30)] w') := hide (fun c X h => FB.pnum hs hr (o := 13) (ks := [.byte 0, .byte 1, .byte 2, .num 3, .num 8]) (r := []) hp hr13 h)
  clear za13 zb13 hr13
  have HFN : Hid (∀ c X, FB w c (encL p [.byte 0, .byte 1, .byte 2, .num 3, .num 8, .num 13]) [(w.heap.size, mcc p l, 30)] X → Calls Tryz.prog 38 #[.pointer (some ⟨c, 0, none⟩)] X fun e w' => ∃ a cap, e = .returned (.tuple #[.slice a (body p).length cap, .int .i64 0]) ∧ Wide w' (.slice a (body p).length cap) (body p) ∧ Kept [] w w') := hide (fun c X h => FB.fin hp h)
  have HSU : Hid (∀ X x, Wide X x (body p) → Kept [] w X → Calls Tryz.prog 9 #[x] X (FoP w p)) := hide (fun X x hx k => sum_fin hs hr hb hx k)
  have k1 : (p.kind == 1) = false := by rw [beq_eq_false_iff_ne]; omega
  have k2 : (p.kind == 2) = true := by rw [beq_iff_eq]; omega
  have k3 : (p.kind == 3) = false := by rw [beq_eq_false_iff_ne]; omega
  have v0 : (p.verd == 0) = false := by rw [beq_eq_false_iff_ne]; omega
  have v220 : (p.verd == 220) = false := by rw [beq_eq_false_iff_ne]; omega
  have v221 : (p.verd == 221) = false := by rw [beq_eq_false_iff_ne]; omega
  clear hk hv
  clear hm hs hr hb hp
  go_enter Tryz.func12, Tryz.ntmps12
  go_upto_region 1 with fail
  refine world_at (R := fun X => Blk X w.heap.size (mcc p l) 30 ∧ Kept [] w X) ⟨Blk.new _ _ _, (Kept.refl [] w).alloc _⟩ ?_
  rintro X0 ⟨hx, hk0⟩
  have HX := hide hx
  have HK := hide hk0
  clear hx hk0
  obtain ⟨c0, c1, c2, c3, c4, c5, c6, c7, c8, c9, c10, c11, c12, c13, c14, c15, c16, c17, c18, c19⟩ := box20 (unhide HX)
  go_wp2_with (first
    | (go_at_call 32; refine (FB.begin w X0 [(w.heap.size, mcc p l, 30)] (unhide HK) (fun x hx => by simp at hx; subst hx; exact unhide HX)).mono ?_; rintro e w1 ⟨cw, rfl, h⟩; clear c0 c1 c2 c3 c4 c5 c6 c7 c8 c9 c10 c11 c12 c13 c14 c15 c16 c17 c18 c19; obtain ⟨c0, c1, c2, c3, c4, c5, c6, c7, c8, c9, c10, c11, c12, c13, c14, c15, c16, c17, c18, c19⟩ := box20 (h.nth (i := 0) rfl); have H0 := hide h; clear h)
    | (go_at_call 33; refine (unhide HP0 _ _ (unhide H0)).mono ?_; rintro e w2 ⟨rfl, h⟩; clear c0 c1 c2 c3 c4 c5 c6 c7 c8 c9 c10 c11 c12 c13 c14 c15 c16 c17 c18 c19; obtain ⟨c0, c1, c2, c3, c4, c5, c6, c7, c8, c9, c10, c11, c12, c13, c14, c15, c16, c17, c18, c19⟩ := box20 (h.nth (i := 0) rfl); have H1 := hide h; clear h H0)
    | (go_at_call 33; refine (unhide HP1 _ _ (unhide H1)).mono ?_; rintro e w3 ⟨rfl, h⟩; clear c0 c1 c2 c3 c4 c5 c6 c7 c8 c9 c10 c11 c12 c13 c14 c15 c16 c17 c18 c19; obtain ⟨c0, c1, c2, c3, c4, c5, c6, c7, c8, c9, c10, c11, c12, c13, c14, c15, c16, c17, c18, c19⟩ := box20 (h.nth (i := 0) rfl); have H2 := hide h; clear h H1)
    | (go_at_call 33; refine (unhide HP2 _ _ (unhide H2)).mono ?_; rintro e w4 ⟨rfl, h⟩; clear c0 c1 c2 c3 c4 c5 c6 c7 c8 c9 c10 c11 c12 c13 c14 c15 c16 c17 c18 c19; obtain ⟨c0, c1, c2, c3, c4, c5, c6, c7, c8, c9, c10, c11, c12, c13, c14, c15, c16, c17, c18, c19⟩ := box20 (h.nth (i := 0) rfl); have H3 := hide h; clear h H2)
    | (go_at_call 34; refine (unhide HP3 _ _ (unhide H3)).mono ?_; rintro e w5 ⟨rfl, h⟩; clear c0 c1 c2 c3 c4 c5 c6 c7 c8 c9 c10 c11 c12 c13 c14 c15 c16 c17 c18 c19; obtain ⟨c0, c1, c2, c3, c4, c5, c6, c7, c8, c9, c10, c11, c12, c13, c14, c15, c16, c17, c18, c19⟩ := box20 (h.nth (i := 0) rfl); have H4 := hide h; clear h H3)
    | (go_at_call 34; refine (unhide HP4 _ _ (unhide H4)).mono ?_; rintro e w6 ⟨rfl, h⟩; clear c0 c1 c2 c3 c4 c5 c6 c7 c8 c9 c10 c11 c12 c13 c14 c15 c16 c17 c18 c19; obtain ⟨c0, c1, c2, c3, c4, c5, c6, c7, c8, c9, c10, c11, c12, c13, c14, c15, c16, c17, c18, c19⟩ := box20 (h.nth (i := 0) rfl); have H5 := hide h; clear h H4)
    | (go_at_call 34; refine (unhide HP5 _ _ (unhide H5)).mono ?_; rintro e w7 ⟨rfl, h⟩; clear c0 c1 c2 c3 c4 c5 c6 c7 c8 c9 c10 c11 c12 c13 c14 c15 c16 c17 c18 c19; obtain ⟨c0, c1, c2, c3, c4, c5, c6, c7, c8, c9, c10, c11, c12, c13, c14, c15, c16, c17, c18, c19⟩ := box20 (h.nth (i := 0) rfl); have H6 := hide h; clear h H5)
    | (go_at_call 38; refine (unhide HFN _ _ (unhide H6)).mono ?_; rintro e wd ⟨ad, xd, rfl, hw, k⟩; have HWD := hide hw; have HKD := hide k; clear hw k H6)
    | (go_at_call 9; refine (unhide HSU _ _ (unhide HWD) (unhide HKD)).mono ?_; rintro e ws ⟨asx, xs, rfl, ho, k⟩; have HFI := hide (And.intro ho k); clear ho k))
  go_ret
  exact ⟨asx, xs, rfl, (unhide HFI).1, (unhide HFI).2⟩
set_option maxRecDepth 100000 in
set_option maxHeartbeats 3200000 in
theorem rform_R220 (w : World) (p : Ml) (l : Lm) (hm : MW w p l) (hs : snd p = true) (hk : p.kind = 2) (hv : p.verd = 220) : Calls Tryz.prog 12 #[.agg (mcc p l)] w (FoP w p) := by
  have hr := hm.root
  have hb := hm.byt
  have hp : pieces p = [.byte 0, .byte 1, .byte 2, .num 3, .num 8, .num 13, .byte 19] := by
    rw [pcs_0, pcs_2 hk]
    unfold veG
    simp [hv]
  have HP0 : Hid (∀ c X, FB w c (encL p []) [(w.heap.size, mcc p l, 30)] X → Calls Tryz.prog 33 #[.pointer (some ⟨c, 0, none⟩), .int .i64 p.kind] X fun e w' => e = .returned (.tuple #[]) ∧ FB w c (encL p [.byte 0]) [(w.heap.size, mcc p l, 30)] w') := hide (fun c X h => FB.pbyte hs hr (o := 0) (ks := []) (r := [.byte 1, .byte 2, .num 3, .num 8, .num 13, .byte 19]) hp h)
  have HP1 : Hid (∀ c X, FB w c (encL p [.byte 0]) [(w.heap.size, mcc p l, 30)] X → Calls Tryz.prog 33 #[.pointer (some ⟨c, 0, none⟩), .int .i64 p.frm] X fun e w' => e = .returned (.tuple #[]) ∧ FB w c (encL p [.byte 0, .byte 1]) [(w.heap.size, mcc p l, 30)] w') := hide (fun c X h => FB.pbyte hs hr (o := 1) (ks := [.byte 0]) (r := [.byte 2, .num 3, .num 8, .num 13, .byte 19]) hp h)
  have HP2 : Hid (∀ c X, FB w c (encL p [.byte 0, .byte 1]) [(w.heap.size, mcc p l, 30)] X → Calls Tryz.prog 33 #[.pointer (some ⟨c, 0, none⟩), .int .i64 p.dst] X fun e w' => e = .returned (.tuple #[]) ∧ FB w c (encL p [.byte 0, .byte 1, .byte 2]) [(w.heap.size, mcc p l, 30)] w') := hide (fun c X h => FB.pbyte hs hr (o := 2) (ks := [.byte 0, .byte 1]) (r := [.num 3, .num 8, .num 13, .byte 19]) hp h)
  obtain ⟨r3, hr3⟩ : ∃ r, (p.shard).toNat = r := ⟨_, rfl⟩
  obtain ⟨-, za3, zb3⟩ := snd_ok hs hr (.num 3) (by rw [hp]; simp)
  have er3 : IntKind.u64.wrap p.shard = (r3 : Int) := by
    have z1 : 0 ≤ p.shard := za3
    have z2 : p.shard < _ := zb3
    rw [IntKind.wrap_u64]; omega
  have HP3 : Hid (∀ c X, FB w c (encL p [.byte 0, .byte 1, .byte 2]) [(w.heap.size, mcc p l, 30)] X → Calls Tryz.prog 34 #[.pointer (some ⟨c, 0, none⟩), .int .u64 (r3 : Nat)] X fun e w' => e = .returned (.tuple #[]) ∧ FB w c (encL p [.byte 0, .byte 1, .byte 2, .num 3]) [(w.heap.size, mcc p l, 30)] w') := hide (fun c X h => FB.pnum hs hr (o := 3) (ks := [.byte 0, .byte 1, .byte 2]) (r := [.num 8, .num 13, .byte 19]) hp hr3 h)
  clear za3 zb3 hr3
  obtain ⟨r8, hr8⟩ : ∃ r, (p.seq).toNat = r := ⟨_, rfl⟩
  obtain ⟨-, za8, zb8⟩ := snd_ok hs hr (.num 8) (by rw [hp]; simp)
  have er8 : IntKind.u64.wrap p.seq = (r8 : Int) := by
    have z1 : 0 ≤ p.seq := za8
    have z2 : p.seq < _ := zb8
    rw [IntKind.wrap_u64]; omega
  have HP4 : Hid (∀ c X, FB w c (encL p [.byte 0, .byte 1, .byte 2, .num 3]) [(w.heap.size, mcc p l, 30)] X → Calls Tryz.prog 34 #[.pointer (some ⟨c, 0, none⟩), .int .u64 (r8 : Nat)] X fun e w' => e = .returned (.tuple #[]) ∧ FB w c (encL p [.byte 0, .byte 1, .byte 2, .num 3, .num 8]) [(w.heap.size, mcc p l, 30)] w') := hide (fun c X h => FB.pnum hs hr (o := 8) (ks := [.byte 0, .byte 1, .byte 2, .num 3]) (r := [.num 13, .byte 19]) hp hr8 h)
  clear za8 zb8 hr8
  obtain ⟨r13, hr13⟩ : ∃ r, (p.verd).toNat = r := ⟨_, rfl⟩
  obtain ⟨-, za13, zb13⟩ := snd_ok hs hr (.num 13) (by rw [hp]; simp)
  have er13 : IntKind.u64.wrap p.verd = (r13 : Int) := by
    have z1 : 0 ≤ p.verd := za13
    have z2 : p.verd < _ := zb13
    rw [IntKind.wrap_u64]; omega
  have HP5 : Hid (∀ c X, FB w c (encL p [.byte 0, .byte 1, .byte 2, .num 3, .num 8]) [(w.heap.size, mcc p l, 30)] X → Calls Tryz.prog 34 #[.pointer (some ⟨c, 0, none⟩), .int .u64 (r13 : Nat)] X fun e w' => e = .returned (.tuple #[]) ∧ FB w c (encL p [.byte 0, .byte 1, .byte 2, .num 3, .num 8, .num 13]) [(w.heap.size, mcc p l, 30)] w') := hide (fun c X h => FB.pnum hs hr (o := 13) (ks := [.byte 0, .byte 1, .byte 2, .num 3, .num 8]) (r := [.byte 19]) hp hr13 h)
  clear za13 zb13 hr13
  have HP6 : Hid (∀ c X, FB w c (encL p [.byte 0, .byte 1, .byte 2, .num 3, .num 8, .num 13]) [(w.heap.size, mcc p l, 30)] X → Calls Tryz.prog 33 #[.pointer (some ⟨c, 0, none⟩), .int .i64 p.hint] X fun e w' => e = .returned (.tuple #[]) ∧ FB w c (encL p [.byte 0, .byte 1, .byte 2, .num 3, .num 8, .num 13, .byte 19]) [(w.heap.size, mcc p l, 30)] w') := hide (fun c X h => FB.pbyte hs hr (o := 19) (ks := [.byte 0, .byte 1, .byte 2, .num 3, .num 8, .num 13]) (r := []) hp h)
  have HFN : Hid (∀ c X, FB w c (encL p [.byte 0, .byte 1, .byte 2, .num 3, .num 8, .num 13, .byte 19]) [(w.heap.size, mcc p l, 30)] X → Calls Tryz.prog 38 #[.pointer (some ⟨c, 0, none⟩)] X fun e w' => ∃ a cap, e = .returned (.tuple #[.slice a (body p).length cap, .int .i64 0]) ∧ Wide w' (.slice a (body p).length cap) (body p) ∧ Kept [] w w') := hide (fun c X h => FB.fin hp h)
  have HSU : Hid (∀ X x, Wide X x (body p) → Kept [] w X → Calls Tryz.prog 9 #[x] X (FoP w p)) := hide (fun X x hx k => sum_fin hs hr hb hx k)
  have k1 : (p.kind == 1) = false := by rw [beq_eq_false_iff_ne]; omega
  have k2 : (p.kind == 2) = true := by rw [beq_iff_eq]; omega
  have k3 : (p.kind == 3) = false := by rw [beq_eq_false_iff_ne]; omega
  have v0 : (p.verd == 0) = false := by rw [beq_eq_false_iff_ne]; omega
  have v220 : (p.verd == 220) = true := by rw [beq_iff_eq]; omega
  have v221 : (p.verd == 221) = false := by rw [beq_eq_false_iff_ne]; omega
  clear hk hv
  clear hm hs hr hb hp
  go_enter Tryz.func12, Tryz.ntmps12
  go_upto_region 1 with fail
  refine world_at (R := fun X => Blk X w.heap.size (mcc p l) 30 ∧ Kept [] w X) ⟨Blk.new _ _ _, (Kept.refl [] w).alloc _⟩ ?_
  rintro X0 ⟨hx, hk0⟩
  have HX := hide hx
  have HK := hide hk0
  clear hx hk0
  obtain ⟨c0, c1, c2, c3, c4, c5, c6, c7, c8, c9, c10, c11, c12, c13, c14, c15, c16, c17, c18, c19⟩ := box20 (unhide HX)
  go_wp2_with (first
    | (go_at_call 32; refine (FB.begin w X0 [(w.heap.size, mcc p l, 30)] (unhide HK) (fun x hx => by simp at hx; subst hx; exact unhide HX)).mono ?_; rintro e w1 ⟨cw, rfl, h⟩; clear c0 c1 c2 c3 c4 c5 c6 c7 c8 c9 c10 c11 c12 c13 c14 c15 c16 c17 c18 c19; obtain ⟨c0, c1, c2, c3, c4, c5, c6, c7, c8, c9, c10, c11, c12, c13, c14, c15, c16, c17, c18, c19⟩ := box20 (h.nth (i := 0) rfl); have H0 := hide h; clear h)
    | (go_at_call 33; refine (unhide HP0 _ _ (unhide H0)).mono ?_; rintro e w2 ⟨rfl, h⟩; clear c0 c1 c2 c3 c4 c5 c6 c7 c8 c9 c10 c11 c12 c13 c14 c15 c16 c17 c18 c19; obtain ⟨c0, c1, c2, c3, c4, c5, c6, c7, c8, c9, c10, c11, c12, c13, c14, c15, c16, c17, c18, c19⟩ := box20 (h.nth (i := 0) rfl); have H1 := hide h; clear h H0)
    | (go_at_call 33; refine (unhide HP1 _ _ (unhide H1)).mono ?_; rintro e w3 ⟨rfl, h⟩; clear c0 c1 c2 c3 c4 c5 c6 c7 c8 c9 c10 c11 c12 c13 c14 c15 c16 c17 c18 c19; obtain ⟨c0, c1, c2, c3, c4, c5, c6, c7, c8, c9, c10, c11, c12, c13, c14, c15, c16, c17, c18, c19⟩ := box20 (h.nth (i := 0) rfl); have H2 := hide h; clear h H1)
    | (go_at_call 33; refine (unhide HP2 _ _ (unhide H2)).mono ?_; rintro e w4 ⟨rfl, h⟩; clear c0 c1 c2 c3 c4 c5 c6 c7 c8 c9 c10 c11 c12 c13 c14 c15 c16 c17 c18 c19; obtain ⟨c0, c1, c2, c3, c4, c5, c6, c7, c8, c9, c10, c11, c12, c13, c14, c15, c16, c17, c18, c19⟩ := box20 (h.nth (i := 0) rfl); have H3 := hide h; clear h H2)
    | (go_at_call 34; refine (unhide HP3 _ _ (unhide H3)).mono ?_; rintro e w5 ⟨rfl, h⟩; clear c0 c1 c2 c3 c4 c5 c6 c7 c8 c9 c10 c11 c12 c13 c14 c15 c16 c17 c18 c19; obtain ⟨c0, c1, c2, c3, c4, c5, c6, c7, c8, c9, c10, c11, c12, c13, c14, c15, c16, c17, c18, c19⟩ := box20 (h.nth (i := 0) rfl); have H4 := hide h; clear h H3)
    | (go_at_call 34; refine (unhide HP4 _ _ (unhide H4)).mono ?_; rintro e w6 ⟨rfl, h⟩; clear c0 c1 c2 c3 c4 c5 c6 c7 c8 c9 c10 c11 c12 c13 c14 c15 c16 c17 c18 c19; obtain ⟨c0, c1, c2, c3, c4, c5, c6, c7, c8, c9, c10, c11, c12, c13, c14, c15, c16, c17, c18, c19⟩ := box20 (h.nth (i := 0) rfl); have H5 := hide h; clear h H4)
    | (go_at_call 34; refine (unhide HP5 _ _ (unhide H5)).mono ?_; rintro e w7 ⟨rfl, h⟩; clear c0 c1 c2 c3 c4 c5 c6 c7 c8 c9 c10 c11 c12 c13 c14 c15 c16 c17 c18 c19; obtain ⟨c0, c1, c2, c3, c4, c5, c6, c7, c8, c9, c10, c11, c12, c13, c14, c15, c16, c17, c18, c19⟩ := box20 (h.nth (i := 0) rfl); have H6 := hide h; clear h H5)
    | (go_at_call 33; refine (unhide HP6 _ _ (unhide H6)).mono ?_; rintro e w8 ⟨rfl, h⟩; clear c0 c1 c2 c3 c4 c5 c6 c7 c8 c9 c10 c11 c12 c13 c14 c15 c16 c17 c18 c19; obtain ⟨c0, c1, c2, c3, c4, c5, c6, c7, c8, c9, c10, c11, c12, c13, c14, c15, c16, c17, c18, c19⟩ := box20 (h.nth (i := 0) rfl); have H7 := hide h; clear h H6)
    | (go_at_call 38; refine (unhide HFN _ _ (unhide H7)).mono ?_; rintro e wd ⟨ad, xd, rfl, hw, k⟩; have HWD := hide hw; have HKD := hide k; clear hw k H7)
    | (go_at_call 9; refine (unhide HSU _ _ (unhide HWD) (unhide HKD)).mono ?_; rintro e ws ⟨asx, xs, rfl, ho, k⟩; have HFI := hide (And.intro ho k); clear ho k))
  go_ret
  exact ⟨asx, xs, rfl, (unhide HFI).1, (unhide HFI).2⟩
set_option maxRecDepth 100000 in
set_option maxHeartbeats 3200000 in
theorem rform_R221 (w : World) (p : Ml) (l : Lm) (hm : MW w p l) (hs : snd p = true) (hk : p.kind = 2) (hv : p.verd = 221) : Calls Tryz.prog 12 #[.agg (mcc p l)] w (FoP w p) := by
  have hr := hm.root
  have hb := hm.byt
  have hp : pieces p = [.byte 0, .byte 1, .byte 2, .num 3, .num 8, .num 13, .byte 19] := by
    rw [pcs_0, pcs_2 hk]
    unfold veG
    simp [hv]
  have HP0 : Hid (∀ c X, FB w c (encL p []) [(w.heap.size, mcc p l, 30)] X → Calls Tryz.prog 33 #[.pointer (some ⟨c, 0, none⟩), .int .i64 p.kind] X fun e w' => e = .returned (.tuple #[]) ∧ FB w c (encL p [.byte 0]) [(w.heap.size, mcc p l, 30)] w') := hide (fun c X h => FB.pbyte hs hr (o := 0) (ks := []) (r := [.byte 1, .byte 2, .num 3, .num 8, .num 13, .byte 19]) hp h)
  have HP1 : Hid (∀ c X, FB w c (encL p [.byte 0]) [(w.heap.size, mcc p l, 30)] X → Calls Tryz.prog 33 #[.pointer (some ⟨c, 0, none⟩), .int .i64 p.frm] X fun e w' => e = .returned (.tuple #[]) ∧ FB w c (encL p [.byte 0, .byte 1]) [(w.heap.size, mcc p l, 30)] w') := hide (fun c X h => FB.pbyte hs hr (o := 1) (ks := [.byte 0]) (r := [.byte 2, .num 3, .num 8, .num 13, .byte 19]) hp h)
  have HP2 : Hid (∀ c X, FB w c (encL p [.byte 0, .byte 1]) [(w.heap.size, mcc p l, 30)] X → Calls Tryz.prog 33 #[.pointer (some ⟨c, 0, none⟩), .int .i64 p.dst] X fun e w' => e = .returned (.tuple #[]) ∧ FB w c (encL p [.byte 0, .byte 1, .byte 2]) [(w.heap.size, mcc p l, 30)] w') := hide (fun c X h => FB.pbyte hs hr (o := 2) (ks := [.byte 0, .byte 1]) (r := [.num 3, .num 8, .num 13, .byte 19]) hp h)
  obtain ⟨r3, hr3⟩ : ∃ r, (p.shard).toNat = r := ⟨_, rfl⟩
  obtain ⟨-, za3, zb3⟩ := snd_ok hs hr (.num 3) (by rw [hp]; simp)
  have er3 : IntKind.u64.wrap p.shard = (r3 : Int) := by
    have z1 : 0 ≤ p.shard := za3
    have z2 : p.shard < _ := zb3
    rw [IntKind.wrap_u64]; omega
  have HP3 : Hid (∀ c X, FB w c (encL p [.byte 0, .byte 1, .byte 2]) [(w.heap.size, mcc p l, 30)] X → Calls Tryz.prog 34 #[.pointer (some ⟨c, 0, none⟩), .int .u64 (r3 : Nat)] X fun e w' => e = .returned (.tuple #[]) ∧ FB w c (encL p [.byte 0, .byte 1, .byte 2, .num 3]) [(w.heap.size, mcc p l, 30)] w') := hide (fun c X h => FB.pnum hs hr (o := 3) (ks := [.byte 0, .byte 1, .byte 2]) (r := [.num 8, .num 13, .byte 19]) hp hr3 h)
  clear za3 zb3 hr3
  obtain ⟨r8, hr8⟩ : ∃ r, (p.seq).toNat = r := ⟨_, rfl⟩
  obtain ⟨-, za8, zb8⟩ := snd_ok hs hr (.num 8) (by rw [hp]; simp)
  have er8 : IntKind.u64.wrap p.seq = (r8 : Int) := by
    have z1 : 0 ≤ p.seq := za8
    have z2 : p.seq < _ := zb8
    rw [IntKind.wrap_u64]; omega
  have HP4 : Hid (∀ c X, FB w c (encL p [.byte 0, .byte 1, .byte 2, .num 3]) [(w.heap.size, mcc p l, 30)] X → Calls Tryz.prog 34 #[.pointer (some ⟨c, 0, none⟩), .int .u64 (r8 : Nat)] X fun e w' => e = .returned (.tuple #[]) ∧ FB w c (encL p [.byte 0, .byte 1, .byte 2, .num 3, .num 8]) [(w.heap.size, mcc p l, 30)] w') := hide (fun c X h => FB.pnum hs hr (o := 8) (ks := [.byte 0, .byte 1, .byte 2, .num 3]) (r := [.num 13, .byte 19]) hp hr8 h)
  clear za8 zb8 hr8
  obtain ⟨r13, hr13⟩ : ∃ r, (p.verd).toNat = r := ⟨_, rfl⟩
  obtain ⟨-, za13, zb13⟩ := snd_ok hs hr (.num 13) (by rw [hp]; simp)
  have er13 : IntKind.u64.wrap p.verd = (r13 : Int) := by
    have z1 : 0 ≤ p.verd := za13
    have z2 : p.verd < _ := zb13
    rw [IntKind.wrap_u64]; omega
  have HP5 : Hid (∀ c X, FB w c (encL p [.byte 0, .byte 1, .byte 2, .num 3, .num 8]) [(w.heap.size, mcc p l, 30)] X → Calls Tryz.prog 34 #[.pointer (some ⟨c, 0, none⟩), .int .u64 (r13 : Nat)] X fun e w' => e = .returned (.tuple #[]) ∧ FB w c (encL p [.byte 0, .byte 1, .byte 2, .num 3, .num 8, .num 13]) [(w.heap.size, mcc p l, 30)] w') := hide (fun c X h => FB.pnum hs hr (o := 13) (ks := [.byte 0, .byte 1, .byte 2, .num 3, .num 8]) (r := [.byte 19]) hp hr13 h)
  clear za13 zb13 hr13
  have HP6 : Hid (∀ c X, FB w c (encL p [.byte 0, .byte 1, .byte 2, .num 3, .num 8, .num 13]) [(w.heap.size, mcc p l, 30)] X → Calls Tryz.prog 33 #[.pointer (some ⟨c, 0, none⟩), .int .i64 p.hint] X fun e w' => e = .returned (.tuple #[]) ∧ FB w c (encL p [.byte 0, .byte 1, .byte 2, .num 3, .num 8, .num 13, .byte 19]) [(w.heap.size, mcc p l, 30)] w') := hide (fun c X h => FB.pbyte hs hr (o := 19) (ks := [.byte 0, .byte 1, .byte 2, .num 3, .num 8, .num 13]) (r := []) hp h)
  have HFN : Hid (∀ c X, FB w c (encL p [.byte 0, .byte 1, .byte 2, .num 3, .num 8, .num 13, .byte 19]) [(w.heap.size, mcc p l, 30)] X → Calls Tryz.prog 38 #[.pointer (some ⟨c, 0, none⟩)] X fun e w' => ∃ a cap, e = .returned (.tuple #[.slice a (body p).length cap, .int .i64 0]) ∧ Wide w' (.slice a (body p).length cap) (body p) ∧ Kept [] w w') := hide (fun c X h => FB.fin hp h)
  have HSU : Hid (∀ X x, Wide X x (body p) → Kept [] w X → Calls Tryz.prog 9 #[x] X (FoP w p)) := hide (fun X x hx k => sum_fin hs hr hb hx k)
  have k1 : (p.kind == 1) = false := by rw [beq_eq_false_iff_ne]; omega
  have k2 : (p.kind == 2) = true := by rw [beq_iff_eq]; omega
  have k3 : (p.kind == 3) = false := by rw [beq_eq_false_iff_ne]; omega
  have v0 : (p.verd == 0) = false := by rw [beq_eq_false_iff_ne]; omega
  have v220 : (p.verd == 220) = false := by rw [beq_eq_false_iff_ne]; omega
  have v221 : (p.verd == 221) = true := by rw [beq_iff_eq]; omega
  clear hk hv
  clear hm hs hr hb hp
  go_enter Tryz.func12, Tryz.ntmps12
  go_upto_region 1 with fail
  refine world_at (R := fun X => Blk X w.heap.size (mcc p l) 30 ∧ Kept [] w X) ⟨Blk.new _ _ _, (Kept.refl [] w).alloc _⟩ ?_
  rintro X0 ⟨hx, hk0⟩
  have HX := hide hx
  have HK := hide hk0
  clear hx hk0
  obtain ⟨c0, c1, c2, c3, c4, c5, c6, c7, c8, c9, c10, c11, c12, c13, c14, c15, c16, c17, c18, c19⟩ := box20 (unhide HX)
  go_wp2_with (first
    | (go_at_call 32; refine (FB.begin w X0 [(w.heap.size, mcc p l, 30)] (unhide HK) (fun x hx => by simp at hx; subst hx; exact unhide HX)).mono ?_; rintro e w1 ⟨cw, rfl, h⟩; clear c0 c1 c2 c3 c4 c5 c6 c7 c8 c9 c10 c11 c12 c13 c14 c15 c16 c17 c18 c19; obtain ⟨c0, c1, c2, c3, c4, c5, c6, c7, c8, c9, c10, c11, c12, c13, c14, c15, c16, c17, c18, c19⟩ := box20 (h.nth (i := 0) rfl); have H0 := hide h; clear h)
    | (go_at_call 33; refine (unhide HP0 _ _ (unhide H0)).mono ?_; rintro e w2 ⟨rfl, h⟩; clear c0 c1 c2 c3 c4 c5 c6 c7 c8 c9 c10 c11 c12 c13 c14 c15 c16 c17 c18 c19; obtain ⟨c0, c1, c2, c3, c4, c5, c6, c7, c8, c9, c10, c11, c12, c13, c14, c15, c16, c17, c18, c19⟩ := box20 (h.nth (i := 0) rfl); have H1 := hide h; clear h H0)
    | (go_at_call 33; refine (unhide HP1 _ _ (unhide H1)).mono ?_; rintro e w3 ⟨rfl, h⟩; clear c0 c1 c2 c3 c4 c5 c6 c7 c8 c9 c10 c11 c12 c13 c14 c15 c16 c17 c18 c19; obtain ⟨c0, c1, c2, c3, c4, c5, c6, c7, c8, c9, c10, c11, c12, c13, c14, c15, c16, c17, c18, c19⟩ := box20 (h.nth (i := 0) rfl); have H2 := hide h; clear h H1)
    | (go_at_call 33; refine (unhide HP2 _ _ (unhide H2)).mono ?_; rintro e w4 ⟨rfl, h⟩; clear c0 c1 c2 c3 c4 c5 c6 c7 c8 c9 c10 c11 c12 c13 c14 c15 c16 c17 c18 c19; obtain ⟨c0, c1, c2, c3, c4, c5, c6, c7, c8, c9, c10, c11, c12, c13, c14, c15, c16, c17, c18, c19⟩ := box20 (h.nth (i := 0) rfl); have H3 := hide h; clear h H2)
    | (go_at_call 34; refine (unhide HP3 _ _ (unhide H3)).mono ?_; rintro e w5 ⟨rfl, h⟩; clear c0 c1 c2 c3 c4 c5 c6 c7 c8 c9 c10 c11 c12 c13 c14 c15 c16 c17 c18 c19; obtain ⟨c0, c1, c2, c3, c4, c5, c6, c7, c8, c9, c10, c11, c12, c13, c14, c15, c16, c17, c18, c19⟩ := box20 (h.nth (i := 0) rfl); have H4 := hide h; clear h H3)
    | (go_at_call 34; refine (unhide HP4 _ _ (unhide H4)).mono ?_; rintro e w6 ⟨rfl, h⟩; clear c0 c1 c2 c3 c4 c5 c6 c7 c8 c9 c10 c11 c12 c13 c14 c15 c16 c17 c18 c19; obtain ⟨c0, c1, c2, c3, c4, c5, c6, c7, c8, c9, c10, c11, c12, c13, c14, c15, c16, c17, c18, c19⟩ := box20 (h.nth (i := 0) rfl); have H5 := hide h; clear h H4)
    | (go_at_call 34; refine (unhide HP5 _ _ (unhide H5)).mono ?_; rintro e w7 ⟨rfl, h⟩; clear c0 c1 c2 c3 c4 c5 c6 c7 c8 c9 c10 c11 c12 c13 c14 c15 c16 c17 c18 c19; obtain ⟨c0, c1, c2, c3, c4, c5, c6, c7, c8, c9, c10, c11, c12, c13, c14, c15, c16, c17, c18, c19⟩ := box20 (h.nth (i := 0) rfl); have H6 := hide h; clear h H5)
    | (go_at_call 33; refine (unhide HP6 _ _ (unhide H6)).mono ?_; rintro e w8 ⟨rfl, h⟩; clear c0 c1 c2 c3 c4 c5 c6 c7 c8 c9 c10 c11 c12 c13 c14 c15 c16 c17 c18 c19; obtain ⟨c0, c1, c2, c3, c4, c5, c6, c7, c8, c9, c10, c11, c12, c13, c14, c15, c16, c17, c18, c19⟩ := box20 (h.nth (i := 0) rfl); have H7 := hide h; clear h H6)
    | (go_at_call 38; refine (unhide HFN _ _ (unhide H7)).mono ?_; rintro e wd ⟨ad, xd, rfl, hw, k⟩; have HWD := hide hw; have HKD := hide k; clear hw k H7)
    | (go_at_call 9; refine (unhide HSU _ _ (unhide HWD) (unhide HKD)).mono ?_; rintro e ws ⟨asx, xs, rfl, ho, k⟩; have HFI := hide (And.intro ho k); clear ho k))
  go_ret
  exact ⟨asx, xs, rfl, (unhide HFI).1, (unhide HFI).2⟩
end Go.Proofs.YtfhfkpgfnlmfhaaGreatDoor

/- The document's Form, by kinds. -/
namespace Go.Proofs.YtfhfkpgfnlmfhaaGreatDoor
open Go.RowKit
set_option linter.unusedSimpArgs false
set_option linter.unusedVariables false

set_option maxRecDepth 100000 in
set_option maxHeartbeats 3200000 in
theorem rform_Q (w : World) (p : Ml) (l : Lm) (hm : MW w p l) (hs : snd p = true) (hk : p.kind = 1) (hg : rgt p.okind p.key.length p.val.length p.rev = true) (HL9 : (encL p [.byte 0, .byte 1, .byte 2, .num 3, .num 8]).length ≤ 100) : Calls Tryz.prog 12 #[.agg (mcc p l)] w (FoP w p) := by
  have hr := hm.root
  have hb := hm.byt
  have hp : pieces p = .byte 0 :: .byte 1 :: .byte 2 :: .num 3 :: .num 8 :: .byte 9 :: .text 10 :: fin p := by
    rw [pcs_0]
    show _ = _
    rw [show mid p = [.num 8, .byte 9, .text 10] from by unfold mid; rw [if_pos hk]]
    rfl
  have HP0 : Hid (∀ c X, FB w c (encL p []) [(w.heap.size, mcc p l, 30)] X → Calls Tryz.prog 33 #[.pointer (some ⟨c, 0, none⟩), .int .i64 p.kind] X fun e w' => e = .returned (.tuple #[]) ∧ FB w c (encL p [.byte 0]) [(w.heap.size, mcc p l, 30)] w') := hide (fun c X h => FB.pbyte hs hr (o := 0) (ks := []) (r := .byte 1 :: .byte 2 :: .num 3 :: .num 8 :: .byte 9 :: .text 10 :: fin p) hp h)
  have HP1 : Hid (∀ c X, FB w c (encL p [.byte 0]) [(w.heap.size, mcc p l, 30)] X → Calls Tryz.prog 33 #[.pointer (some ⟨c, 0, none⟩), .int .i64 p.frm] X fun e w' => e = .returned (.tuple #[]) ∧ FB w c (encL p [.byte 0, .byte 1]) [(w.heap.size, mcc p l, 30)] w') := hide (fun c X h => FB.pbyte hs hr (o := 1) (ks := [.byte 0]) (r := .byte 2 :: .num 3 :: .num 8 :: .byte 9 :: .text 10 :: fin p) hp h)
  have HP2 : Hid (∀ c X, FB w c (encL p [.byte 0, .byte 1]) [(w.heap.size, mcc p l, 30)] X → Calls Tryz.prog 33 #[.pointer (some ⟨c, 0, none⟩), .int .i64 p.dst] X fun e w' => e = .returned (.tuple #[]) ∧ FB w c (encL p [.byte 0, .byte 1, .byte 2]) [(w.heap.size, mcc p l, 30)] w') := hide (fun c X h => FB.pbyte hs hr (o := 2) (ks := [.byte 0, .byte 1]) (r := .num 3 :: .num 8 :: .byte 9 :: .text 10 :: fin p) hp h)
  obtain ⟨r3, hr3⟩ : ∃ r, (p.shard).toNat = r := ⟨_, rfl⟩
  obtain ⟨-, za3, zb3⟩ := snd_ok hs hr (.num 3) (by rw [hp]; simp)
  have er3 : IntKind.u64.wrap p.shard = (r3 : Int) := by
    have z1 : 0 ≤ p.shard := za3
    have z2 : p.shard < _ := zb3
    rw [IntKind.wrap_u64]; omega
  have HP3 : Hid (∀ c X, FB w c (encL p [.byte 0, .byte 1, .byte 2]) [(w.heap.size, mcc p l, 30)] X → Calls Tryz.prog 34 #[.pointer (some ⟨c, 0, none⟩), .int .u64 (r3 : Nat)] X fun e w' => e = .returned (.tuple #[]) ∧ FB w c (encL p [.byte 0, .byte 1, .byte 2, .num 3]) [(w.heap.size, mcc p l, 30)] w') := hide (fun c X h => FB.pnum hs hr (o := 3) (ks := [.byte 0, .byte 1, .byte 2]) (r := .num 8 :: .byte 9 :: .text 10 :: fin p) hp hr3 h)
  clear za3 zb3 hr3
  obtain ⟨r8, hr8⟩ : ∃ r, (p.seq).toNat = r := ⟨_, rfl⟩
  obtain ⟨-, za8, zb8⟩ := snd_ok hs hr (.num 8) (by rw [hp]; simp)
  have er8 : IntKind.u64.wrap p.seq = (r8 : Int) := by
    have z1 : 0 ≤ p.seq := za8
    have z2 : p.seq < _ := zb8
    rw [IntKind.wrap_u64]; omega
  have HP4 : Hid (∀ c X, FB w c (encL p [.byte 0, .byte 1, .byte 2, .num 3]) [(w.heap.size, mcc p l, 30)] X → Calls Tryz.prog 34 #[.pointer (some ⟨c, 0, none⟩), .int .u64 (r8 : Nat)] X fun e w' => e = .returned (.tuple #[]) ∧ FB w c (encL p [.byte 0, .byte 1, .byte 2, .num 3, .num 8]) [(w.heap.size, mcc p l, 30)] w') := hide (fun c X h => FB.pnum hs hr (o := 8) (ks := [.byte 0, .byte 1, .byte 2, .num 3]) (r := .byte 9 :: .text 10 :: fin p) hp hr8 h)
  clear za8 zb8 hr8
  have HPL : Hid (∀ c X, FB w c (encL p [.byte 0, .byte 1, .byte 2, .num 3, .num 8]) [(w.heap.size, mcc p l, 30)] X → Calls Tryz.prog 35 #[.pointer (some ⟨c, 0, none⟩), .agg #[.int .i64 p.okind, .slice l.ka p.key.length l.kc, .slice l.va p.val.length l.vc, .int .i64 p.rev]] X fun e w' => e = .returned (.tuple #[]) ∧ FB w c (encL p ([.byte 0, .byte 1, .byte 2, .num 3, .num 8] ++ (.byte 9 :: .text 10 :: fin p))) [(w.heap.size, mcc p l, 30)] w') := hide (fun c X h => by
    have q := rlayOp_any h hm hk hg (by have := pre_len hs (ks := [.byte 0, .byte 1, .byte 2, .num 3, .num 8]) (r := .text 10 :: fin p) (k := .byte 9) hp; simp [encP] at this; have h9 : (encL p [.byte 0, .byte 1, .byte 2, .num 3, .num 8]).length ≤ 100 := HL9; omega)
    rw [show encL p ([.byte 0, .byte 1, .byte 2, .num 3, .num 8] ++ (.byte 9 :: .text 10 :: fin p)) = encL p [.byte 0, .byte 1, .byte 2, .num 3, .num 8] ++ encL p (.byte 9 :: .text 10 :: fin p) from by simp [encL]]
    exact q)
  have HFN : Hid (∀ c X, FB w c (encL p ([.byte 0, .byte 1, .byte 2, .num 3, .num 8] ++ (.byte 9 :: .text 10 :: fin p))) [(w.heap.size, mcc p l, 30)] X → Calls Tryz.prog 38 #[.pointer (some ⟨c, 0, none⟩)] X fun e w' => ∃ a cap, e = .returned (.tuple #[.slice a (body p).length cap, .int .i64 0]) ∧ Wide w' (.slice a (body p).length cap) (body p) ∧ Kept [] w w') := hide (fun c X h => FB.fin hp h)
  have HSU : Hid (∀ X x, Wide X x (body p) → Kept [] w X → Calls Tryz.prog 9 #[x] X (FoP w p)) := hide (fun X x hx k => sum_fin hs hr hb hx k)
  have k1 : (p.kind == 1) = true := by rw [beq_iff_eq]; omega
  have k2 : (p.kind == 2) = false := by rw [beq_eq_false_iff_ne]; omega
  have k3 : (p.kind == 3) = false := by rw [beq_eq_false_iff_ne]; omega
  clear hk hg HL9
  clear hm hs hr hb hp
  go_enter Tryz.func12, Tryz.ntmps12
  go_upto_region 1 with fail
  refine world_at (R := fun X => Blk X w.heap.size (mcc p l) 30 ∧ Kept [] w X) ⟨Blk.new _ _ _, (Kept.refl [] w).alloc _⟩ ?_
  rintro X0 ⟨hx, hk0⟩
  have HX := hide hx
  have HK := hide hk0
  clear hx hk0
  obtain ⟨c0, c1, c2, c3, c4, c5, c6, c7, c8, c9, c10, c11, c12, c13, c14, c15, c16, c17, c18, c19⟩ := box20 (unhide HX)
  go_wp2_with (first
    | (go_at_call 32; refine (FB.begin w X0 [(w.heap.size, mcc p l, 30)] (unhide HK) (fun x hx => by simp at hx; subst hx; exact unhide HX)).mono ?_; rintro e w1 ⟨cw, rfl, h⟩; clear c0 c1 c2 c3 c4 c5 c6 c7 c8 c9 c10 c11 c12 c13 c14 c15 c16 c17 c18 c19; obtain ⟨c0, c1, c2, c3, c4, c5, c6, c7, c8, c9, c10, c11, c12, c13, c14, c15, c16, c17, c18, c19⟩ := box20 (h.nth (i := 0) rfl); have H0 := hide h; clear h)
    | (go_at_call 33; refine (unhide HP0 _ _ (unhide H0)).mono ?_; rintro e w2 ⟨rfl, h⟩; clear c0 c1 c2 c3 c4 c5 c6 c7 c8 c9 c10 c11 c12 c13 c14 c15 c16 c17 c18 c19; obtain ⟨c0, c1, c2, c3, c4, c5, c6, c7, c8, c9, c10, c11, c12, c13, c14, c15, c16, c17, c18, c19⟩ := box20 (h.nth (i := 0) rfl); have H1 := hide h; clear h H0)
    | (go_at_call 33; refine (unhide HP1 _ _ (unhide H1)).mono ?_; rintro e w3 ⟨rfl, h⟩; clear c0 c1 c2 c3 c4 c5 c6 c7 c8 c9 c10 c11 c12 c13 c14 c15 c16 c17 c18 c19; obtain ⟨c0, c1, c2, c3, c4, c5, c6, c7, c8, c9, c10, c11, c12, c13, c14, c15, c16, c17, c18, c19⟩ := box20 (h.nth (i := 0) rfl); have H2 := hide h; clear h H1)
    | (go_at_call 33; refine (unhide HP2 _ _ (unhide H2)).mono ?_; rintro e w4 ⟨rfl, h⟩; clear c0 c1 c2 c3 c4 c5 c6 c7 c8 c9 c10 c11 c12 c13 c14 c15 c16 c17 c18 c19; obtain ⟨c0, c1, c2, c3, c4, c5, c6, c7, c8, c9, c10, c11, c12, c13, c14, c15, c16, c17, c18, c19⟩ := box20 (h.nth (i := 0) rfl); have H3 := hide h; clear h H2)
    | (go_at_call 34; refine (unhide HP3 _ _ (unhide H3)).mono ?_; rintro e w5 ⟨rfl, h⟩; clear c0 c1 c2 c3 c4 c5 c6 c7 c8 c9 c10 c11 c12 c13 c14 c15 c16 c17 c18 c19; obtain ⟨c0, c1, c2, c3, c4, c5, c6, c7, c8, c9, c10, c11, c12, c13, c14, c15, c16, c17, c18, c19⟩ := box20 (h.nth (i := 0) rfl); have H4 := hide h; clear h H3)
    | (go_at_call 34; refine (unhide HP4 _ _ (unhide H4)).mono ?_; rintro e w6 ⟨rfl, h⟩; clear c0 c1 c2 c3 c4 c5 c6 c7 c8 c9 c10 c11 c12 c13 c14 c15 c16 c17 c18 c19; obtain ⟨c0, c1, c2, c3, c4, c5, c6, c7, c8, c9, c10, c11, c12, c13, c14, c15, c16, c17, c18, c19⟩ := box20 (h.nth (i := 0) rfl); have H5 := hide h; clear h H4)
    | (go_at_call 35; refine (unhide HPL _ _ (unhide H5)).mono ?_; rintro e w7 ⟨rfl, h⟩; have HLY := hide h; clear h H5)
    | (go_at_call 38; refine (unhide HFN _ _ (unhide HLY)).mono ?_; rintro e wd ⟨ad, xd, rfl, hw, k⟩; have HWD := hide hw; have HKD := hide k; clear hw k HLY)
    | (go_at_call 9; refine (unhide HSU _ _ (unhide HWD) (unhide HKD)).mono ?_; rintro e ws ⟨asx, xs, rfl, ho, k⟩; have HFI := hide (And.intro ho k); clear ho k))
  go_ret
  exact ⟨asx, xs, rfl, (unhide HFI).1, (unhide HFI).2⟩
end Go.Proofs.YtfhfkpgfnlmfhaaGreatDoor

/- The document's Form of any sound message. -/
namespace Go.Proofs.YtfhfkpgfnlmfhaaGreatDoor
open Go.RowKit

theorem head_short {p : Ml} (h0 : 0 ≤ p.shard) (h1 : p.shard ≤ 63) (h2 : 1 ≤ p.seq) (h3 : p.seq ≤ 1073741824) : (encL p [.byte 0, .byte 1, .byte 2, .num 3, .num 8]).length ≤ 100 := by
  have a := form1 (n := p.shard.toNat) (by omega)
  have b := form_len 4 p.seq.toNat (by omega)
  have e : encL p [.byte 0, .byte 1, .byte 2, .num 3, .num 8] = [p.kind.toNat] ++ ([p.frm.toNat] ++ ([p.dst.toNat] ++ (form p.shard.toNat ++ form p.seq.toNat))) := by
    show _ ++ (_ ++ (_ ++ (_ ++ (_ ++ [])))) = _
    rw [List.append_nil]
    rfl
  rw [e]
  simp only [List.length_append, List.length_singleton]
  omega
theorem rform_any (w : World) (p : Ml) (l : Lm) (hm : MW w p l) (hs : snd p = true) : Calls Tryz.prog 12 #[.agg (mcc p l)] w (FoP w p) := by
  obtain ⟨hsh, hq | hr | ho | hh⟩ := (snd_iff p).1 hs
  · exact rform_Q w p l hm hs hq.1 hq.2.2.2.2.1 (head_short hsh.1 hsh.2 hq.2.2.2.1.1 hq.2.2.2.1.2)
  · obtain ⟨hk, -, -, -, -, hv, -⟩ := hr
    rcases hv with ⟨hv, -, -⟩ | ⟨hv, -, -⟩ | ⟨hv | hv, -, -⟩
    · cases hd : p.done
      · exact rform_R0f w p l hm hs hk hv hd
      · exact rform_R0t w p l hm hs hk hv hd
    · exact rform_R1 w p l hm hs hk hv
    · exact rform_R220 w p l hm hs hk hv
    · exact rform_R221 w p l hm hs hk hv
  · exact rform_O w p l hm hs ho.1
  · exact rform_H w p l hm hs hh.1.1
end Go.Proofs.YtfhfkpgfnlmfhaaGreatDoor
