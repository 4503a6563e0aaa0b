/- Texts laid one behind the other: XT XM XI XK XL0 XR XL. -/
import Derived.Test.YtfhfkpgfnlmfhaaGreatDoorPkV
import Derived.Deep.RegionWith
import Derived.Test.YtfhfkpgfnlmfhaaGreatDoorPkF
/- The taker's hand; a message that is being read. -/
namespace Go.Proofs.YtfhfkpgfnlmfhaaGreatDoor
open Go.RowKit

/-- Bytes that are new since w, in a block of their own. -/
def NewV (w : World) (bs : List Nat) (v : Value) (w' : World) : Prop := ∃ a cap, v = .slice a bs.length cap ∧ w'.ownsRow w.heap.size 5 1 v bs.length (u8s bs)
theorem NewV.kept {w W W' : World} {bs : List Nat} {v : Value} {G : List Nat} (h : NewV w bs v W) (k : Kept G W W') (hG : ∀ x, v.ownBlock = some x → x ∉ G) : NewV w bs v W' := by
  obtain ⟨a, cap, rfl, ho⟩ := h
  exact ⟨a, cap, rfl, own_kept ho k hG⟩
theorem NewV.lt {w W : World} {bs : List Nat} {v : Value} (h : NewV w bs v W) {x : Nat} (hx : v.ownBlock = some x) : w.heap.size ≤ x ∧ x < W.heap.size := by
  obtain ⟨a, cap, rfl, ho⟩ := h
  exact ho.lt x hx
theorem NewV.nil (w W : World) : NewV w [] (.slice none 0 0) W := ⟨none, 0, rfl, rfl, Or.inl ⟨rfl, rfl⟩⟩
theorem NewV.from {w w1 W : World} {bs : List Nat} {v : Value} (h : NewV w1 bs v W) (k : w.heap.size ≤ w1.heap.size) : NewV w bs v W := by
  obtain ⟨a, cap, rfl, ho⟩ := h
  exact ⟨a, cap, rfl, own_base ho (fun x hx => by have := ho.lt x hx; omega)⟩
def tkc (br : Nat) (odd : Bool) : Array Value := #[.pointer (some ⟨br, 0, none⟩), .bool odd]
/-- A taker at T over the reader at br in the state s. -/
structure Tk (w : World) (T br : Nat) (odd : Bool) (F : List Nat) (s : RS) : Prop where
  tk : Blk w T (tkc br odd) 76
  rd : Rs w br F s
  ft : T ∉ F
/-- A cell of a block behind a reader's call. -/
theorem Rs.cellQ {w w1 : World} {br X : Nat} {F : List Nat} {s' : RS} {cs : Array Value} {t : TypeId} (hX : Blk w X cs t) (hF : X ∉ F) (hp : RsQ w br F s' w1) (o : Nat) (ho : o < cs.size) : w1.cell? ⟨X, o, none⟩ = some cs[o] ∧ w1.frozen? ⟨X, o, none⟩ = false := by
  obtain ⟨F', h1, h2, h3⟩ := hp
  have hb := hX.kept h2 hF
  exact ⟨by rw [hb.cell o, Array.getElem?_eq_getElem ho], hb.frozen o⟩
theorem rfixed_q {w : World} {b : Nat} {F : List Nat} {s : RS} (h : Rs w b F s) (size : Int) :
    Calls Tryz.prog 14 #[.pointer (some ⟨b, 0, none⟩), .int .i64 size] w fun e w' => e = .returned (.int .u64 ((rFixed s size).2 : Nat)) ∧ RsQ w b F (rFixed s size).1 w' := by
  have h0 := h
  rcases h with ⟨h1, h2, _, _, rfl⟩ | ⟨h1, h3, h4, lv, bv, hs, D, h2, rfl⟩
  · refine (rfixed_fault h2 h1 size).mono ?_
    rintro e w' ⟨rfl, hk⟩
    rw [rFixed, if_pos h1]
    exact ⟨rfl, RsQ.same h0 hk⟩
  · rw [rFixed, if_neg (by simpa using h1)]
    by_cases hs1 : size < 1 ∨ 8 < size
    · rw [if_pos hs1]
      refine (rfixed_err h2.rd h3 size 2 (Or.inl ⟨hs1, rfl⟩)).mono ?_
      rintro e w' ⟨rfl, hr, hk⟩
      exact ⟨rfl, RsQ.err h0.mem (by omega) hr hk⟩
    · rw [if_neg hs1]
      by_cases hl : (s.left.length : Int) < size
      · rw [if_pos hl]
        refine (rfixed_err h2.rd h3 size 10 (Or.inr ⟨by omega, by omega, hl, rfl⟩)).mono ?_
        rintro e w' ⟨rfl, hr, hk⟩
        exact ⟨rfl, RsQ.err h0.mem (by omega) hr hk⟩
      · rw [if_neg hl]
        obtain ⟨k, hk⟩ := Int.eq_ofNat_of_zero_le (show 0 ≤ size by omega)
        subst hk
        refine (rfixed_ok h2.rd h3 k (by omega) (by omega) (by omega)).mono ?_
        rintro e w' ⟨rfl, hr, hk⟩
        exact ⟨rfl, RsQ.took h2 hr hk (fun y hy => h3 y (List.mem_of_mem_drop hy)) h4⟩

set_option maxRecDepth 100000 in
set_option maxHeartbeats 400000 in
theorem tbyte_any {w : World} {T br X o : Nat} {odd : Bool} {F : List Nat} {s : RS} {cs : Array Value} {t : TypeId} (h : Tk w T br odd F s) (hX : Blk w X cs t) (ho : o < cs.size) (hF : X ∉ F) :
    Calls Tryz.prog 107 #[ptr T, .pointer (some ⟨X, o, none⟩)] w fun e w' => e = .returned (.tuple #[]) ∧ ∃ w1, RsQ w br F (rByte s).1 w1 ∧ w' = w1.setCell ⟨X, o, none⟩ (.int .i64 ((rByte s).2 : Nat)) := by
  have HN := hide (rbyte_q h.rd)
  have HX := hide (And.intro hX hF)
  have t0 := h.tk.cell 0
  have t1 := h.tk.cell 1
  simp only [tkc, List.getElem?_toArray, List.getElem?_cons_zero, List.getElem?_cons_succ] at t0 t1
  unfold ptr at *
  clear h hX hF
  go_enter Tryz.func107, Tryz.ntmps107
  go_wp2_with (go_at_call 112; refine (unhide HN).mono ?_; rintro e w1 ⟨rfl, hk⟩; obtain ⟨c0, f0⟩ := Rs.cellQ (unhide HX).1 (unhide HX).2 hk o ho)
  go_end0
  exact ⟨rfl, w1, hk, rfl⟩
set_option maxRecDepth 100000 in
set_option maxHeartbeats 400000 in
theorem tnum_any {w : World} {T br X o : Nat} {odd : Bool} {F : List Nat} {s : RS} {cs : Array Value} {t : TypeId} (h : Tk w T br odd F s) (hX : Blk w X cs t) (ho : o < cs.size) (hF : X ∉ F) :
    Calls Tryz.prog 109 #[ptr T, .pointer (some ⟨X, o, none⟩)] w fun e w' => e = .returned (.tuple #[]) ∧ ∃ w1, RsQ w br F (rNum s).1 w1 ∧ w' = w1.setCell ⟨X, o, none⟩ (.int .i64 (toI (rNum s).2)) := by
  have HN := hide (rnum_q h.rd)
  have HX := hide (And.intro hX hF)
  have t0 := h.tk.cell 0
  have t1 := h.tk.cell 1
  simp only [tkc, List.getElem?_toArray, List.getElem?_cons_zero, List.getElem?_cons_succ] at t0 t1
  unfold ptr toI at *
  clear h hX hF
  go_enter Tryz.func109, Tryz.ntmps109
  go_wp2_with (go_at_call 113; refine (unhide HN).mono ?_; rintro e w1 ⟨rfl, hk⟩; obtain ⟨c0, f0⟩ := Rs.cellQ (unhide HX).1 (unhide HX).2 hk o ho)
  go_end0
  exact ⟨rfl, w1, hk, rfl⟩
set_option maxRecDepth 100000 in
set_option maxHeartbeats 400000 in
theorem troot_any {w : World} {T br X o : Nat} {odd : Bool} {F : List Nat} {s : RS} {cs : Array Value} {t : TypeId} (h : Tk w T br odd F s) (hX : Blk w X cs t) (ho : o < cs.size) (hF : X ∉ F) :
    Calls Tryz.prog 110 #[ptr T, .pointer (some ⟨X, o, none⟩)] w fun e w' => e = .returned (.tuple #[]) ∧ ∃ w1, RsQ w br F (rFixed s 8).1 w1 ∧ w' = w1.setCell ⟨X, o, none⟩ (.int .u64 ((rFixed s 8).2 : Nat)) := by
  have HN := hide (rfixed_q h.rd 8)
  have HX := hide (And.intro hX hF)
  have t0 := h.tk.cell 0
  have t1 := h.tk.cell 1
  simp only [tkc, List.getElem?_toArray, List.getElem?_cons_zero, List.getElem?_cons_succ] at t0 t1
  unfold ptr at *
  clear h hX hF
  go_enter Tryz.func110, Tryz.ntmps110
  go_wp2_with (go_at_call 14; refine (unhide HN).mono ?_; rintro e w1 ⟨rfl, hk⟩; obtain ⟨c0, f0⟩ := Rs.cellQ (unhide HX).1 (unhide HX).2 hk o ho)
  go_end0
  exact ⟨rfl, w1, hk, rfl⟩
set_option maxRecDepth 100000 in
set_option maxHeartbeats 400000 in
theorem ttext_any {w : World} {T br X o : Nat} {odd : Bool} {F : List Nat} {s : RS} {cs : Array Value} {t : TypeId} (h : Tk w T br odd F s) (hX : Blk w X cs t) (ho : o < cs.size) (hF : X ∉ F) :
    Calls Tryz.prog 111 #[ptr T, .pointer (some ⟨X, o, none⟩)] w fun e w' => e = .returned (.tuple #[]) ∧ ∃ w1 v, RsQ w br F (rText s 524288).1 w1 ∧ NewV w (rText s 524288).2 v w1 ∧ w' = w1.setCell ⟨X, o, none⟩ v := by
  have HN := hide (rtext_q h.rd 524288 (by omega))
  have HX := hide (And.intro hX hF)
  have t0 := h.tk.cell 0
  have t1 := h.tk.cell 1
  simp only [tkc, List.getElem?_toArray, List.getElem?_cons_zero, List.getElem?_cons_succ] at t0 t1
  unfold ptr at *
  clear h hX hF
  go_enter Tryz.func111, Tryz.ntmps111
  go_wp2_with (go_at_call 114; refine (unhide HN).mono ?_; rintro e w1 ⟨⟨a, c, rfl, hown⟩, hk⟩; obtain ⟨c0, f0⟩ := Rs.cellQ (unhide HX).1 (unhide HX).2 hk o ho)
  go_end0
  exact ⟨rfl, w1, _, hk, ⟨a, c, rfl, hown⟩, rfl⟩
set_option maxRecDepth 100000 in
set_option maxHeartbeats 400000 in
theorem tflag_any {w : World} {T br X o : Nat} {odd : Bool} {F : List Nat} {s : RS} {cs : Array Value} {t : TypeId} (h : Tk w T br odd F s) (hX : Blk w X cs t) (ho : o < cs.size) (hF : X ∉ F) (hXT : X ≠ T) :
    Calls Tryz.prog 108 #[ptr T, .pointer (some ⟨X, o, none⟩)] w fun e w' => e = .returned (.tuple #[]) ∧ ∃ w1, RsQ w br F (rByte s).1 w1 ∧ w' = (w1.setCell ⟨X, o, none⟩ (.bool (decide ((rByte s).2 = 1)))).setCell ⟨T, 1, none⟩ (.bool (decide (1 < (rByte s).2))) := by
  have HN := hide (rbyte_q h.rd)
  have HX := hide (And.intro hX hF)
  have HT := hide (And.intro h.tk h.ft)
  have t0 := h.tk.cell 0
  have t1 := h.tk.cell 1
  simp only [tkc, List.getElem?_toArray, List.getElem?_cons_zero, List.getElem?_cons_succ] at t0 t1
  have hTX := Ne.symm hXT
  unfold ptr at *
  clear h hX hF
  generalize hn : (rByte s).2 = n at *
  have e1 : ((n : Int) == 1) = decide (n = 1) := by rw [Bool.eq_iff_iff]; simp; omega
  go_enter Tryz.func108, Tryz.ntmps108
  go_wp2_with (go_at_call 112; refine (unhide HN).mono ?_; rintro e w1 ⟨rfl, hk⟩; obtain ⟨c0, f0⟩ := Rs.cellQ (unhide HX).1 (unhide HX).2 hk o ho; obtain ⟨d0, g0⟩ := Rs.cellQ (unhide HT).1 (unhide HT).2 hk 0 (by simp [tkc]); obtain ⟨d1, g1⟩ := Rs.cellQ (unhide HT).1 (unhide HT).2 hk 1 (by simp [tkc]); simp only [tkc, List.getElem_toArray, List.getElem_cons_zero, List.getElem_cons_succ] at d0 d1)
  go_end0
  refine ⟨rfl, w1, hk, ?_⟩
  have e2 : decide ((1 : Int) < n) = decide (1 < n) := by rw [Bool.eq_iff_iff]; simp; omega
  have e3 : decide ((n : Int) = 1) = decide (n = 1) := by rw [Bool.eq_iff_iff]; simp; omega
  try rw [e2]
  try rw [e3]
end Go.Proofs.YtfhfkpgfnlmfhaaGreatDoor

/- A message that is being read, in memory: one piece more. -/
namespace Go.Proofs.YtfhfkpgfnlmfhaaGreatDoor
open Go.RowKit

def slT (l : Lm) (p : Ml) : Nat → Value
  | 6 => .slice l.ca p.copy.length l.cc
  | 10 => .slice l.ka p.key.length l.kc
  | 11 => .slice l.va p.val.length l.vc
  | 15 => .slice l.xa p.akey.length l.xc
  | _ => .slice l.ya p.aval.length l.yc
def isT (o : Nat) : Prop := o = 6 ∨ o = 10 ∨ o = 11 ∨ o = 15 ∨ o = 16
/-- The cells of numbers. -/
def isN (o : Nat) : Prop := o = 0 ∨ o = 1 ∨ o = 2 ∨ o = 3 ∨ o = 4 ∨ o = 8 ∨ o = 9 ∨ o = 12 ∨ o = 13 ∨ o = 17 ∨ o = 18 ∨ o = 19
/-- The message at B, its taker at T, the reader at br; its lists are new since w, each in a block of its own. -/
structure DM (w : World) (B T br : Nat) (s : Rdm) (l : Lm) (F : List Nat) (W : World) : Prop where
  blk : Blk W B (mcc s.ml l) 30
  tk : Tk W T br s.odd F s.rs
  fb : B ∉ F
  bt : B ≠ T
  nw : ∀ o, isT o → NewV w (getT s.ml o) (slT l s.ml o) W
  ow : ∀ o, isT o → ∀ x, (slT l s.ml o).ownBlock = some x → x ∉ B :: T :: F
  ap : ∀ o q, isT o → isT q → o ≠ q → ∀ x, (slT l s.ml o).ownBlock = some x → (slT l s.ml q).ownBlock ≠ some x
  kept : Kept [] w W
  bw : w.heap.size ≤ B
  tw : w.heap.size ≤ T
  fw : ∀ x ∈ F, w.heap.size ≤ x

theorem DM.quiet {w : World} {B T br : Nat} {s : Rdm} {l : Lm} {F : List Nat} {W W' : World} (h : DM w B T br s l F W) (k : Kept [] W W') : DM w B T br s l F W' :=
  ⟨h.blk.kept k (by simp), ⟨h.tk.tk.kept k (by simp), h.tk.rd.kept k (by simp), h.tk.ft⟩, h.fb, h.bt, fun o ho => (h.nw o ho).kept k (by simp), h.ow, h.ap, h.kept.step k, h.bw, h.tw, h.fw⟩
theorem DM.lts {w : World} {B T br : Nat} {s : Rdm} {l : Lm} {F : List Nat} {W : World} (h : DM w B T br s l F W) : ∀ x ∈ B :: T :: F, x < W.heap.size := by
  intro x hx
  simp at hx
  rcases hx with rfl | rfl | hx
  · exact h.blk.lt
  · exact h.tk.tk.lt
  · exact h.tk.rd.lt x hx
/-- The cells of the message, and of the taker, are turned as said; its lists are given anew. -/
theorem DM.put {w : World} {B T br : Nat} {s s2 : Rdm} {l l2 : Lm} {F F' : List Nat} {W w1 W2 : World} (h : DM w B T br s l F W) (h1 : Rs w1 br F' s2.rs) (h2 : Kept F W w1) (h3 : ∀ x ∈ F', x ∈ F) (k2 : Kept [B, T] w1 W2) (hb : Blk W2 B (mcc s2.ml l2) 30) (ht : Blk W2 T (tkc br s2.odd) 76)
    (hl : ∀ o, isT o → (getT s2.ml o = getT s.ml o ∧ slT l2 s2.ml o = slT l s.ml o) ∨ NewV W (getT s2.ml o) (slT l2 s2.ml o) w1)
    (hu : ∀ o q, isT o → isT q → o ≠ q → (getT s2.ml o = getT s.ml o ∧ slT l2 s2.ml o = slT l s.ml o) ∨ (getT s2.ml q = getT s.ml q ∧ slT l2 s2.ml q = slT l s.ml q)) :
    DM w B T br s2 l2 F' W2 := by
  have hlt := h.lts
  have hF' : ∀ x ∈ F', x ∉ [B, T] := fun x hx hm => by
    simp at hm
    rcases hm with rfl | rfl
    · exact h.fb (h3 _ hx)
    · exact h.tk.ft (h3 _ hx)
  have hsub : ∀ x, x ∉ B :: T :: F → x ∉ B :: T :: F' := fun x hx hm => hx (by
    simp at hm ⊢
    rcases hm with h4 | h4 | h4
    · exact Or.inl h4
    · exact Or.inr (Or.inl h4)
    · exact Or.inr (Or.inr (h3 x h4)))
  have hall : Kept (B :: T :: F) W W2 := (h2.mono (fun x hx => Or.inl (by simp [hx]))).trans k2 (fun x hx => Or.inl (by simp at hx ⊢; rcases hx with rfl | rfl <;> simp))
  have hge : ∀ o, isT o → ∀ x, NewV W (getT s2.ml o) (slT l2 s2.ml o) w1 → (slT l2 s2.ml o).ownBlock = some x → W.heap.size ≤ x := fun o ho x hv hx => (hv.lt hx).1
  refine ⟨hb, ⟨ht, h1.kept k2 hF', fun hm => h.tk.ft (h3 _ hm)⟩, fun hm => h.fb (h3 _ hm), h.bt, ?_, ?_, ?_, ?_, h.bw, h.tw, fun x hx => h.fw x (h3 x hx)⟩
  · intro o ho
    rcases hl o ho with ⟨e1, e2⟩ | hv
    · rw [e1, e2]
      exact (h.nw o ho).kept hall (h.ow o ho)
    · refine (hv.from h.kept.size).kept k2 (fun x hx hm => ?_)
      have g1 := hge o ho x hv hx
      have g2 := hlt x (by simp at hm ⊢; rcases hm with rfl | rfl <;> simp)
      omega
  · intro o ho x hx
    rcases hl o ho with ⟨e1, e2⟩ | hv
    · rw [e2] at hx
      exact hsub x (h.ow o ho x hx)
    · refine hsub x (fun hm => ?_)
      have g1 := hge o ho x hv hx
      have g2 := hlt x hm
      omega
  · intro o q ho hq hoq x hx e
    rcases hl o ho with ⟨e1, e2⟩ | hv
    · rcases hl q hq with ⟨e3, e4⟩ | hv2
      · rw [e2] at hx
        rw [e4] at e
        exact h.ap o q ho hq hoq x hx e
      · rw [e2] at hx
        have g1 := ((h.nw o ho).lt hx).2
        have g2 := hge q hq x hv2 e
        omega
    · rcases hl q hq with ⟨e3, e4⟩ | hv2
      · rw [e4] at e
        have g1 := ((h.nw q hq).lt e).2
        have g2 := hge o ho x hv hx
        omega
      · rcases hu o q ho hq hoq with ⟨_, e2⟩ | ⟨_, e2⟩
        · rw [e2] at hx
          have g1 := ((h.nw o ho).lt hx).2
          have g2 := hge o ho x hv (by rw [e2]; exact hx)
          omega
        · rw [e2] at e
          have g1 := ((h.nw q hq).lt e).2
          have g2 := hge q hq x hv2 (by rw [e2]; exact e)
          omega
  · exact h.kept.trans hall (fun x hx => Or.inr (by
      simp at hx
      rcases hx with rfl | rfl | hx
      · exact h.bw
      · exact h.tw
      · exact h.fw x hx))
/-- Behind a piece. -/
def DMP (w : World) (B T br : Nat) (s2 : Rdm) (F : List Nat) (W W' : World) : Prop := ∃ l' F', DM w B T br s2 l' F' W' ∧ (∀ x ∈ F', x ∈ F) ∧ Kept (B :: T :: F) W W'
theorem DM.putP {w : World} {B T br : Nat} {s s2 : Rdm} {l l2 : Lm} {F F' : List Nat} {W w1 W2 : World} (h : DM w B T br s l F W) (h1 : Rs w1 br F' s2.rs) (h2 : Kept F W w1) (h3 : ∀ x ∈ F', x ∈ F) (k2 : Kept [B, T] w1 W2) (hb : Blk W2 B (mcc s2.ml l2) 30) (ht : Blk W2 T (tkc br s2.odd) 76)
    (hl : ∀ o, isT o → (getT s2.ml o = getT s.ml o ∧ slT l2 s2.ml o = slT l s.ml o) ∨ NewV W (getT s2.ml o) (slT l2 s2.ml o) w1)
    (hu : ∀ o q, isT o → isT q → o ≠ q → (getT s2.ml o = getT s.ml o ∧ slT l2 s2.ml o = slT l s.ml o) ∨ (getT s2.ml q = getT s.ml q ∧ slT l2 s2.ml q = slT l s.ml q)) : DMP w B T br s2 F W W2 :=
  ⟨l2, F', h.put h1 h2 h3 k2 hb ht hl hu, h3, (h2.mono (fun x hx => Or.inl (by simp [hx]))).trans k2 (fun x hx => Or.inl (by simp at hx ⊢; rcases hx with rfl | rfl <;> simp))⟩

theorem setN_T (p : Ml) (n : Int) (o q : Nat) (l : Lm) : getT (setN p n o) q = getT p q ∧ slT l (setN p n o) q = slT l p q := by
  unfold setN
  split <;> exact ⟨rfl, rfl⟩
theorem mcc_set (p : Ml) (l : Lm) (n : Int) {o : Nat} (ho : isN o) : (mcc p l).setIfInBounds o (.int .i64 n) = mcc (setN p n o) l := by
  rcases ho with rfl | rfl | rfl | rfl | rfl | rfl | rfl | rfl | rfl | rfl | rfl | rfl <;> rfl
theorem mcc_size (p : Ml) (l : Lm) : (mcc p l).size = 20 := rfl
/-- A number taken up. -/
theorem DM.num {w : World} {B T br : Nat} {s : Rdm} {l : Lm} {F : List Nat} {W w1 : World} {s' : RS} (h : DM w B T br s l F W) (hp : RsQ W br F s' w1) {o : Nat} (ho : isN o) (n : Int) : DMP w B T br ⟨s', setN s.ml n o, s.odd⟩ F W (w1.setCell ⟨B, o, none⟩ (.int .i64 n)) := by
  obtain ⟨F', h1, h2, h3⟩ := hp
  have hb := (h.blk.kept h2 h.fb).set o (.int .i64 n)
  rw [mcc_set _ _ _ ho] at hb
  exact h.putP h1 h2 h3 ((Kept.refl [B, T] w1).setCell (Or.inl (by simp)) _) hb ((h.tk.tk.kept h2 h.tk.ft).other _ (by exact fun e => h.bt e.symm) _) (fun q _ => Or.inl (setN_T _ _ _ _ _)) (fun q r _ _ _ => Or.inl (setN_T _ _ _ _ _))
theorem DM.root {w : World} {B T br : Nat} {s : Rdm} {l : Lm} {F : List Nat} {W w1 : World} {s' : RS} (h : DM w B T br s l F W) (hp : RsQ W br F s' w1) (n : Nat) : DMP w B T br ⟨s', { s.ml with root := n }, s.odd⟩ F W (w1.setCell ⟨B, 5, none⟩ (.int .u64 n)) := by
  obtain ⟨F', h1, h2, h3⟩ := hp
  have hb := (h.blk.kept h2 h.fb).set 5 (.int .u64 n)
  have hs : ∀ q, getT { s.ml with root := n } q = getT s.ml q ∧ slT l { s.ml with root := n } q = slT l s.ml q := fun q => ⟨rfl, rfl⟩
  exact h.putP h1 h2 h3 ((Kept.refl [B, T] w1).setCell (Or.inl (by simp)) _) hb ((h.tk.tk.kept h2 h.tk.ft).other _ (by exact fun e => h.bt e.symm) _) (fun q _ => Or.inl (hs q)) (fun q r _ _ _ => Or.inl (hs q))
theorem DM.flag {w : World} {B T br : Nat} {s : Rdm} {l : Lm} {F : List Nat} {W w1 : World} {s' : RS} (h : DM w B T br s l F W) (hp : RsQ W br F s' w1) (d od : Bool) : DMP w B T br ⟨s', { s.ml with done := d }, od⟩ F W ((w1.setCell ⟨B, 14, none⟩ (.bool d)).setCell ⟨T, 1, none⟩ (.bool od)) := by
  obtain ⟨F', h1, h2, h3⟩ := hp
  have hb := (h.blk.kept h2 h.fb).set 14 (.bool d)
  have ht := ((h.tk.tk.kept h2 h.tk.ft).other (⟨B, 14, none⟩ : Addr) (by exact fun e => h.bt e.symm) (.bool d)).set 1 (.bool od)
  have hs : ∀ q, getT { s.ml with done := d } q = getT s.ml q ∧ slT l { s.ml with done := d } q = slT l s.ml q := fun q => ⟨rfl, rfl⟩
  exact h.putP h1 h2 h3 (((Kept.refl [B, T] w1).setCell (Or.inl (by simp)) _).setCell (Or.inl (by simp)) _) (hb.other _ (by exact h.bt) _) ht (fun q _ => Or.inl (hs q)) (fun q r _ _ _ => Or.inl (hs q))
/-- Where a list lies, given anew. -/
def setL (l : Lm) (a : Option Addr) (c : Nat) : Nat → Lm
  | 6 => { l with ca := a, cc := c }
  | 10 => { l with ka := a, kc := c }
  | 11 => { l with va := a, vc := c }
  | 15 => { l with xa := a, xc := c }
  | _ => { l with ya := a, yc := c }
theorem mcc_setT (p : Ml) (l : Lm) (a : Option Addr) (c : Nat) (bs : List Nat) {o : Nat} (ho : isT o) : (mcc p l).setIfInBounds o (.slice a bs.length c) = mcc (setT p bs o) (setL l a c o) := by
  rcases ho with rfl | rfl | rfl | rfl | rfl <;> rfl
theorem setT_T (p : Ml) (l : Lm) (a : Option Addr) (c : Nat) (bs : List Nat) {o q : Nat} (ho : isT o) (hq : isT q) : (o ≠ q ∧ getT (setT p bs o) q = getT p q ∧ slT (setL l a c o) (setT p bs o) q = slT l p q) ∨ (o = q ∧ getT (setT p bs o) q = bs ∧ slT (setL l a c o) (setT p bs o) q = .slice a bs.length c) := by
  rcases ho with rfl | rfl | rfl | rfl | rfl <;> rcases hq with rfl | rfl | rfl | rfl | rfl <;> first | exact Or.inl ⟨by omega, rfl, rfl⟩ | exact Or.inr ⟨rfl, rfl, rfl⟩
theorem DM.text {w : World} {B T br : Nat} {s : Rdm} {l : Lm} {F : List Nat} {W w1 : World} {s' : RS} (h : DM w B T br s l F W) (hp : RsQ W br F s' w1) {o : Nat} (ho : isT o) {v : Value} {bs : List Nat} (hv : NewV W bs v w1) : DMP w B T br ⟨s', setT s.ml bs o, s.odd⟩ F W (w1.setCell ⟨B, o, none⟩ v) := by
  obtain ⟨F', h1, h2, h3⟩ := hp
  have hv0 := hv
  obtain ⟨a, c, rfl, _⟩ := hv
  have hb := (h.blk.kept h2 h.fb).set o (.slice a bs.length c)
  rw [mcc_setT _ _ _ _ _ ho] at hb
  refine h.putP h1 h2 h3 ((Kept.refl [B, T] w1).setCell (Or.inl (by simp)) _) hb ((h.tk.tk.kept h2 h.tk.ft).other _ (by exact fun e => h.bt e.symm) _) (fun q hq => ?_) (fun q r hq hr hqr => ?_)
  · rcases setT_T s.ml l a c bs ho hq with ⟨_, e1, e2⟩ | ⟨_, e1, e2⟩
    · exact Or.inl ⟨e1, e2⟩
    · refine Or.inr ?_
      show NewV W (getT (setT s.ml bs o) q) (slT (setL l a c o) (setT s.ml bs o) q) w1
      rw [e1, e2]
      exact hv0
  · rcases setT_T s.ml l a c bs ho hq with ⟨_, e1, e2⟩ | ⟨e0, _, _⟩
    · exact Or.inl ⟨e1, e2⟩
    · rcases setT_T s.ml l a c bs ho hr with ⟨_, e1, e2⟩ | ⟨e3, _, _⟩
      · exact Or.inr ⟨e1, e2⟩
      · exact absurd (e0.symm.trans e3) hqr
end Go.Proofs.YtfhfkpgfnlmfhaaGreatDoor

/- Which function a hand's method is. -/
namespace Go.Proofs.YtfhfkpgfnlmfhaaGreatDoor
open Go.RowKit

theorem mt_byte (T : Nat) (w : World) : (method 229 74 (.pointer (some ⟨T, 0, none⟩)) "haulage/mail.byte").run Tryz.prog w = .ok (107, .pointer (some ⟨T, 0, none⟩)) w := by kernel_rfl
theorem nt_byte (T : Nat) (w : World) : (nilAhead 229 74 (.pointer (some ⟨T, 0, none⟩)) "haulage/mail.byte").run Tryz.prog w = .ok (some false) w := by kernel_rfl
theorem mt_num (T : Nat) (w : World) : (method 229 74 (.pointer (some ⟨T, 0, none⟩)) "haulage/mail.num").run Tryz.prog w = .ok (109, .pointer (some ⟨T, 0, none⟩)) w := by kernel_rfl
theorem nt_num (T : Nat) (w : World) : (nilAhead 229 74 (.pointer (some ⟨T, 0, none⟩)) "haulage/mail.num").run Tryz.prog w = .ok (some false) w := by kernel_rfl
theorem mt_flag (T : Nat) (w : World) : (method 229 74 (.pointer (some ⟨T, 0, none⟩)) "haulage/mail.flag").run Tryz.prog w = .ok (108, .pointer (some ⟨T, 0, none⟩)) w := by kernel_rfl
theorem nt_flag (T : Nat) (w : World) : (nilAhead 229 74 (.pointer (some ⟨T, 0, none⟩)) "haulage/mail.flag").run Tryz.prog w = .ok (some false) w := by kernel_rfl
theorem mt_root (T : Nat) (w : World) : (method 229 74 (.pointer (some ⟨T, 0, none⟩)) "haulage/mail.root").run Tryz.prog w = .ok (110, .pointer (some ⟨T, 0, none⟩)) w := by kernel_rfl
theorem nt_root (T : Nat) (w : World) : (nilAhead 229 74 (.pointer (some ⟨T, 0, none⟩)) "haulage/mail.root").run Tryz.prog w = .ok (some false) w := by kernel_rfl
theorem mt_text (T : Nat) (w : World) : (method 229 74 (.pointer (some ⟨T, 0, none⟩)) "haulage/mail.text").run Tryz.prog w = .ok (111, .pointer (some ⟨T, 0, none⟩)) w := by kernel_rfl
theorem nt_text (T : Nat) (w : World) : (nilAhead 229 74 (.pointer (some ⟨T, 0, none⟩)) "haulage/mail.text").run Tryz.prog w = .ok (some false) w := by kernel_rfl
end Go.Proofs.YtfhfkpgfnlmfhaaGreatDoor

/- A message that is being laid down; the layer's hand, piece by piece. -/
namespace Go.Proofs.YtfhfkpgfnlmfhaaGreatDoor
open Go.RowKit

/-- A writer with these bytes, nothing open, no fault. -/
def wOf (bs : List Nat) : WS := ⟨262168, bs, [], 0⟩
theorem wLay_fit {bs ps : List Nat} (h : (bs ++ ps).length ≤ 262168) : wLay (wOf bs) ps = wOf (bs ++ ps) := by
  unfold wLay wOf
  simp at h ⊢
  omega
/-- May a piece be laid? -/
def okP (p : Ml) : Pc → Prop
  | .byte o => isN o ∧ 0 ≤ getN p o ∧ getN p o < 256
  | .num o => isN o ∧ 0 ≤ getN p o ∧ getN p o < 9223372036854775808
  | .flag => True
  | .root => p.root < 18446744073709551616
  | .text o => isT o ∧ (getT p o).length ≤ 262144
/-- The lists of a message, outside the blocks F. -/
def MFar (w : World) (p : Ml) (l : Lm) (F : List Nat) : Prop := ∀ o, isT o → Far w (slT l p o) (getT p o) F
theorem Far.go {w w' : World} {v : Value} {bs F F' : List Nat} (h : Far w v bs F) (k : Kept F w w') (hF : ∀ x ∈ F', x ∈ F ∨ w.heap.size ≤ x) : Far w' v bs F' := by
  rcases h with ⟨h, hn⟩ | h
  · refine Or.inl ⟨h.kept k hn, fun x hx hm => ?_⟩
    rcases hF x hm with h1 | h1
    · exact hn x hx h1
    · have := h.lt hx; omega
  · exact Or.inr h
theorem encL_append (p : Ml) (a b : List Pc) : encL p (a ++ b) = encL p a ++ encL p b := by simp [encL]
theorem encL_one (p : Ml) (c : Pc) : encL p [c] = encP p c := by simp [encL]
theorem encL_cons (p : Ml) (c : Pc) (ks : List Pc) : encL p (c :: ks) = encP p c ++ encL p ks := by simp [encL]
theorem getN_cell {W : World} {B : Nat} {p : Ml} {l : Lm} (h : Blk W B (mcc p l) 30) {o : Nat} (ho : isN o) : W.cell? ⟨B, o, none⟩ = some (.int .i64 (getN p o)) := by
  rcases ho with rfl | rfl | rfl | rfl | rfl | rfl | rfl | rfl | rfl | rfl | rfl | rfl <;> exact h.cell _
theorem slT_cell {W : World} {B : Nat} {p : Ml} {l : Lm} (h : Blk W B (mcc p l) 30) {o : Nat} (ho : isT o) : W.cell? ⟨B, o, none⟩ = some (slT l p o) := by
  rcases ho with rfl | rfl | rfl | rfl | rfl <;> exact h.cell _
theorem slT_slice (p : Ml) (l : Lm) {o : Nat} (ho : isT o) : ∃ a c, slT l p o = .slice a (getT p o).length c := by
  rcases ho with rfl | rfl | rfl | rfl | rfl <;> exact ⟨_, _, rfl⟩
theorem MFar.sub {w : World} {p : Ml} {l : Lm} {B : Nat} {F : List Nat} (h : MFar w p l (B :: F)) {o : Nat} (ho : isT o) : Far w (slT l p o) (getT p o) F := by
  rcases h o ho with ⟨h1, h2⟩ | h1
  · exact Or.inl ⟨h1, fun x hx hm => h2 x hx (by simp [hm])⟩
  · exact Or.inr h1
end Go.Proofs.YtfhfkpgfnlmfhaaGreatDoor

/- goOver with the layer's hand. -/
namespace Go.Proofs.YtfhfkpgfnlmfhaaGreatDoor
open Go.RowKit

/-- What stands behind an op's key; behind a verdict. -/
def opG (p : Ml) : List Pc := if p.okind = 2 then [.text 11] else if p.okind = 4 then [.text 11, .num 12] else []
def veG (p : Ml) : List Pc := if p.verd = 0 then [.flag, .text 15, .text 16, .num 17, .num 18] else if p.verd = 220 ∨ p.verd = 221 then [.byte 19] else []
theorem pcs_1 {p : Ml} (h : p.kind = 1) : mid p ++ fin p = .num 8 :: .byte 9 :: .text 10 :: opG p := by
  unfold mid fin opG
  rw [if_pos h, if_pos h]
  rfl
theorem pcs_2 {p : Ml} (h : p.kind = 2) : mid p ++ fin p = .num 8 :: .num 13 :: veG p := by
  unfold mid fin veG
  rw [if_neg (by omega), if_pos h, if_neg (by omega), if_pos h]
  rfl
theorem pcs_3 {p : Ml} (h : p.kind = 3) : mid p ++ fin p = [.num 4, .root, .text 6] := by
  unfold mid fin
  rw [if_neg (by omega), if_neg (by omega), if_pos h, if_neg (by omega), if_neg (by omega)]
  rfl
theorem pcs_4 {p : Ml} (h1 : p.kind ≠ 1) (h2 : p.kind ≠ 2) (h3 : p.kind ≠ 3) : mid p ++ fin p = [.num 4] := by
  unfold mid fin
  rw [if_neg h1, if_neg h2, if_neg h3, if_neg h1, if_neg h2]
  rfl
theorem pcs_0 (p : Ml) : pieces p = .byte 0 :: .byte 1 :: .byte 2 :: .num 3 :: (mid p ++ fin p) := rfl
end Go.Proofs.YtfhfkpgfnlmfhaaGreatDoor

/- Sound messages, in plain words: kind by kind; how long their forms are; that they may be laid. -/
namespace Go.Proofs.YtfhfkpgfnlmfhaaGreatDoor
open Go.RowKit

def noOpP (p : Ml) : Prop := p.okind = 0 ∧ p.key = [] ∧ p.val = [] ∧ p.rev = 0
def noAnsP (p : Ml) : Prop := p.done = false ∧ p.akey = [] ∧ p.aval = [] ∧ p.arev = 0 ∧ p.aat = 0
def noVerdP (p : Ml) : Prop := p.verd = 0 ∧ noAnsP p ∧ p.hint = 0
def noTransP (p : Ml) : Prop := p.epoch = 0 ∧ p.root = 0 ∧ p.copy = []
def shardP (p : Ml) : Prop := 0 ≤ p.shard ∧ p.shard ≤ 63
def cliP (c n : Int) : Prop := 0 ≤ c ∧ c ≤ 15 ∧ n = 100 + c
def srvP (n : Int) : Prop := 0 ≤ n ∧ n ≤ 7
def seqP (n : Int) : Prop := 1 ≤ n ∧ n ≤ 1073741824
def fitP (p : Ml) : Prop := (p.akey = [] → p.aval = [] ∧ p.arev = 0) ∧ p.akey.length ≤ 64 ∧ p.aval.length ≤ 256 ∧ 0 ≤ p.aat ∧ p.aat ≤ 1099511627776 ∧ 0 ≤ p.arev ∧ p.arev ≤ p.aat
def verdP (p : Ml) : Prop := (p.verd = 0 ∧ fitP p ∧ p.hint = 0) ∨ ((p.verd = 181 ∨ p.verd = 182) ∧ noAnsP p ∧ p.hint = 0) ∨ ((p.verd = 220 ∨ p.verd = 221) ∧ noAnsP p ∧ srvP p.hint)
def isQ (p : Ml) : Prop := p.kind = 1 ∧ cliP p.client p.frm ∧ srvP p.dst ∧ seqP p.seq ∧ rgt p.okind p.key.length p.val.length p.rev = true ∧ noVerdP p ∧ noTransP p
def isR (p : Ml) : Prop := p.kind = 2 ∧ srvP p.frm ∧ cliP p.client p.dst ∧ seqP p.seq ∧ noOpP p ∧ verdP p ∧ noTransP p
def handP (p : Ml) : Prop := srvP p.frm ∧ srvP p.dst ∧ p.frm ≠ p.dst ∧ seqP p.epoch ∧ p.client = 0 ∧ p.seq = 0 ∧ noOpP p ∧ noVerdP p
def isO (p : Ml) : Prop := p.kind = 3 ∧ p.copy.length ≤ 262144 ∧ handP p
def isH (p : Ml) : Prop := (4 ≤ p.kind ∧ p.kind ≤ 8) ∧ handP p ∧ p.root = 0 ∧ p.copy = []
theorem ansB_iff (p : Ml) : ansB p = true ↔ noAnsP p := by simp [ansB, bla, noAnsP]
theorem opB_iff (p : Ml) : opB p = true ↔ noOpP p := by simp [opB, blo, noOpP]
theorem noVerd_iff (p : Ml) : noVerd p = true ↔ noVerdP p := by simp [noVerd, noVerdP, ansB_iff, and_assoc]
theorem noTrans_iff (p : Ml) : noTrans p = true ↔ noTransP p := by simp [noTrans, noTransP, noCopy]
theorem noCall_iff (p : Ml) : noCall p = true ↔ p.client = 0 ∧ p.seq = 0 ∧ noOpP p ∧ noVerdP p := by simp [noCall, opB_iff, noVerd_iff, and_assoc]
theorem cli_iff (c n : Int) : cli c n = true ↔ cliP c n := by simp [cli, wthn, cliP, and_assoc]
theorem srv_iff (n : Int) : srv n = true ↔ srvP n := by simp [srv, wthn, srvP]
theorem seq_iff (n : Int) : seqB n = true ↔ seqP n := by simp [seqB, wthn, seqP]
theorem fit_iff (p : Ml) : fitB p = true ↔ fitP p := by
  simp [fitB, fit, fitP]
  intros
  exact Decidable.imp_iff_not_or.symm
theorem verd_iff (p : Ml) : sVerd p = true ↔ verdP p := by
  unfold sVerd verdP
  split
  · rename_i h
    simp [srv_iff, ansB_iff, h]
    constructor
    · rintro ⟨a, b⟩; exact Or.inr (Or.inr ⟨b, a⟩)
    · rintro (⟨a, _⟩ | ⟨a, _⟩ | ⟨b, a⟩)
      · omega
      · omega
      · exact ⟨a, b⟩
  · rename_i h
    split
    · rename_i h2
      simp [ansB_iff, h, h2]
      omega
    · rename_i h2
      split
      · rename_i h3
        simp [fit_iff, h3]
      · rename_i h3
        simp [h, h2, h3]
theorem hand_iff (p : Ml) : hand p = true ↔ handP p := by simp [hand, handP, srv_iff, noCall_iff, wthn, seqP, and_assoc]
theorem snd_iff (p : Ml) : snd p = true ↔ shardP p ∧ (isQ p ∨ isR p ∨ isO p ∨ isH p) := by
  unfold snd sKind
  rw [Bool.and_eq_true]
  have e : wthn p.shard 0 63 = true ↔ shardP p := by simp [wthn, shardP]
  rw [e]
  refine and_congr Iff.rfl ?_
  unfold isQ isR isO isH
  split
  · rename_i h
    simp [h, cli_iff, srv_iff, seq_iff, noVerd_iff, noTrans_iff, and_assoc]
  · rename_i h1
    split
    · rename_i h
      simp [h, cli_iff, srv_iff, seq_iff, opB_iff, verd_iff, noTrans_iff, and_assoc]
    · rename_i h2
      split
      · rename_i h
        simp [h, hand_iff]
      · rename_i h3
        split
        · rename_i h
          simp [h1, h2, h3, h, hand_iff, noCopy]
        · rename_i h
          simp [h1, h2, h3, h]
/-- Which ops are right. -/
theorem rgt_iff {k : Int} {kl vl : Nat} {rev : Int} (h : rgt k kl vl rev = true) : (1 ≤ k ∧ k ≤ 5) ∧ kl ≤ 65 ∧ vl ≤ 256 ∧ (0 ≤ rev ∧ rev ≤ 1099511627776) ∧ (k ≠ 2 → k ≠ 4 → vl = 0) ∧ (k ≠ 4 → rev = 0) := by
  unfold rgt at h
  split at h
  · simp at h; omega
  · split at h
    · simp at h; omega
    · split at h
      · simp at h; omega
      · split at h
        · simp at h; omega
        · cases h
theorem encL_nil (p : Ml) : encL p [] = [] := rfl
theorem form1 {n : Nat} (h : n < 128) : (form n).length = 1 := by rw [form_small h]; rfl
/-- The pieces, kind by kind. -/
theorem body_0 (p : Ml) : body p = [p.kind.toNat] ++ ([p.frm.toNat] ++ ([p.dst.toNat] ++ (form p.shard.toNat ++ encL p (mid p ++ fin p)))) := by
  unfold body
  rw [pcs_0]
  simp only [encL_cons]
  rfl
theorem opG_mem {p : Ml} {c : Pc} (h : c ∈ opG p) : c = .text 11 ∨ c = .num 12 := by
  unfold opG at h
  split at h
  · simp at h; exact Or.inl h
  · split at h
    · simp at h; exact h
    · simp at h
theorem veG_mem {p : Ml} {c : Pc} (h : c ∈ veG p) : (p.verd = 0 ∧ (c = .flag ∨ c = .text 15 ∨ c = .text 16 ∨ c = .num 17 ∨ c = .num 18)) ∨ ((p.verd = 220 ∨ p.verd = 221) ∧ c = .byte 19) := by
  unfold veG at h
  split at h
  · rename_i h0
    simp at h; exact Or.inl ⟨h0, h⟩
  · split at h
    · rename_i h0
      simp at h; exact Or.inr ⟨h0, h⟩
    · simp at h
theorem fit_len {p : Ml} (h : verdP p) : p.akey.length ≤ 64 ∧ p.aval.length ≤ 256 ∧ 0 ≤ p.arev ∧ p.arev ≤ 1099511627776 ∧ 0 ≤ p.aat ∧ p.aat ≤ 1099511627776 ∧ 0 ≤ p.hint ∧ p.hint ≤ 7 ∧ 0 ≤ p.verd ∧ p.verd ≤ 221 := by
  rcases h with ⟨h1, ⟨_, h2⟩, h3⟩ | ⟨h1, ⟨_, h2, h3, h4, h5⟩, h6⟩ | ⟨h1, ⟨_, h2, h3, h4, h5⟩, h6⟩
  · omega
  · simp [h2, h3]; omega
  · unfold srvP at h6; simp [h2, h3]; omega
/-- Every piece of a sound message may be laid. -/
theorem snd_ok {p : Ml} (h : snd p = true) (hr : p.root < 18446744073709551616) : ∀ c ∈ pieces p, okP p c := by
  obtain ⟨hs, hk⟩ := (snd_iff p).1 h
  unfold shardP at hs
  have hfd : (0 ≤ p.frm ∧ p.frm < 256) ∧ (0 ≤ p.dst ∧ p.dst < 256) ∧ (0 ≤ p.kind ∧ p.kind < 256) := by
    rcases hk with ⟨h1, h2, h3, _⟩ | ⟨h1, h2, h3, _⟩ | ⟨h1, _, h2, h3, _⟩ | ⟨h1, ⟨h2, h3, _⟩, _⟩
    · unfold cliP at h2; unfold srvP at h3; omega
    · unfold srvP at h2; unfold cliP at h3; omega
    · unfold srvP at h2 h3; omega
    · unfold srvP at h2 h3; omega
  intro c hc
  rw [pcs_0] at hc
  simp only [List.mem_cons] at hc
  rcases hc with rfl | rfl | rfl | rfl | hc
  · exact ⟨by simp [isN], hfd.2.2.1, hfd.2.2.2⟩
  · exact ⟨by simp [isN], hfd.1.1, hfd.1.2⟩
  · exact ⟨by simp [isN], hfd.2.1.1, hfd.2.1.2⟩
  · exact ⟨by simp [isN], hs.1, show p.shard < _ by omega⟩
  · rcases hk with ⟨h1, _, _, h4, h5, _⟩ | ⟨h1, _, _, h4, _, h6, _⟩ | ⟨h1, h2, _, _, _, h6, _⟩ | ⟨h1, ⟨_, _, _, h6, _⟩, _⟩
    · rw [pcs_1 h1] at hc
      have q := rgt_iff h5
      unfold seqP at h4
      simp only [List.mem_cons] at hc
      rcases hc with rfl | rfl | rfl | hc
      · exact ⟨by simp [isN], show 0 ≤ p.seq by omega, show p.seq < _ by omega⟩
      · exact ⟨by simp [isN], show 0 ≤ p.okind by omega, show p.okind < _ by omega⟩
      · exact ⟨by simp [isT], show p.key.length ≤ _ by omega⟩
      · rcases opG_mem hc with rfl | rfl
        · exact ⟨by simp [isT], show p.val.length ≤ _ by omega⟩
        · exact ⟨by simp [isN], show 0 ≤ p.rev by omega, show p.rev < _ by omega⟩
    · rw [pcs_2 h1] at hc
      have q := fit_len h6
      unfold seqP at h4
      simp only [List.mem_cons] at hc
      rcases hc with rfl | rfl | hc
      · exact ⟨by simp [isN], show 0 ≤ p.seq by omega, show p.seq < _ by omega⟩
      · exact ⟨by simp [isN], show 0 ≤ p.verd by omega, show p.verd < _ by omega⟩
      · rcases veG_mem hc with ⟨_, rfl | rfl | rfl | rfl | rfl⟩ | ⟨_, rfl⟩
        · trivial
        · exact ⟨by simp [isT], show p.akey.length ≤ _ by omega⟩
        · exact ⟨by simp [isT], show p.aval.length ≤ _ by omega⟩
        · exact ⟨by simp [isN], show 0 ≤ p.arev by omega, show p.arev < _ by omega⟩
        · exact ⟨by simp [isN], show 0 ≤ p.aat by omega, show p.aat < _ by omega⟩
        · exact ⟨by simp [isN], show 0 ≤ p.hint by omega, show p.hint < _ by omega⟩
    · rw [pcs_3 h1] at hc
      unfold seqP at h6
      simp at hc
      rcases hc with rfl | rfl | rfl
      · exact ⟨by simp [isN], show 0 ≤ p.epoch by omega, show p.epoch < _ by omega⟩
      · exact hr
      · exact ⟨by simp [isT], h2⟩
    · rw [pcs_4 (by omega) (by omega) (by omega)] at hc
      unfold seqP at h6
      simp at hc
      subst hc
      exact ⟨by simp [isN], show 0 ≤ p.epoch by omega, show p.epoch < _ by omega⟩
/-- How long. -/
theorem snd_len {p : Ml} (h : snd p = true) : 5 ≤ (body p).length ∧ (body p).length ≤ 262164 := by
  obtain ⟨hs, hk⟩ := (snd_iff p).1 h
  unfold shardP at hs
  have f0 := form1 (n := p.shard.toNat) (by omega)
  rw [body_0]
  simp only [List.length_append, List.length_cons, List.length_nil, f0]
  rcases hk with ⟨h1, _, _, h4, h5, _⟩ | ⟨h1, _, _, h4, _, h6, _⟩ | ⟨h1, h2, _, _, _, h6, _⟩ | ⟨h1, ⟨_, _, _, h6, _⟩, _⟩
  · have q := rgt_iff h5
    unfold seqP at h4
    have a := form_len 4 p.seq.toNat (by omega)
    have a0 := form_pos p.seq.toNat
    have b := form1 (n := p.key.length) (by omega)
    have c := form_len 1 p.val.length (by omega)
    have d := form_len 5 p.rev.toNat (by omega)
    rw [pcs_1 h1]
    simp only [encL_cons, List.length_append]
    have e : (encL p (opG p)).length ≤ p.val.length + 9 := by
      unfold opG
      split
      · simp only [encL_cons, List.length_append, encL_nil, List.length_nil]
        have : encP p (.text 11) = form p.val.length ++ p.val := rfl
        rw [this, List.length_append]; omega
      · split
        · simp only [encL_cons, List.length_append, encL_nil, List.length_nil]
          have e1 : encP p (.text 11) = form p.val.length ++ p.val := rfl
          have e2 : encP p (.num 12) = form p.rev.toNat := rfl
          rw [e1, e2, List.length_append]; omega
        · simp [encL]
    have e1 : (encP p (.num 8)).length = (form p.seq.toNat).length := rfl
    have e2 : (encP p (.byte 9)).length = 1 := rfl
    have e3 : (encP p (.text 10)).length = (form p.key.length).length + p.key.length := by
      have : encP p (.text 10) = form p.key.length ++ p.key := rfl
      rw [this, List.length_append]
    omega
  · have q := fit_len h6
    unfold seqP at h4
    have a := form_len 4 p.seq.toNat (by omega)
    have a0 := form_pos p.seq.toNat
    have b := form_len 1 p.verd.toNat (by omega)
    have c := form_len 1 p.aval.length (by omega)
    have c2 := form_len 1 p.akey.length (by omega)
    have d := form_len 5 p.arev.toNat (by omega)
    have d2 := form_len 5 p.aat.toNat (by omega)
    rw [pcs_2 h1]
    simp only [encL_cons, List.length_append]
    have e : (encL p (veG p)).length ≤ p.akey.length + p.aval.length + 40 := by
      unfold veG
      split
      · simp only [encL_cons, List.length_append, encL_nil, List.length_nil]
        have e1 : encP p (.text 15) = form p.akey.length ++ p.akey := rfl
        have e2 : encP p (.text 16) = form p.aval.length ++ p.aval := rfl
        have e3 : encP p (.num 17) = form p.arev.toNat := rfl
        have e4 : encP p (.num 18) = form p.aat.toNat := rfl
        have e5 : (encP p .flag).length = 1 := rfl
        rw [e1, e2, e3, e4, List.length_append, List.length_append]; omega
      · split
        · simp only [encL_cons, List.length_append, encL_nil, List.length_nil]
          have e5 : (encP p (.byte 19)).length = 1 := rfl
          omega
        · simp [encL]
    have e1 : (encP p (.num 8)).length = (form p.seq.toNat).length := rfl
    have e2 : (encP p (.num 13)).length = (form p.verd.toNat).length := rfl
    omega
  · unfold seqP at h6
    have a := form_len 4 p.epoch.toNat (by omega)
    have a0 := form_pos p.epoch.toNat
    have c := form_len 2 p.copy.length (by omega)
    rw [pcs_3 h1]
    simp only [encL_cons, List.length_append, encL_nil, List.length_nil]
    have e1 : (encP p (.num 4)).length = (form p.epoch.toNat).length := rfl
    have e2 : (encP p .root).length = 8 := le_len _ _
    have e3 : (encP p (.text 6)).length = (form p.copy.length).length + p.copy.length := by
      have : encP p (.text 6) = form p.copy.length ++ p.copy := rfl
      rw [this, List.length_append]
    omega
  · unfold seqP at h6
    have a := form_len 4 p.epoch.toNat (by omega)
    have a0 := form_pos p.epoch.toNat
    rw [pcs_4 (by omega) (by omega) (by omega)]
    simp only [encL_cons, List.length_append, encL_nil, List.length_nil]
    have e1 : (encP p (.num 4)).length = (form p.epoch.toNat).length := rfl
    omega
end Go.Proofs.YtfhfkpgfnlmfhaaGreatDoor

/- goOver with the layer's hand: all of it. -/
namespace Go.Proofs.YtfhfkpgfnlmfhaaGreatDoor
open Go.RowKit

end Go.Proofs.YtfhfkpgfnlmfhaaGreatDoor
