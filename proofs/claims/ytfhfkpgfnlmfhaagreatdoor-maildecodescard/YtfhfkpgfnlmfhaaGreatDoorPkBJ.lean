/- Texts laid one behind the other: DQa DQo DQk1 DQk2 DQk3 DQk4 DQj. -/
import Derived.Test.YtfhfkpgfnlmfhaaGreatDoorPkBI
import Derived.Test.YtfhfkpgfnlmfhaaGreatDoorPkBA
import Derived.Test.YtfhfkpgfnlmfhaaGreatDoorPkBD
/- A message that the document reads, in memory. -/
namespace Go.Proofs.YtfhfkpgfnlmfhaaGreatDoor
open Go.RowKit

theorem own_dn {w : World} {base base' : Nat} {e : TypeId} {sz : Nat} {v : Value} {n : Nat} {xs : List Value} (h : w.ownsRow base e sz v n xs) (hb : base' ≤ base) : w.ownsRow base' e sz v n xs := by
  refine ⟨h.1, ?_⟩
  rcases h.2 with h2 | ⟨g, cap, cur, e1, hg, r⟩
  · exact Or.inl h2
  · exact Or.inr ⟨g, cap, cur, e1, Nat.le_trans hb hg, r⟩
/-- At B, its reader at c beside it; its lists are new since w. -/
structure DQ (w : World) (B c : Nat) (p : Ml) (l : Lm) (F : List Nat) (W : World) (s : RS) : Prop where
  blk : Blk W B (mcc p l) 30
  rd : Qs W c F s
  nw : ∀ o, isT o → NewV w (getT p o) (slT l p o) W
  ow : ∀ o, isT o → ∀ x, (slT l p o).ownBlock = some x → x ∉ B :: F
  kept : Kept [] w W
  bw : w.heap.size ≤ B
  fw : ∀ x ∈ F, w.heap.size ≤ x
  bF : B ∉ F
theorem DQ.call {w : World} {B c : Nat} {p : Ml} {l : Lm} {F : List Nat} {W W' : World} {s s' : RS} (h : DQ w B c p l F W s) (hq : QsQ W c F s' W') : DQ w B c p l F W' s' :=
  ⟨h.blk.kept hq.2 h.bF, hq.1, fun o ho => (h.nw o ho).kept hq.2 (fun x hx hm => h.ow o ho x hx (by simp [hm])), h.ow, h.kept.trans hq.2 (fun x hx => Or.inr (h.fw x hx)), h.bw, h.fw, h.bF⟩
theorem DQ.quiet {w : World} {B c : Nat} {p : Ml} {l : Lm} {F : List Nat} {W W' : World} {s : RS} (h : DQ w B c p l F W s) (k : Kept [] W W') : DQ w B c p l F W' s :=
  ⟨h.blk.kept k (by simp), h.rd.kept k (by simp), fun o ho => (h.nw o ho).kept k (by simp), h.ow, h.kept.step k, h.bw, h.fw, h.bF⟩
theorem DQ.put {w : World} {B c : Nat} {p p' : Ml} {l l' : Lm} {F : List Nat} {W W2 : World} {s : RS} (h : DQ w B c p l F W s) (k : Kept [B] W W2) (hb : Blk W2 B (mcc p' l') 30)
    (hn : ∀ o, isT o → NewV w (getT p' o) (slT l' p' o) W ∧ ∀ x, (slT l' p' o).ownBlock = some x → x ∉ B :: F) : DQ w B c p' l' F W2 s := by
  have hB : ∀ x, x ∉ B :: F → x ∉ [B] := fun x hx hm => hx (by simp at hm; simp [hm])
  exact ⟨hb, h.rd.kept k (fun x hx hm => h.bF (by simp at hm; rw [← hm]; exact hx)), fun o ho => (hn o ho).1.kept k (fun x hx => hB x ((hn o ho).2 x hx)), fun o ho => (hn o ho).2, h.kept.trans k (fun x hx => Or.inr (by simp at hx; subst hx; exact h.bw)), h.bw, h.fw, h.bF⟩
theorem DQ.num {w : World} {B c : Nat} {p : Ml} {l : Lm} {F : List Nat} {W : World} {s : RS} (h : DQ w B c p l F W s) (n : Int) {o : Nat} (ho : isN o) : DQ w B c (setN p n o) l F (W.setCell ⟨B, o, none⟩ (.int .i64 n)) s := by
  refine h.put ((Kept.refl [B] W).setCell (Or.inl (by simp)) _) ?_ (fun q hq => ?_)
  · have hb := h.blk.set o (.int .i64 n)
    rw [mcc_set _ _ _ ho] at hb
    exact hb
  · rw [(setN_T p n o q l).1, (setN_T p n o q l).2]
    exact ⟨h.nw q hq, h.ow q hq⟩
theorem DQ.client {w : World} {B c : Nat} {p : Ml} {l : Lm} {F : List Nat} {W : World} {s : RS} (h : DQ w B c p l F W s) (n : Int) : DQ w B c { p with client := n } l F (W.setCell ⟨B, 7, none⟩ (.int .i64 n)) s :=
  h.put ((Kept.refl [B] W).setCell (Or.inl (by simp)) _) (h.blk.set 7 (.int .i64 n)) (fun q hq => ⟨h.nw q hq, h.ow q hq⟩)
theorem DQ.root {w : World} {B c : Nat} {p : Ml} {l : Lm} {F : List Nat} {W : World} {s : RS} (h : DQ w B c p l F W s) (n : Nat) : DQ w B c { p with root := n } l F (W.setCell ⟨B, 5, none⟩ (.int .u64 n)) s :=
  h.put ((Kept.refl [B] W).setCell (Or.inl (by simp)) _) (h.blk.set 5 (.int .u64 n)) (fun q hq => ⟨h.nw q hq, h.ow q hq⟩)
theorem DQ.flag {w : World} {B c : Nat} {p : Ml} {l : Lm} {F : List Nat} {W : World} {s : RS} (h : DQ w B c p l F W s) (d : Bool) : DQ w B c { p with done := d } l F (W.setCell ⟨B, 14, none⟩ (.bool d)) s :=
  h.put ((Kept.refl [B] W).setCell (Or.inl (by simp)) _) (h.blk.set 14 (.bool d)) (fun q hq => ⟨h.nw q hq, h.ow q hq⟩)
/-- New bytes that a call of its reader has given. -/
theorem DQ.nt {w : World} {B c : Nat} {p : Ml} {l : Lm} {F : List Nat} {W W' : World} {s : RS} (h : DQ w B c p l F W s) {bs : List Nat} {a : Option Addr} {cap : Nat} (ho : W'.ownsRow W.heap.size 5 1 (.slice a bs.length cap) bs.length (u8s bs)) : NewV w bs (.slice a bs.length cap) W' ∧ ∀ x, (Value.slice a bs.length cap).ownBlock = some x → x ∉ B :: F := by
  refine ⟨⟨a, cap, rfl, own_dn ho h.kept.size⟩, fun x hx hm => ?_⟩
  have h1 := (ho.lt x hx).1
  have h2 := h.blk.lt
  simp at hm
  rcases hm with rfl | hm
  · omega
  · have := h.rd.lt x hm; omega
/-- New bytes that readOp has given. -/
theorem DQ.nop {w : World} {B c : Nat} {p : Ml} {l : Lm} {F : List Nat} {W W' : World} {s : RS} (h : DQ w B c p l F W s) {bs : List Nat} {a : Option Addr} {cap : Nat} (hn : NewV W bs (.slice a bs.length cap) W') (ho : ∀ x, (Value.slice a bs.length cap).ownBlock = some x → W.heap.size ≤ x) : NewV w bs (.slice a bs.length cap) W' ∧ ∀ x, (Value.slice a bs.length cap).ownBlock = some x → x ∉ B :: F := by
  refine ⟨hn.from h.kept.size, fun x hx hm => ?_⟩
  have h1 := ho x hx
  have h2 := h.blk.lt
  simp at hm
  rcases hm with rfl | hm
  · omega
  · have := h.rd.lt x hm; omega
theorem DQ.text {w : World} {B c : Nat} {p : Ml} {l : Lm} {F : List Nat} {W : World} {s : RS} (h : DQ w B c p l F W s) {bs : List Nat} {a : Option Addr} {cap : Nat} (hn : NewV w bs (.slice a bs.length cap) W ∧ ∀ x, (Value.slice a bs.length cap).ownBlock = some x → x ∉ B :: F) {o : Nat} (ho : isT o) : DQ w B c (setT p bs o) (setL l a cap o) F (W.setCell ⟨B, o, none⟩ (.slice a bs.length cap)) s := by
  refine h.put ((Kept.refl [B] W).setCell (Or.inl (by simp)) _) ?_ (fun q hq => ?_)
  · have hb := h.blk.set o (.slice a bs.length cap)
    rw [mcc_setT _ _ _ _ _ ho] at hb
    exact hb
  · rcases setT_T p l a cap bs ho hq with ⟨_, e1, e2⟩ | ⟨_, e1, e2⟩
    · rw [e1, e2]
      exact ⟨h.nw q hq, h.ow q hq⟩
    · rw [e1, e2]
      exact hn
/-- A whole op. -/
theorem DQ.op {w : World} {B c : Nat} {p : Ml} {l : Lm} {F : List Nat} {W : World} {s : RS} (h : DQ w B c p l F W s) {ks vs : List Nat} {ka va : Option Addr} {kc vc : Nat} (hk : NewV w ks (.slice ka ks.length kc) W ∧ ∀ x, (Value.slice ka ks.length kc).ownBlock = some x → x ∉ B :: F) (hv : NewV w vs (.slice va vs.length vc) W ∧ ∀ x, (Value.slice va vs.length vc).ownBlock = some x → x ∉ B :: F) (k r : Int) :
    DQ w B c { p with okind := k, key := ks, val := vs, rev := r } { l with ka := ka, kc := kc, va := va, vc := vc } F ((((W.setCell ⟨B, 9, none⟩ (.int .i64 k)).setCell ⟨B, 10, none⟩ (.slice ka ks.length kc)).setCell ⟨B, 11, none⟩ (.slice va vs.length vc)).setCell ⟨B, 12, none⟩ (.int .i64 r)) s := by
  refine h.put (((((Kept.refl [B] W).setCell (Or.inl (by simp)) _).setCell (Or.inl (by simp)) _).setCell (Or.inl (by simp)) _).setCell (Or.inl (by simp)) _) ?_ (fun q hq => ?_)
  · exact (((h.blk.set 9 (.int .i64 k)).set 10 (.slice ka ks.length kc)).set 11 (.slice va vs.length vc)).set 12 (.int .i64 r)
  · rcases hq with rfl | rfl | rfl | rfl | rfl
    · exact ⟨h.nw 6 (by simp [isT]), h.ow 6 (by simp [isT])⟩
    · exact hk
    · exact hv
    · exact ⟨h.nw 15 (by simp [isT]), h.ow 15 (by simp [isT])⟩
    · exact ⟨h.nw 16 (by simp [isT]), h.ow 16 (by simp [isT])⟩
theorem DQ.begin {w w4 : World} {c : Nat} {F : List Nat} {s : RS} (hl : ∀ x ∈ F, w.heap.size ≤ x) (k4 : Kept [] w w4) (hq : Qs w4 c F s) (a b d n : Int) : DQ w w4.heap.size c { zeroM with kind := a, frm := b, dst := d, shard := n } nilM F ((w4.alloc (.cells (mcc zeroM nilM) 30)).setRow w4.heap.size (mcc { zeroM with kind := a, frm := b, dst := d, shard := n } nilM)) s := by
  have hlt := hq.lt
  have ka : Kept [] w4 ((w4.alloc (.cells (mcc zeroM nilM) 30)).setRow w4.heap.size (mcc { zeroM with kind := a, frm := b, dst := d, shard := n } nilM)) := ((Kept.refl [] w4).alloc _).setRow (Or.inr (Nat.le_refl _)) _
  refine ⟨setRow_heap _ _ _ _ _ _ (Blk.new w4 _ _), hq.kept ka (by simp), ?_, ?_, k4.step ka, k4.size, hl, fun hm => by have := hlt _ hm; omega⟩
  · intro o ho
    rcases ho with rfl | rfl | rfl | rfl | rfl <;> exact NewV.nil _ _
  · intro o ho x hx
    rcases ho with rfl | rfl | rfl | rfl | rfl <;> (simp [slT, nilM, Value.ownBlock] at hx)
/-- What the document's read answers. -/
def RRdP (w : World) (p : Ml) (e : Ending) (w' : World) : Prop := Kept [] w w' ∧ ∃ l, e = .returned (.agg (mcc p l)) ∧ ∀ o, isT o → NewV w (getT p o) (slT l p o) w'
theorem DQ.out {w : World} {B c : Nat} {p : Ml} {l : Lm} {F : List Nat} {W : World} {s : RS} (h : DQ (w.alloc (.cells (mcc zeroM nilM) 30)) B c p l F W s) : Blk W w.heap.size (mcc zeroM nilM) 30 ∧ RRdP w p (.returned (.agg (mcc p l))) (W.setRow w.heap.size (mcc p l)) := by
  have k0 := (Kept.refl [] w).alloc (.cells (mcc zeroM nilM) 30)
  have kR : Kept [w.heap.size] W (W.setRow w.heap.size (mcc p l)) := (Kept.refl _ W).setRow (Or.inl (by simp)) _
  refine ⟨(Blk.new w _ _).kept h.kept (by simp), (k0.step h.kept).setRow (Or.inr (Nat.le_refl _)) _, l, rfl, fun o ho => ?_⟩
  refine ((h.nw o ho).kept kR (fun x hx hm => ?_)).from k0.size
  have := ((h.nw o ho).lt hx).1
  simp at this hm
  omega
end Go.Proofs.YtfhfkpgfnlmfhaaGreatDoor

/- The document's readOp. -/
namespace Go.Proofs.YtfhfkpgfnlmfhaaGreatDoor
open Go.RowKit

theorem infoOp : (Tryz.prog.info? 25).map (·.size) = some 4 := by kernel_rfl
theorem wrapI (n : Nat) : IntKind.i64.wrap (n : Int) = toI n := by
  unfold toI wrap64
  rw [IntKind.wrap_i64]
theorem ret_struct {P : Program} {fn : Func} {R : Ending → World → Prop} {a : Act} {w : World} {p : Tmp} {ty : TypeId} {b : Nat} {cs : Array Value} {fs : Array Field}
    (hr : fn.results = #[.cell p ty]) (hp : a.tmps.getD p undef = .pointer (some ⟨b, 0, none⟩)) (hb : Blk w b cs ty)
    (hu : P.underlying ty = some (.struct fs)) (hi : (P.info? ty).map (·.size) = some cs.size) (hd : a.defers = []) (hR : R (.returned (.agg cs)) w) : bodyPost P fn R .ret a w := by
  refine bodyPost_ret (v := .agg cs) ?_ hd hR
  exact results_cell_row hr a.tmps w b ty cs (0, 0) _ hp hb hu rfl hi
/-- An op that the document reads. -/
structure OQ (w : World) (B c : Nat) (k : Int) (ks vs : List Nat) (r : Int) (ka : Option Addr) (kc : Nat) (va : Option Addr) (vc : Nat) (F : List Nat) (W : World) (s : RS) : Prop where
  blk : Blk W B #[.int .i64 k, .slice ka ks.length kc, .slice va vs.length vc, .int .i64 r] 25
  rd : Qs W c F s
  kn : NewV w ks (.slice ka ks.length kc) W
  vn : NewV w vs (.slice va vs.length vc) W
  ko : ∀ x, (Value.slice ka ks.length kc).ownBlock = some x → x ∉ B :: F
  vo : ∀ x, (Value.slice va vs.length vc).ownBlock = some x → x ∉ B :: F
  kept : Kept F w W
  bw : w.heap.size ≤ B
  bF : B ∉ F
theorem OQ.call {w : World} {B c : Nat} {k : Int} {ks vs : List Nat} {r : Int} {ka : Option Addr} {kc : Nat} {va : Option Addr} {vc : Nat} {F : List Nat} {W W' : World} {s s' : RS} (h : OQ w B c k ks vs r ka kc va vc F W s) (hq : QsQ W c F s' W') : OQ w B c k ks vs r ka kc va vc F W' s' :=
  ⟨h.blk.kept hq.2 h.bF, hq.1, h.kn.kept hq.2 (fun x hx hm => h.ko x hx (by simp [hm])), h.vn.kept hq.2 (fun x hx hm => h.vo x hx (by simp [hm])), h.ko, h.vo, h.kept.trans hq.2 (fun x hx => Or.inl hx), h.bw, h.bF⟩
theorem OQ.nt {w : World} {B c : Nat} {k : Int} {ks vs : List Nat} {r : Int} {ka : Option Addr} {kc : Nat} {va : Option Addr} {vc : Nat} {F : List Nat} {W W' : World} {s : RS} (h : OQ w B c k ks vs r ka kc va vc F W s) {bs : List Nat} {a : Option Addr} {cap : Nat} (ho : W'.ownsRow W.heap.size 5 1 (.slice a bs.length cap) bs.length (u8s bs)) : NewV w bs (.slice a bs.length cap) W' ∧ ∀ x, (Value.slice a bs.length cap).ownBlock = some x → x ∉ B :: F := by
  refine ⟨⟨a, cap, rfl, own_dn ho h.kept.size⟩, fun x hx hm => ?_⟩
  have h1 := (ho.lt x hx).1
  have h2 := h.blk.lt
  simp at hm
  rcases hm with rfl | hm
  · omega
  · have := h.rd.lt x hm; omega
theorem OQ.val {w : World} {B c : Nat} {k : Int} {ks vs : List Nat} {r : Int} {ka : Option Addr} {kc : Nat} {va : Option Addr} {vc : Nat} {F : List Nat} {W : World} {s : RS} (h : OQ w B c k ks vs r ka kc va vc F W s) {bs : List Nat} {a : Option Addr} {cap : Nat} (hn : NewV w bs (.slice a bs.length cap) W ∧ ∀ x, (Value.slice a bs.length cap).ownBlock = some x → x ∉ B :: F) : OQ w B c k ks bs r ka kc a cap F (W.setCell ⟨B, 2, none⟩ (.slice a bs.length cap)) s := by
  have q : Kept [B] W (W.setCell ⟨B, 2, none⟩ (.slice a bs.length cap)) := (Kept.refl [B] W).setCell (Or.inl (by simp)) _
  have hB : ∀ x, x ∉ B :: F → x ∉ [B] := fun x hx hm => hx (by simp at hm; simp [hm])
  exact ⟨h.blk.set 2 _, h.rd.kept q (fun x hx hm => h.bF (by simp at hm; rw [← hm]; exact hx)), h.kn.kept q (fun x hx => hB x (h.ko x hx)), hn.1.kept q (fun x hx => hB x (hn.2 x hx)), h.ko, hn.2, h.kept.trans q (fun x hx => Or.inr (by simp at hx; subst hx; exact h.bw)), h.bw, h.bF⟩
theorem OQ.rev {w : World} {B c : Nat} {k : Int} {ks vs : List Nat} {r : Int} {ka : Option Addr} {kc : Nat} {va : Option Addr} {vc : Nat} {F : List Nat} {W : World} {s : RS} (h : OQ w B c k ks vs r ka kc va vc F W s) (n : Int) : OQ w B c k ks vs n ka kc va vc F (W.setCell ⟨B, 3, none⟩ (.int .i64 n)) s := by
  have q : Kept [B] W (W.setCell ⟨B, 3, none⟩ (.int .i64 n)) := (Kept.refl [B] W).setCell (Or.inl (by simp)) _
  have hB : ∀ x, x ∉ B :: F → x ∉ [B] := fun x hx hm => hx (by simp at hm; simp [hm])
  exact ⟨h.blk.set 3 _, h.rd.kept q (fun x hx hm => h.bF (by simp at hm; rw [← hm]; exact hx)), h.kn.kept q (fun x hx => hB x (h.ko x hx)), h.vn.kept q (fun x hx => hB x (h.vo x hx)), h.ko, h.vo, h.kept.trans q (fun x hx => Or.inr (by simp at hx; subst hx; exact h.bw)), h.bw, h.bF⟩
theorem OQ.begin {w w2 w3 : World} {c : Nat} {F : List Nat} {s1 s2 : RS} {ks : List Nat} {ka : Option Addr} {kc : Nat} (h1 : QsQ w c F s1 w2) (ho : w3.ownsRow w2.heap.size 5 1 (.slice ka ks.length kc) ks.length (u8s ks)) (h2 : QsQ w2 c F s2 w3) (k : Int) : OQ w w3.heap.size c k ks [] 0 ka kc none 0 F (w3.alloc (.cells #[.int .i64 k, .slice ka ks.length kc, .slice none 0 0, .int .i64 0] 25)) s2 := by
  have q := (Kept.refl [] w3).alloc (.cells #[.int .i64 k, .slice ka ks.length kc, .slice none 0 0, .int .i64 0] 25)
  have hlt := h2.1.lt
  have hlt1 := h1.1.lt
  have hs1 := h1.2.size
  refine ⟨Blk.new _ _ _, h2.1.kept q (by simp), (show NewV w ks (.slice ka ks.length kc) w3 from ⟨ka, kc, rfl, own_dn ho hs1⟩).kept q (by simp), NewV.nil _ _, fun x hx hm => ?_, fun x hx => by simp [Value.ownBlock] at hx, (h1.2.trans h2.2 (fun x hx => Or.inl hx)).trans q (by simp), (h1.2.trans h2.2 (fun x hx => Or.inl hx)).size, fun hm => by have := hlt _ hm; omega⟩
  have h3 := ho.lt x hx
  simp at hm
  rcases hm with rfl | hm
  · omega
  · have := hlt1 x hm; omega
/-- What readOp answers. -/
def OpP (w : World) (c : Nat) (F : List Nat) (s : RS) (k : Int) (ks vs : List Nat) (r : Int) (e : Ending) (w' : World) : Prop := ∃ ka kc va vc, e = .returned (.agg #[.int .i64 k, .slice ka ks.length kc, .slice va vs.length vc, .int .i64 r]) ∧ QsQ w c F s w' ∧ NewV w ks (.slice ka ks.length kc) w' ∧ NewV w vs (.slice va vs.length vc) w' ∧ (∀ x, (Value.slice ka ks.length kc).ownBlock = some x → w.heap.size ≤ x) ∧ (∀ x, (Value.slice va vs.length vc).ownBlock = some x → w.heap.size ≤ x)
theorem OQ.out {w : World} {B c : Nat} {k : Int} {ks vs : List Nat} {r : Int} {ka : Option Addr} {kc : Nat} {va : Option Addr} {vc : Nat} {F : List Nat} {W : World} {s : RS} (h : OQ (w.alloc (.cells #[.int .i64 0, .slice none 0 0, .slice none 0 0, .int .i64 0] 25)) B c k ks vs r ka kc va vc F W s) (hF : ∀ x ∈ F, x < w.heap.size) (a0 a1 a2 a3 : Value) : OpP w c F s k ks vs r (.returned (.agg #[.int .i64 k, .slice ka ks.length kc, .slice va vs.length vc, .int .i64 r])) ((((W.setCell ⟨w.heap.size, 0, none⟩ a0).setCell ⟨w.heap.size, 1, none⟩ a1).setCell ⟨w.heap.size, 2, none⟩ a2).setCell ⟨w.heap.size, 3, none⟩ a3) := by
  have k0 := (Kept.refl [] w).alloc (.cells #[.int .i64 0, .slice none 0 0, .slice none 0 0, .int .i64 0] 25)
  have q : Kept [w.heap.size] W ((((W.setCell ⟨w.heap.size, 0, none⟩ a0).setCell ⟨w.heap.size, 1, none⟩ a1).setCell ⟨w.heap.size, 2, none⟩ a2).setCell ⟨w.heap.size, 3, none⟩ a3) := ((((Kept.refl [w.heap.size] W).setCell (Or.inl (by simp)) _).setCell (Or.inl (by simp)) _).setCell (Or.inl (by simp)) _).setCell (Or.inl (by simp)) _
  have e1 : (w.alloc (.cells #[.int .i64 0, .slice none 0 0, .slice none 0 0, .int .i64 0] 25)).heap.size = w.heap.size + 1 := World.size_alloc _ _
  have hk := h.kn
  have hv := h.vn
  have g1 : ∀ x, (Value.slice ka ks.length kc).ownBlock = some x → w.heap.size + 1 ≤ x := fun x hx => by have := (hk.lt hx).1; omega
  have g2 : ∀ x, (Value.slice va vs.length vc).ownBlock = some x → w.heap.size + 1 ≤ x := fun x hx => by have := (hv.lt hx).1; omega
  refine ⟨ka, kc, va, vc, rfl, ⟨h.rd.kept q (fun x hx hm => by have := hF x hx; simp at hm; omega), ((k0.mono (by simp)).trans h.kept (fun x hx => Or.inl hx)).trans q (fun x hx => Or.inr (by simp at hx; omega))⟩, (hk.kept q (fun x hx hm => by have := g1 x hx; simp at hm; omega)).from k0.size, (hv.kept q (fun x hx hm => by have := g2 x hx; simp at hm; omega)).from k0.size, fun x hx => by have := g1 x hx; omega, fun x hx => by have := g2 x hx; omega⟩
set_option maxRecDepth 100000 in
set_option maxHeartbeats 1600000 in
theorem rreadOp_x {w : World} {c : Nat} {F : List Nat} {s : RS} {s1 : RS} {on : Nat} {s2 : RS} {x2 : List Nat} (h : Qs w c F s) (e1 : rByte s = (s1, on)) (e2 : rText s1 524288 = (s2, x2)) (c2 : ((on : Int) == 2) = false) (c4 : ((on : Int) == 4) = false) : Calls Tryz.prog 23 #[.pointer (some ⟨c, 0, none⟩)] w (OpP w c F s2 (on : Int) x2 [] 0) := by
  have HC1 : Hid (∀ (W : World) (c : Nat) (F : List Nat), Qs W c F s → Calls Tryz.prog 21 #[.pointer (some ⟨c, 0, none⟩)] W fun e w' => e = .returned (.int .i64 (on : Int)) ∧ QsQ W c F s1 w') := fun W c F h => by have := qbyte_q h; rw [e1] at this; exact this
  have HC2 : Hid (∀ (W : World) (c : Nat) (F : List Nat), Qs W c F s1 → Calls Tryz.prog 24 #[.pointer (some ⟨c, 0, none⟩), .int .i64 524288] W fun e w' => NewB W x2 e w' ∧ QsQ W c F s2 w') := fun W c F h => by have := qtext_q h 524288 (by omega); rw [e2] at this; exact this
  clear e1 e2
  have HLT := hide h.lt
  have HS := hide (h.kept ((Kept.refl [] w).alloc (.cells #[.int .i64 0, .slice none 0 0, .slice none 0 0, .int .i64 0] 25)) (by simp))
  have HR := hide (Blk.new w #[.int .i64 0, .slice none 0 0, .slice none 0 0, .int .i64 0] 25)
  clear h
  go_enter Tryz.func23, Tryz.ntmps23
  go_upto_region 6 with (first
    | (go_at_call 21; refine (unhide HC1 _ _ _ (unhide HS)).mono ?_; rintro e w2 ⟨rfl, hq2⟩; clear HC1; have HQ2 := hide hq2; clear hq2)
    | (go_at_call 24; refine (unhide HC2 _ _ _ (unhide HQ2).1).mono ?_; rintro e w3 ⟨⟨a2, cap2, rfl, ho⟩, hq⟩; clear HC2; have HD := hide (OQ.begin (unhide HQ2) ho hq (on : Int)); obtain ⟨d0, d1, d2, d3⟩ := blk4 (unhide HD).blk; have fz2 := (unhide HD).blk.frozen 2; have fz3 := (unhide HD).blk.frozen 3; clear hq ho HQ2))
  obtain ⟨d0, d1, d2, d3⟩ := blk4 (unhide HD).blk
  have hr := (unhide HR).kept (unhide HD).kept (fun hm => by have := unhide HLT _ hm; omega)
  have HR2 := hide hr
  obtain ⟨r0, r1, r2, r3⟩ := blk4 hr
  have f0 := hr.frozen 0
  have f1 := hr.frozen 1
  have f2 := hr.frozen 2
  have f3 := hr.frozen 3
  clear hr HR
  go_wp2_with fail
  refine ret_struct (b := w.heap.size) rfl rfl (unhide HR2).set4 Tryz.underlying25 infoOp rfl ?_
  exact (unhide HD).out (unhide HLT) _ _ _ _
set_option maxRecDepth 100000 in
set_option maxHeartbeats 1600000 in
theorem rreadOp_2 {w : World} {c : Nat} {F : List Nat} {s : RS} {s1 : RS} {on : Nat} {s2 : RS} {x2 : List Nat} {s3 : RS} {x3 : List Nat} (h : Qs w c F s) (e1 : rByte s = (s1, on)) (e2 : rText s1 524288 = (s2, x2)) (e3 : rText s2 524288 = (s3, x3)) (c2 : ((on : Int) == 2) = true) (c4 : ((on : Int) == 4) = false) : Calls Tryz.prog 23 #[.pointer (some ⟨c, 0, none⟩)] w (OpP w c F s3 (on : Int) x2 x3 0) := by
  have HC1 : Hid (∀ (W : World) (c : Nat) (F : List Nat), Qs W c F s → Calls Tryz.prog 21 #[.pointer (some ⟨c, 0, none⟩)] W fun e w' => e = .returned (.int .i64 (on : Int)) ∧ QsQ W c F s1 w') := fun W c F h => by have := qbyte_q h; rw [e1] at this; exact this
  have HC2 : Hid (∀ (W : World) (c : Nat) (F : List Nat), Qs W c F s1 → Calls Tryz.prog 24 #[.pointer (some ⟨c, 0, none⟩), .int .i64 524288] W fun e w' => NewB W x2 e w' ∧ QsQ W c F s2 w') := fun W c F h => by have := qtext_q h 524288 (by omega); rw [e2] at this; exact this
  have HC3 : Hid (∀ (W : World) (c : Nat) (F : List Nat), Qs W c F s2 → Calls Tryz.prog 24 #[.pointer (some ⟨c, 0, none⟩), .int .i64 524288] W fun e w' => NewB W x3 e w' ∧ QsQ W c F s3 w') := fun W c F h => by have := qtext_q h 524288 (by omega); rw [e3] at this; exact this
  clear e1 e2 e3
  have HLT := hide h.lt
  have HS := hide (h.kept ((Kept.refl [] w).alloc (.cells #[.int .i64 0, .slice none 0 0, .slice none 0 0, .int .i64 0] 25)) (by simp))
  have HR := hide (Blk.new w #[.int .i64 0, .slice none 0 0, .slice none 0 0, .int .i64 0] 25)
  clear h
  go_enter Tryz.func23, Tryz.ntmps23
  go_upto_region 6 with (first
    | (go_at_call 21; refine (unhide HC1 _ _ _ (unhide HS)).mono ?_; rintro e w2 ⟨rfl, hq2⟩; clear HC1; have HQ2 := hide hq2; clear hq2)
    | (go_at_call 24; refine (unhide HC2 _ _ _ (unhide HQ2).1).mono ?_; rintro e w3 ⟨⟨a2, cap2, rfl, ho⟩, hq⟩; clear HC2; have HD := hide (OQ.begin (unhide HQ2) ho hq (on : Int)); obtain ⟨d0, d1, d2, d3⟩ := blk4 (unhide HD).blk; have fz2 := (unhide HD).blk.frozen 2; have fz3 := (unhide HD).blk.frozen 3; clear hq ho HQ2)
    | (go_at_call 24; refine (unhide HC3 _ _ _ (unhide HD).rd).mono ?_; rintro e w4 ⟨⟨a3, cap3, rfl, ho⟩, hq⟩; clear HC3 d0 d1 d2 d3 fz2 fz3; have hn := (unhide HD).nt ho; have hd := (unhide HD).call hq; obtain ⟨d0, d1, d2, d3⟩ := blk4 hd.blk; have fz2 := hd.blk.frozen 2; have fz3 := hd.blk.frozen 3; have HD := hide (hd.val hn); clear hq hd hn ho))
  obtain ⟨d0, d1, d2, d3⟩ := blk4 (unhide HD).blk
  have hr := (unhide HR).kept (unhide HD).kept (fun hm => by have := unhide HLT _ hm; omega)
  have HR2 := hide hr
  obtain ⟨r0, r1, r2, r3⟩ := blk4 hr
  have f0 := hr.frozen 0
  have f1 := hr.frozen 1
  have f2 := hr.frozen 2
  have f3 := hr.frozen 3
  clear hr HR
  go_wp2_with fail
  refine ret_struct (b := w.heap.size) rfl rfl (unhide HR2).set4 Tryz.underlying25 infoOp rfl ?_
  exact (unhide HD).out (unhide HLT) _ _ _ _
set_option maxRecDepth 100000 in
set_option maxHeartbeats 1600000 in
theorem rreadOp_4 {w : World} {c : Nat} {F : List Nat} {s : RS} {s1 : RS} {on : Nat} {s2 : RS} {x2 : List Nat} {s3 : RS} {x3 : List Nat} {s4 : RS} {n4 : Nat} {t4 : Int} (h : Qs w c F s) (e1 : rByte s = (s1, on)) (e2 : rText s1 524288 = (s2, x2)) (e3 : rText s2 524288 = (s3, x3)) (e4 : rNum s3 = (s4, n4)) (z4 : IntKind.i64.wrap (n4 : Int) = t4) (c2 : ((on : Int) == 2) = false) (c4 : ((on : Int) == 4) = true) : Calls Tryz.prog 23 #[.pointer (some ⟨c, 0, none⟩)] w (OpP w c F s4 (on : Int) x2 x3 t4) := by
  have HC1 : Hid (∀ (W : World) (c : Nat) (F : List Nat), Qs W c F s → Calls Tryz.prog 21 #[.pointer (some ⟨c, 0, none⟩)] W fun e w' => e = .returned (.int .i64 (on : Int)) ∧ QsQ W c F s1 w') := fun W c F h => by have := qbyte_q h; rw [e1] at this; exact this
  have HC2 : Hid (∀ (W : World) (c : Nat) (F : List Nat), Qs W c F s1 → Calls Tryz.prog 24 #[.pointer (some ⟨c, 0, none⟩), .int .i64 524288] W fun e w' => NewB W x2 e w' ∧ QsQ W c F s2 w') := fun W c F h => by have := qtext_q h 524288 (by omega); rw [e2] at this; exact this
  have HC3 : Hid (∀ (W : World) (c : Nat) (F : List Nat), Qs W c F s2 → Calls Tryz.prog 24 #[.pointer (some ⟨c, 0, none⟩), .int .i64 524288] W fun e w' => NewB W x3 e w' ∧ QsQ W c F s3 w') := fun W c F h => by have := qtext_q h 524288 (by omega); rw [e3] at this; exact this
  have HC4 : Hid (∀ (W : World) (c : Nat) (F : List Nat), Qs W c F s3 → Calls Tryz.prog 22 #[.pointer (some ⟨c, 0, none⟩)] W fun e w' => e = .returned (.int .u64 (n4 : Int)) ∧ QsQ W c F s4 w') := fun W c F h => by have := qnum_q h; rw [e4] at this; exact this
  clear e1 e2 e3 e4
  have HLT := hide h.lt
  have HS := hide (h.kept ((Kept.refl [] w).alloc (.cells #[.int .i64 0, .slice none 0 0, .slice none 0 0, .int .i64 0] 25)) (by simp))
  have HR := hide (Blk.new w #[.int .i64 0, .slice none 0 0, .slice none 0 0, .int .i64 0] 25)
  clear h
  go_enter Tryz.func23, Tryz.ntmps23
  go_upto_region 6 with (first
    | (go_at_call 21; refine (unhide HC1 _ _ _ (unhide HS)).mono ?_; rintro e w2 ⟨rfl, hq2⟩; clear HC1; have HQ2 := hide hq2; clear hq2)
    | (go_at_call 24; refine (unhide HC2 _ _ _ (unhide HQ2).1).mono ?_; rintro e w3 ⟨⟨a2, cap2, rfl, ho⟩, hq⟩; clear HC2; have HD := hide (OQ.begin (unhide HQ2) ho hq (on : Int)); obtain ⟨d0, d1, d2, d3⟩ := blk4 (unhide HD).blk; have fz2 := (unhide HD).blk.frozen 2; have fz3 := (unhide HD).blk.frozen 3; clear hq ho HQ2)
    | (go_at_call 24; refine (unhide HC3 _ _ _ (unhide HD).rd).mono ?_; rintro e w4 ⟨⟨a3, cap3, rfl, ho⟩, hq⟩; clear HC3 d0 d1 d2 d3 fz2 fz3; have hn := (unhide HD).nt ho; have hd := (unhide HD).call hq; obtain ⟨d0, d1, d2, d3⟩ := blk4 hd.blk; have fz2 := hd.blk.frozen 2; have fz3 := hd.blk.frozen 3; have HD := hide (hd.val hn); clear hq hd hn ho)
    | (go_at_call 22; refine (unhide HC4 _ _ _ (unhide HD).rd).mono ?_; rintro e w5 ⟨rfl, hq⟩; clear HC4 d0 d1 d2 d3 fz2 fz3; have hd := (unhide HD).call hq; obtain ⟨d0, d1, d2, d3⟩ := blk4 hd.blk; have fz2 := hd.blk.frozen 2; have fz3 := hd.blk.frozen 3; have HD := hide (hd.rev t4); clear hq hd))
  obtain ⟨d0, d1, d2, d3⟩ := blk4 (unhide HD).blk
  have hr := (unhide HR).kept (unhide HD).kept (fun hm => by have := unhide HLT _ hm; omega)
  have HR2 := hide hr
  obtain ⟨r0, r1, r2, r3⟩ := blk4 hr
  have f0 := hr.frozen 0
  have f1 := hr.frozen 1
  have f2 := hr.frozen 2
  have f3 := hr.frozen 3
  clear hr HR
  go_wp2_with fail
  refine ret_struct (b := w.heap.size) rfl rfl (unhide HR2).set4 Tryz.underlying25 infoOp rfl ?_
  exact (unhide HD).out (unhide HLT) _ _ _ _
end Go.Proofs.YtfhfkpgfnlmfhaaGreatDoor

/- The document's read: a request. -/
namespace Go.Proofs.YtfhfkpgfnlmfhaaGreatDoor
open Go.RowKit

set_option maxRecDepth 100000 in
set_option maxHeartbeats 1600000 in
theorem rread_q {w : World} {v : Value} {bs : List Nat} {s1 s2 s3 s4 : RS} {kn fn dn sn : Nat} {sh : Int} {s5 : RS} {n5 : Nat} {t5 : Int} {s6 : RS} {on rv : Int} {ks vs : List Nat} (hx : Wide w v bs) (hb : ∀ x ∈ bs, x < 256) (hl : bs.length ≤ 140737488355328) (e1 : rByte ⟨0, bs, []⟩ = (s1, kn)) (e2 : rByte s1 = (s2, fn)) (e3 : rByte s2 = (s3, dn)) (e4 : rNum s3 = (s4, sn)) (z4 : IntKind.i64.wrap (sn : Int) = sh) (e5 : rNum s4 = (s5, n5)) (z5 : IntKind.i64.wrap (n5 : Int) = t5) (ho : ∀ (W : World) (c : Nat) (F : List Nat), Qs W c F s5 → Calls Tryz.prog 23 #[.pointer (some ⟨c, 0, none⟩)] W (OpP W c F s6 on ks vs rv)) (c1 : ((kn : Int) == 1) = true) {p : Ml} (hp : p = { zeroM with kind := (kn : Int), frm := (fn : Int), dst := (dn : Int), shard := sh, client := wrap64 ((fn : Int) - 100), seq := t5, okind := on, key := ks, val := vs, rev := rv }) : Calls Tryz.prog 10 #[v] w (RRdP w p) := by
  have HC1 : Hid (∀ (W : World) (c : Nat) (F : List Nat), Qs W c F ⟨0, bs, []⟩ → Calls Tryz.prog 21 #[.pointer (some ⟨c, 0, none⟩)] W fun e w' => e = .returned (.int .i64 (kn : Int)) ∧ QsQ W c F s1 w') := fun W c F h => by have := qbyte_q h; rw [e1] at this; exact this
  have HC2 : Hid (∀ (W : World) (c : Nat) (F : List Nat), Qs W c F s1 → Calls Tryz.prog 21 #[.pointer (some ⟨c, 0, none⟩)] W fun e w' => e = .returned (.int .i64 (fn : Int)) ∧ QsQ W c F s2 w') := fun W c F h => by have := qbyte_q h; rw [e2] at this; exact this
  have HC3 : Hid (∀ (W : World) (c : Nat) (F : List Nat), Qs W c F s2 → Calls Tryz.prog 21 #[.pointer (some ⟨c, 0, none⟩)] W fun e w' => e = .returned (.int .i64 (dn : Int)) ∧ QsQ W c F s3 w') := fun W c F h => by have := qbyte_q h; rw [e3] at this; exact this
  have HC4 : Hid (∀ (W : World) (c : Nat) (F : List Nat), Qs W c F s3 → Calls Tryz.prog 22 #[.pointer (some ⟨c, 0, none⟩)] W fun e w' => e = .returned (.int .u64 (sn : Int)) ∧ QsQ W c F s4 w') := fun W c F h => by have := qnum_q h; rw [e4] at this; exact this
  have HC5 : Hid (∀ (W : World) (c : Nat) (F : List Nat), Qs W c F s4 → Calls Tryz.prog 22 #[.pointer (some ⟨c, 0, none⟩)] W fun e w' => e = .returned (.int .u64 (n5 : Int)) ∧ QsQ W c F s5 w') := fun W c F h => by have := qnum_q h; rw [e5] at this; exact this
  have HC6 := hide ho
  clear e1 e2 e3 e4 e5 ho
  have HP := hide hp
  have HW0 := hide (hx.kept ((Kept.refl [] w).alloc (.cells (mcc zeroM nilM) 30)))
  have HBY := hide hb
  have HPL := hide hl
  clear hx hb hl hp
  go_enter Tryz.func10, Tryz.ntmps10
  go_upto_region 3 with (first
    | (go_at_call 20; refine (qread_any (unhide HW0) (unhide HBY) (unhide HPL)).mono ?_; rintro e w1 ⟨c, F, rfl, hq1, hF, k1⟩; have HQ1 := hide hq1; have HF := hide hF; have HK1 := hide k1; clear hq1 hF k1)
    | (go_at_call 21; refine (unhide HC1 _ _ _ (unhide HQ1)).mono ?_; rintro e w2 ⟨rfl, hq2⟩; clear HC1; have HQ2 := hide hq2; clear hq2)
    | (go_at_call 21; refine (unhide HC2 _ _ _ (unhide HQ2).1).mono ?_; rintro e w3 ⟨rfl, hq3⟩; clear HC2; have HQ3 := hide hq3; clear hq3)
    | (go_at_call 21; refine (unhide HC3 _ _ _ (unhide HQ3).1).mono ?_; rintro e w4 ⟨rfl, hq4⟩; clear HC3; have HQ4 := hide hq4; clear hq4)
    | (go_at_call 22; refine (unhide HC4 _ _ _ (unhide HQ4).1).mono ?_; rintro e w5 ⟨rfl, hq5⟩; clear HC4; have HD := hide (DQ.begin (unhide HF) ((((unhide HK1).trans (unhide HQ2).2 (fun x hx => Or.inr (unhide HF x hx))).trans (unhide HQ3).2 (fun x hx => Or.inr (unhide HF x hx))).trans (unhide HQ4).2 (fun x hx => Or.inr (unhide HF x hx)) |>.trans hq5.2 (fun x hx => Or.inr (unhide HF x hx))) hq5.1 (kn : Int) (fn : Int) (dn : Int) sh); clear hq5 HQ1 HQ2 HQ3 HQ4)
    | (refine wpList_store_row rfl 30 _ _ rfl _ (mcc { zeroM with kind := (kn : Int), frm := (fn : Int), dst := (dn : Int), shard := sh } nilM) rfl rfl 30 _ (Blk.new w5 _ _) infoMail rfl (by simp [mcc, Value.oneCell']) ?_))
  refine world_at (R := fun X => DQ (w.alloc (.cells (mcc zeroM nilM) 30)) w5.heap.size c { zeroM with kind := (kn : Int), frm := (fn : Int), dst := (dn : Int), shard := sh } nilM F X s4) (unhide HD) ?_
  clear HD
  rintro X hd0
  generalize w5.heap.size = B at *
  have HD := hide hd0
  have c0 : X.cell? ⟨B, 0, none⟩ = some (.int .i64 (kn : Int)) := (hd0.blk.cell 0).trans rfl
  clear hd0
  go_upto_region 8 with (first
    | (go_at_call 22; refine (unhide HC5 _ _ _ (unhide HD).rd).mono ?_; rintro e v5 ⟨rfl, hq⟩; clear HC5; have hd := (unhide HD).call hq; have b8 : v5.cell? ⟨B, 8, none⟩ = some _ := (hd.blk.cell 8).trans rfl; have f8 := hd.blk.frozen 8; have HD := hide (hd.num t5 (o := 8) (by simp [isN])); clear hq hd)
    | (go_at_call 23; refine (unhide HC6 _ _ _ (unhide HD).rd).mono ?_; rintro e v6 ⟨ka, kc, va, vc, rfl, hq, nk, nv, ok, ov⟩; clear HC6; have hk := (unhide HD).nop nk ok; have hv := (unhide HD).nop nv ov; have hd := (unhide HD).call hq; have b9 : v6.cell? ⟨B, 9, none⟩ = some _ := (hd.blk.cell 9).trans rfl; have b10 : v6.cell? ⟨B, 10, none⟩ = some _ := (hd.blk.cell 10).trans rfl; have b11 : v6.cell? ⟨B, 11, none⟩ = some _ := (hd.blk.cell 11).trans rfl; have b12 : v6.cell? ⟨B, 12, none⟩ = some _ := (hd.blk.cell 12).trans rfl; have f9 := hd.blk.frozen 9; have f10 := hd.blk.frozen 10; have f11 := hd.blk.frozen 11; have f12 := hd.blk.frozen 12; have HD := hide (hd.op hk hv on rv); clear hq hd nk nv ok ov hk hv))
  refine world_at (R := fun X => DQ (w.alloc (.cells (mcc zeroM nilM) 30)) B c _ _ F X _) (unhide HD) ?_
  clear HD
  rintro X2 hd2
  have HD0 := hide hd2
  have b1 : X2.cell? ⟨B, 1, none⟩ = some (.int .i64 (fn : Int)) := (hd2.blk.cell 1).trans rfl
  have b7 : X2.cell? ⟨B, 7, none⟩ = some _ := (hd2.blk.cell 7).trans rfl
  have f7 := hd2.blk.frozen 7
  have HD := hide (hd2.client (wrap64 ((fn : Int) - 100)))
  clear hd2
  go_upto_region 24 with fail
  refine world_at (R := fun Y => DQ (w.alloc (.cells (mcc zeroM nilM) 30)) B c p _ F Y _) (by rw [unhide HP]; exact unhide HD) ?_
  clear HD
  rintro Y hY
  have HY := hide hY
  clear hY
  go_wp2_with (first
    | (refine wpList_load_guard 30 _ rfl _ rfl 30 _ (0, 0) _ (unhide HY).blk Tryz.underlying30 rfl infoMail rfl ?_)
    | (refine wpList_store_row rfl 30 _ _ rfl w.heap.size (mcc p _) rfl rfl 30 _ (unhide HY).out.1 infoMail rfl (by simp [mcc, Value.oneCell']) ?_))
  refine ret_struct rfl rfl (setRow_heap _ _ _ _ _ _ (unhide HY).out.1) Tryz.underlying30 infoMail rfl ?_
  exact (unhide HY).out.2
end Go.Proofs.YtfhfkpgfnlmfhaaGreatDoor

/- The document's read: a reply. -/
namespace Go.Proofs.YtfhfkpgfnlmfhaaGreatDoor
open Go.RowKit

set_option maxRecDepth 100000 in
set_option maxHeartbeats 1600000 in
theorem rread_r0 {w : World} {v : Value} {bs : List Nat} {s1 s2 s3 s4 : RS} {kn fn dn sn : Nat} {sh : Int} {s5 : RS} {n5 : Nat} {t5 : Int} {s6 : RS} {n6 : Nat} {t6 : Int} {s7 : RS} {n7 : Nat} {s8 : RS} {x8 : List Nat} {s9 : RS} {x9 : List Nat} {s10 : RS} {n10 : Nat} {t10 : Int} {s11 : RS} {n11 : Nat} {t11 : Int} (hx : Wide w v bs) (hb : ∀ x ∈ bs, x < 256) (hl : bs.length ≤ 140737488355328) (e1 : rByte ⟨0, bs, []⟩ = (s1, kn)) (e2 : rByte s1 = (s2, fn)) (e3 : rByte s2 = (s3, dn)) (e4 : rNum s3 = (s4, sn)) (z4 : IntKind.i64.wrap (sn : Int) = sh) (e5 : rNum s4 = (s5, n5)) (z5 : IntKind.i64.wrap (n5 : Int) = t5) (e6 : rNum s5 = (s6, n6)) (z6 : IntKind.i64.wrap (n6 : Int) = t6) (e7 : rByte s6 = (s7, n7)) (e8 : rText s7 524288 = (s8, x8)) (e9 : rText s8 524288 = (s9, x9)) (e10 : rNum s9 = (s10, n10)) (z10 : IntKind.i64.wrap (n10 : Int) = t10) (e11 : rNum s10 = (s11, n11)) (z11 : IntKind.i64.wrap (n11 : Int) = t11) (c1 : ((kn : Int) == 1) = false) (c2 : ((kn : Int) == 2) = true) (c6 : (t6 == 0) = true) {p : Ml} (hp : p = { zeroM with kind := (kn : Int), frm := (fn : Int), dst := (dn : Int), shard := sh, client := wrap64 ((dn : Int) - 100), seq := t5, verd := t6, done := ((n7 : Int) == 1), akey := x8, aval := x9, arev := t10, aat := t11 }) : Calls Tryz.prog 10 #[v] w (RRdP w p) := by
  have HC1 : Hid (∀ (W : World) (c : Nat) (F : List Nat), Qs W c F ⟨0, bs, []⟩ → Calls Tryz.prog 21 #[.pointer (some ⟨c, 0, none⟩)] W fun e w' => e = .returned (.int .i64 (kn : Int)) ∧ QsQ W c F s1 w') := fun W c F h => by have := qbyte_q h; rw [e1] at this; exact this
  have HC2 : Hid (∀ (W : World) (c : Nat) (F : List Nat), Qs W c F s1 → Calls Tryz.prog 21 #[.pointer (some ⟨c, 0, none⟩)] W fun e w' => e = .returned (.int .i64 (fn : Int)) ∧ QsQ W c F s2 w') := fun W c F h => by have := qbyte_q h; rw [e2] at this; exact this
  have HC3 : Hid (∀ (W : World) (c : Nat) (F : List Nat), Qs W c F s2 → Calls Tryz.prog 21 #[.pointer (some ⟨c, 0, none⟩)] W fun e w' => e = .returned (.int .i64 (dn : Int)) ∧ QsQ W c F s3 w') := fun W c F h => by have := qbyte_q h; rw [e3] at this; exact this
  have HC4 : Hid (∀ (W : World) (c : Nat) (F : List Nat), Qs W c F s3 → Calls Tryz.prog 22 #[.pointer (some ⟨c, 0, none⟩)] W fun e w' => e = .returned (.int .u64 (sn : Int)) ∧ QsQ W c F s4 w') := fun W c F h => by have := qnum_q h; rw [e4] at this; exact this
  have HC5 : Hid (∀ (W : World) (c : Nat) (F : List Nat), Qs W c F s4 → Calls Tryz.prog 22 #[.pointer (some ⟨c, 0, none⟩)] W fun e w' => e = .returned (.int .u64 (n5 : Int)) ∧ QsQ W c F s5 w') := fun W c F h => by have := qnum_q h; rw [e5] at this; exact this
  have HC6 : Hid (∀ (W : World) (c : Nat) (F : List Nat), Qs W c F s5 → Calls Tryz.prog 22 #[.pointer (some ⟨c, 0, none⟩)] W fun e w' => e = .returned (.int .u64 (n6 : Int)) ∧ QsQ W c F s6 w') := fun W c F h => by have := qnum_q h; rw [e6] at this; exact this
  have HC7 : Hid (∀ (W : World) (c : Nat) (F : List Nat), Qs W c F s6 → Calls Tryz.prog 21 #[.pointer (some ⟨c, 0, none⟩)] W fun e w' => e = .returned (.int .i64 (n7 : Int)) ∧ QsQ W c F s7 w') := fun W c F h => by have := qbyte_q h; rw [e7] at this; exact this
  have HC8 : Hid (∀ (W : World) (c : Nat) (F : List Nat), Qs W c F s7 → Calls Tryz.prog 24 #[.pointer (some ⟨c, 0, none⟩), .int .i64 524288] W fun e w' => NewB W x8 e w' ∧ QsQ W c F s8 w') := fun W c F h => by have := qtext_q h 524288 (by omega); rw [e8] at this; exact this
  have HC9 : Hid (∀ (W : World) (c : Nat) (F : List Nat), Qs W c F s8 → Calls Tryz.prog 24 #[.pointer (some ⟨c, 0, none⟩), .int .i64 524288] W fun e w' => NewB W x9 e w' ∧ QsQ W c F s9 w') := fun W c F h => by have := qtext_q h 524288 (by omega); rw [e9] at this; exact this
  have HC10 : Hid (∀ (W : World) (c : Nat) (F : List Nat), Qs W c F s9 → Calls Tryz.prog 22 #[.pointer (some ⟨c, 0, none⟩)] W fun e w' => e = .returned (.int .u64 (n10 : Int)) ∧ QsQ W c F s10 w') := fun W c F h => by have := qnum_q h; rw [e10] at this; exact this
  have HC11 : Hid (∀ (W : World) (c : Nat) (F : List Nat), Qs W c F s10 → Calls Tryz.prog 22 #[.pointer (some ⟨c, 0, none⟩)] W fun e w' => e = .returned (.int .u64 (n11 : Int)) ∧ QsQ W c F s11 w') := fun W c F h => by have := qnum_q h; rw [e11] at this; exact this
  clear e1 e2 e3 e4 e5 e6 e7 e8 e9 e10 e11
  have HP := hide hp
  have HW0 := hide (hx.kept ((Kept.refl [] w).alloc (.cells (mcc zeroM nilM) 30)))
  have HBY := hide hb
  have HPL := hide hl
  clear hx hb hl hp
  go_enter Tryz.func10, Tryz.ntmps10
  go_upto_region 3 with (first
    | (go_at_call 20; refine (qread_any (unhide HW0) (unhide HBY) (unhide HPL)).mono ?_; rintro e w1 ⟨c, F, rfl, hq1, hF, k1⟩; have HQ1 := hide hq1; have HF := hide hF; have HK1 := hide k1; clear hq1 hF k1)
    | (go_at_call 21; refine (unhide HC1 _ _ _ (unhide HQ1)).mono ?_; rintro e w2 ⟨rfl, hq2⟩; clear HC1; have HQ2 := hide hq2; clear hq2)
    | (go_at_call 21; refine (unhide HC2 _ _ _ (unhide HQ2).1).mono ?_; rintro e w3 ⟨rfl, hq3⟩; clear HC2; have HQ3 := hide hq3; clear hq3)
    | (go_at_call 21; refine (unhide HC3 _ _ _ (unhide HQ3).1).mono ?_; rintro e w4 ⟨rfl, hq4⟩; clear HC3; have HQ4 := hide hq4; clear hq4)
    | (go_at_call 22; refine (unhide HC4 _ _ _ (unhide HQ4).1).mono ?_; rintro e w5 ⟨rfl, hq5⟩; clear HC4; have HD := hide (DQ.begin (unhide HF) ((((unhide HK1).trans (unhide HQ2).2 (fun x hx => Or.inr (unhide HF x hx))).trans (unhide HQ3).2 (fun x hx => Or.inr (unhide HF x hx))).trans (unhide HQ4).2 (fun x hx => Or.inr (unhide HF x hx)) |>.trans hq5.2 (fun x hx => Or.inr (unhide HF x hx))) hq5.1 (kn : Int) (fn : Int) (dn : Int) sh); clear hq5 HQ1 HQ2 HQ3 HQ4)
    | (refine wpList_store_row rfl 30 _ _ rfl _ (mcc { zeroM with kind := (kn : Int), frm := (fn : Int), dst := (dn : Int), shard := sh } nilM) rfl rfl 30 _ (Blk.new w5 _ _) infoMail rfl (by simp [mcc, Value.oneCell']) ?_))
  refine world_at (R := fun X => DQ (w.alloc (.cells (mcc zeroM nilM) 30)) w5.heap.size c { zeroM with kind := (kn : Int), frm := (fn : Int), dst := (dn : Int), shard := sh } nilM F X s4) (unhide HD) ?_
  clear HD
  rintro X hd0
  generalize w5.heap.size = B at *
  have HD := hide hd0
  have c0 : X.cell? ⟨B, 0, none⟩ = some (.int .i64 (kn : Int)) := (hd0.blk.cell 0).trans rfl
  clear hd0
  go_upto_region 12 with (first
    | (go_at_call 22; refine (unhide HC5 _ _ _ (unhide HD).rd).mono ?_; rintro e v5 ⟨rfl, hq⟩; clear HC5; have hd := (unhide HD).call hq; have b8 : v5.cell? ⟨B, 8, none⟩ = some _ := (hd.blk.cell 8).trans rfl; have f8 := hd.blk.frozen 8; have HD := hide (hd.num t5 (o := 8) (by simp [isN])); clear hq hd)
    | (go_at_call 22; refine (unhide HC6 _ _ _ (unhide HD).rd).mono ?_; rintro e v6 ⟨rfl, hq⟩; clear HC6; have hd := (unhide HD).call hq; have b13 : v6.cell? ⟨B, 13, none⟩ = some _ := (hd.blk.cell 13).trans rfl; have f13 := hd.blk.frozen 13; have HD := hide (hd.num t6 (o := 13) (by simp [isN])); clear hq hd))
  refine world_at (R := fun X => DQ (w.alloc (.cells (mcc zeroM nilM) 30)) B c _ _ F X _) (unhide HD) ?_
  clear HD
  rintro X2 hd2
  have HD0 := hide hd2
  have b2 : X2.cell? ⟨B, 2, none⟩ = some (.int .i64 (dn : Int)) := (hd2.blk.cell 2).trans rfl
  have b7 : X2.cell? ⟨B, 7, none⟩ = some _ := (hd2.blk.cell 7).trans rfl
  have f7 := hd2.blk.frozen 7
  have HD := hide (hd2.client (wrap64 ((dn : Int) - 100)))
  clear hd2
  go_upto_region 13 with fail
  refine world_at (R := fun X => DQ (w.alloc (.cells (mcc zeroM nilM) 30)) B c _ _ F X _) (unhide HD) ?_
  clear HD HD0
  rintro X3 hd3
  have HD := hide hd3
  have b13 : X3.cell? ⟨B, 13, none⟩ = some (.int .i64 t6) := (hd3.blk.cell 13).trans rfl
  clear hd3
  go_upto_region 24 with (first
    | (go_at_call 21; refine (unhide HC7 _ _ _ (unhide HD).rd).mono ?_; rintro e v7 ⟨rfl, hq⟩; clear HC7; have hd := (unhide HD).call hq; have b14 : v7.cell? ⟨B, 14, none⟩ = some _ := (hd.blk.cell 14).trans rfl; have f14 := hd.blk.frozen 14; have HD := hide (hd.flag ((n7 : Int) == 1)); clear hq hd)
    | (go_at_call 24; refine (unhide HC8 _ _ _ (unhide HD).rd).mono ?_; rintro e v8 ⟨⟨a8, cap8, rfl, ho⟩, hq⟩; clear HC8; have hn := (unhide HD).nt ho; have hd := (unhide HD).call hq; have b15 : v8.cell? ⟨B, 15, none⟩ = some _ := (hd.blk.cell 15).trans rfl; have f15 := hd.blk.frozen 15; have HD := hide (hd.text hn (o := 15) (by simp [isT])); clear hq hd hn ho)
    | (go_at_call 24; refine (unhide HC9 _ _ _ (unhide HD).rd).mono ?_; rintro e v9 ⟨⟨a9, cap9, rfl, ho⟩, hq⟩; clear HC9; have hn := (unhide HD).nt ho; have hd := (unhide HD).call hq; have b16 : v9.cell? ⟨B, 16, none⟩ = some _ := (hd.blk.cell 16).trans rfl; have f16 := hd.blk.frozen 16; have HD := hide (hd.text hn (o := 16) (by simp [isT])); clear hq hd hn ho)
    | (go_at_call 22; refine (unhide HC10 _ _ _ (unhide HD).rd).mono ?_; rintro e v10 ⟨rfl, hq⟩; clear HC10; have hd := (unhide HD).call hq; have b17 : v10.cell? ⟨B, 17, none⟩ = some _ := (hd.blk.cell 17).trans rfl; have f17 := hd.blk.frozen 17; have HD := hide (hd.num t10 (o := 17) (by simp [isN])); clear hq hd)
    | (go_at_call 22; refine (unhide HC11 _ _ _ (unhide HD).rd).mono ?_; rintro e v11 ⟨rfl, hq⟩; clear HC11; have hd := (unhide HD).call hq; have b18 : v11.cell? ⟨B, 18, none⟩ = some _ := (hd.blk.cell 18).trans rfl; have f18 := hd.blk.frozen 18; have HD := hide (hd.num t11 (o := 18) (by simp [isN])); clear hq hd))
  refine world_at (R := fun Y => DQ (w.alloc (.cells (mcc zeroM nilM) 30)) B c p _ F Y _) (by rw [unhide HP]; exact unhide HD) ?_
  clear HD
  rintro Y hY
  have HY := hide hY
  clear hY
  go_wp2_with (first
    | (refine wpList_load_guard 30 _ rfl _ rfl 30 _ (0, 0) _ (unhide HY).blk Tryz.underlying30 rfl infoMail rfl ?_)
    | (refine wpList_store_row rfl 30 _ _ rfl w.heap.size (mcc p _) rfl rfl 30 _ (unhide HY).out.1 infoMail rfl (by simp [mcc, Value.oneCell']) ?_))
  refine ret_struct rfl rfl (setRow_heap _ _ _ _ _ _ (unhide HY).out.1) Tryz.underlying30 infoMail rfl ?_
  exact (unhide HY).out.2
set_option maxRecDepth 100000 in
set_option maxHeartbeats 1600000 in
theorem rread_r1 {w : World} {v : Value} {bs : List Nat} {s1 s2 s3 s4 : RS} {kn fn dn sn : Nat} {sh : Int} {s5 : RS} {n5 : Nat} {t5 : Int} {s6 : RS} {n6 : Nat} {t6 : Int} {s7 : RS} {n7 : Nat} (hx : Wide w v bs) (hb : ∀ x ∈ bs, x < 256) (hl : bs.length ≤ 140737488355328) (e1 : rByte ⟨0, bs, []⟩ = (s1, kn)) (e2 : rByte s1 = (s2, fn)) (e3 : rByte s2 = (s3, dn)) (e4 : rNum s3 = (s4, sn)) (z4 : IntKind.i64.wrap (sn : Int) = sh) (e5 : rNum s4 = (s5, n5)) (z5 : IntKind.i64.wrap (n5 : Int) = t5) (e6 : rNum s5 = (s6, n6)) (z6 : IntKind.i64.wrap (n6 : Int) = t6) (e7 : rByte s6 = (s7, n7)) (c1 : ((kn : Int) == 1) = false) (c2 : ((kn : Int) == 2) = true) (c6 : (t6 == 0) = false) {p : Ml} (hp : p = { zeroM with kind := (kn : Int), frm := (fn : Int), dst := (dn : Int), shard := sh, client := wrap64 ((dn : Int) - 100), seq := t5, verd := t6, hint := (n7 : Int) }) : Calls Tryz.prog 10 #[v] w (RRdP w p) := by
  have HC1 : Hid (∀ (W : World) (c : Nat) (F : List Nat), Qs W c F ⟨0, bs, []⟩ → Calls Tryz.prog 21 #[.pointer (some ⟨c, 0, none⟩)] W fun e w' => e = .returned (.int .i64 (kn : Int)) ∧ QsQ W c F s1 w') := fun W c F h => by have := qbyte_q h; rw [e1] at this; exact this
  have HC2 : Hid (∀ (W : World) (c : Nat) (F : List Nat), Qs W c F s1 → Calls Tryz.prog 21 #[.pointer (some ⟨c, 0, none⟩)] W fun e w' => e = .returned (.int .i64 (fn : Int)) ∧ QsQ W c F s2 w') := fun W c F h => by have := qbyte_q h; rw [e2] at this; exact this
  have HC3 : Hid (∀ (W : World) (c : Nat) (F : List Nat), Qs W c F s2 → Calls Tryz.prog 21 #[.pointer (some ⟨c, 0, none⟩)] W fun e w' => e = .returned (.int .i64 (dn : Int)) ∧ QsQ W c F s3 w') := fun W c F h => by have := qbyte_q h; rw [e3] at this; exact this
  have HC4 : Hid (∀ (W : World) (c : Nat) (F : List Nat), Qs W c F s3 → Calls Tryz.prog 22 #[.pointer (some ⟨c, 0, none⟩)] W fun e w' => e = .returned (.int .u64 (sn : Int)) ∧ QsQ W c F s4 w') := fun W c F h => by have := qnum_q h; rw [e4] at this; exact this
  have HC5 : Hid (∀ (W : World) (c : Nat) (F : List Nat), Qs W c F s4 → Calls Tryz.prog 22 #[.pointer (some ⟨c, 0, none⟩)] W fun e w' => e = .returned (.int .u64 (n5 : Int)) ∧ QsQ W c F s5 w') := fun W c F h => by have := qnum_q h; rw [e5] at this; exact this
  have HC6 : Hid (∀ (W : World) (c : Nat) (F : List Nat), Qs W c F s5 → Calls Tryz.prog 22 #[.pointer (some ⟨c, 0, none⟩)] W fun e w' => e = .returned (.int .u64 (n6 : Int)) ∧ QsQ W c F s6 w') := fun W c F h => by have := qnum_q h; rw [e6] at this; exact this
  have HC7 : Hid (∀ (W : World) (c : Nat) (F : List Nat), Qs W c F s6 → Calls Tryz.prog 21 #[.pointer (some ⟨c, 0, none⟩)] W fun e w' => e = .returned (.int .i64 (n7 : Int)) ∧ QsQ W c F s7 w') := fun W c F h => by have := qbyte_q h; rw [e7] at this; exact this
  clear e1 e2 e3 e4 e5 e6 e7
  have HP := hide hp
  have HW0 := hide (hx.kept ((Kept.refl [] w).alloc (.cells (mcc zeroM nilM) 30)))
  have HBY := hide hb
  have HPL := hide hl
  clear hx hb hl hp
  go_enter Tryz.func10, Tryz.ntmps10
  go_upto_region 3 with (first
    | (go_at_call 20; refine (qread_any (unhide HW0) (unhide HBY) (unhide HPL)).mono ?_; rintro e w1 ⟨c, F, rfl, hq1, hF, k1⟩; have HQ1 := hide hq1; have HF := hide hF; have HK1 := hide k1; clear hq1 hF k1)
    | (go_at_call 21; refine (unhide HC1 _ _ _ (unhide HQ1)).mono ?_; rintro e w2 ⟨rfl, hq2⟩; clear HC1; have HQ2 := hide hq2; clear hq2)
    | (go_at_call 21; refine (unhide HC2 _ _ _ (unhide HQ2).1).mono ?_; rintro e w3 ⟨rfl, hq3⟩; clear HC2; have HQ3 := hide hq3; clear hq3)
    | (go_at_call 21; refine (unhide HC3 _ _ _ (unhide HQ3).1).mono ?_; rintro e w4 ⟨rfl, hq4⟩; clear HC3; have HQ4 := hide hq4; clear hq4)
    | (go_at_call 22; refine (unhide HC4 _ _ _ (unhide HQ4).1).mono ?_; rintro e w5 ⟨rfl, hq5⟩; clear HC4; have HD := hide (DQ.begin (unhide HF) ((((unhide HK1).trans (unhide HQ2).2 (fun x hx => Or.inr (unhide HF x hx))).trans (unhide HQ3).2 (fun x hx => Or.inr (unhide HF x hx))).trans (unhide HQ4).2 (fun x hx => Or.inr (unhide HF x hx)) |>.trans hq5.2 (fun x hx => Or.inr (unhide HF x hx))) hq5.1 (kn : Int) (fn : Int) (dn : Int) sh); clear hq5 HQ1 HQ2 HQ3 HQ4)
    | (refine wpList_store_row rfl 30 _ _ rfl _ (mcc { zeroM with kind := (kn : Int), frm := (fn : Int), dst := (dn : Int), shard := sh } nilM) rfl rfl 30 _ (Blk.new w5 _ _) infoMail rfl (by simp [mcc, Value.oneCell']) ?_))
  refine world_at (R := fun X => DQ (w.alloc (.cells (mcc zeroM nilM) 30)) w5.heap.size c { zeroM with kind := (kn : Int), frm := (fn : Int), dst := (dn : Int), shard := sh } nilM F X s4) (unhide HD) ?_
  clear HD
  rintro X hd0
  generalize w5.heap.size = B at *
  have HD := hide hd0
  have c0 : X.cell? ⟨B, 0, none⟩ = some (.int .i64 (kn : Int)) := (hd0.blk.cell 0).trans rfl
  clear hd0
  go_upto_region 12 with (first
    | (go_at_call 22; refine (unhide HC5 _ _ _ (unhide HD).rd).mono ?_; rintro e v5 ⟨rfl, hq⟩; clear HC5; have hd := (unhide HD).call hq; have b8 : v5.cell? ⟨B, 8, none⟩ = some _ := (hd.blk.cell 8).trans rfl; have f8 := hd.blk.frozen 8; have HD := hide (hd.num t5 (o := 8) (by simp [isN])); clear hq hd)
    | (go_at_call 22; refine (unhide HC6 _ _ _ (unhide HD).rd).mono ?_; rintro e v6 ⟨rfl, hq⟩; clear HC6; have hd := (unhide HD).call hq; have b13 : v6.cell? ⟨B, 13, none⟩ = some _ := (hd.blk.cell 13).trans rfl; have f13 := hd.blk.frozen 13; have HD := hide (hd.num t6 (o := 13) (by simp [isN])); clear hq hd))
  refine world_at (R := fun X => DQ (w.alloc (.cells (mcc zeroM nilM) 30)) B c _ _ F X _) (unhide HD) ?_
  clear HD
  rintro X2 hd2
  have HD0 := hide hd2
  have b2 : X2.cell? ⟨B, 2, none⟩ = some (.int .i64 (dn : Int)) := (hd2.blk.cell 2).trans rfl
  have b7 : X2.cell? ⟨B, 7, none⟩ = some _ := (hd2.blk.cell 7).trans rfl
  have f7 := hd2.blk.frozen 7
  have HD := hide (hd2.client (wrap64 ((dn : Int) - 100)))
  clear hd2
  go_upto_region 13 with fail
  refine world_at (R := fun X => DQ (w.alloc (.cells (mcc zeroM nilM) 30)) B c _ _ F X _) (unhide HD) ?_
  clear HD HD0
  rintro X3 hd3
  have HD := hide hd3
  have b13 : X3.cell? ⟨B, 13, none⟩ = some (.int .i64 t6) := (hd3.blk.cell 13).trans rfl
  clear hd3
  go_upto_region 24 with (first
    | (go_at_call 21; refine (unhide HC7 _ _ _ (unhide HD).rd).mono ?_; rintro e v7 ⟨rfl, hq⟩; clear HC7; have hd := (unhide HD).call hq; have b19 : v7.cell? ⟨B, 19, none⟩ = some _ := (hd.blk.cell 19).trans rfl; have f19 := hd.blk.frozen 19; have HD := hide (hd.num (n7 : Int) (o := 19) (by simp [isN])); clear hq hd))
  refine world_at (R := fun Y => DQ (w.alloc (.cells (mcc zeroM nilM) 30)) B c p _ F Y _) (by rw [unhide HP]; exact unhide HD) ?_
  clear HD
  rintro Y hY
  have HY := hide hY
  clear hY
  go_wp2_with (first
    | (refine wpList_load_guard 30 _ rfl _ rfl 30 _ (0, 0) _ (unhide HY).blk Tryz.underlying30 rfl infoMail rfl ?_)
    | (refine wpList_store_row rfl 30 _ _ rfl w.heap.size (mcc p _) rfl rfl 30 _ (unhide HY).out.1 infoMail rfl (by simp [mcc, Value.oneCell']) ?_))
  refine ret_struct rfl rfl (setRow_heap _ _ _ _ _ _ (unhide HY).out.1) Tryz.underlying30 infoMail rfl ?_
  exact (unhide HY).out.2
end Go.Proofs.YtfhfkpgfnlmfhaaGreatDoor

/- The document's read: an offer. -/
namespace Go.Proofs.YtfhfkpgfnlmfhaaGreatDoor
open Go.RowKit

set_option maxRecDepth 100000 in
set_option maxHeartbeats 1600000 in
theorem rread_o {w : World} {v : Value} {bs : List Nat} {s1 s2 s3 s4 : RS} {kn fn dn sn : Nat} {sh : Int} {s5 : RS} {n5 : Nat} {t5 : Int} {s6 : RS} {n6 : Nat} {s7 : RS} {x7 : List Nat} (hx : Wide w v bs) (hb : ∀ x ∈ bs, x < 256) (hl : bs.length ≤ 140737488355328) (e1 : rByte ⟨0, bs, []⟩ = (s1, kn)) (e2 : rByte s1 = (s2, fn)) (e3 : rByte s2 = (s3, dn)) (e4 : rNum s3 = (s4, sn)) (z4 : IntKind.i64.wrap (sn : Int) = sh) (e5 : rNum s4 = (s5, n5)) (z5 : IntKind.i64.wrap (n5 : Int) = t5) (e6 : rFixed s5 8 = (s6, n6)) (e7 : rText s6 524288 = (s7, x7)) (c1 : ((kn : Int) == 1) = false) (c2 : ((kn : Int) == 2) = false) (c3 : ((kn : Int) == 3) = true) {p : Ml} (hp : p = { zeroM with kind := (kn : Int), frm := (fn : Int), dst := (dn : Int), shard := sh, epoch := t5, root := n6, copy := x7 }) : Calls Tryz.prog 10 #[v] w (RRdP w p) := by
  have HC1 : Hid (∀ (W : World) (c : Nat) (F : List Nat), Qs W c F ⟨0, bs, []⟩ → Calls Tryz.prog 21 #[.pointer (some ⟨c, 0, none⟩)] W fun e w' => e = .returned (.int .i64 (kn : Int)) ∧ QsQ W c F s1 w') := fun W c F h => by have := qbyte_q h; rw [e1] at this; exact this
  have HC2 : Hid (∀ (W : World) (c : Nat) (F : List Nat), Qs W c F s1 → Calls Tryz.prog 21 #[.pointer (some ⟨c, 0, none⟩)] W fun e w' => e = .returned (.int .i64 (fn : Int)) ∧ QsQ W c F s2 w') := fun W c F h => by have := qbyte_q h; rw [e2] at this; exact this
  have HC3 : Hid (∀ (W : World) (c : Nat) (F : List Nat), Qs W c F s2 → Calls Tryz.prog 21 #[.pointer (some ⟨c, 0, none⟩)] W fun e w' => e = .returned (.int .i64 (dn : Int)) ∧ QsQ W c F s3 w') := fun W c F h => by have := qbyte_q h; rw [e3] at this; exact this
  have HC4 : Hid (∀ (W : World) (c : Nat) (F : List Nat), Qs W c F s3 → Calls Tryz.prog 22 #[.pointer (some ⟨c, 0, none⟩)] W fun e w' => e = .returned (.int .u64 (sn : Int)) ∧ QsQ W c F s4 w') := fun W c F h => by have := qnum_q h; rw [e4] at this; exact this
  have HC5 : Hid (∀ (W : World) (c : Nat) (F : List Nat), Qs W c F s4 → Calls Tryz.prog 22 #[.pointer (some ⟨c, 0, none⟩)] W fun e w' => e = .returned (.int .u64 (n5 : Int)) ∧ QsQ W c F s5 w') := fun W c F h => by have := qnum_q h; rw [e5] at this; exact this
  have HC6 : Hid (∀ (W : World) (c : Nat) (F : List Nat), Qs W c F s5 → Calls Tryz.prog 25 #[.pointer (some ⟨c, 0, none⟩), .int .i64 8] W fun e w' => e = .returned (.int .u64 (n6 : Int)) ∧ QsQ W c F s6 w') := fun W c F h => by have := qfixed_q h 8; rw [e6] at this; exact this
  have HC7 : Hid (∀ (W : World) (c : Nat) (F : List Nat), Qs W c F s6 → Calls Tryz.prog 24 #[.pointer (some ⟨c, 0, none⟩), .int .i64 524288] W fun e w' => NewB W x7 e w' ∧ QsQ W c F s7 w') := fun W c F h => by have := qtext_q h 524288 (by omega); rw [e7] at this; exact this
  clear e1 e2 e3 e4 e5 e6 e7
  have HP := hide hp
  have HW0 := hide (hx.kept ((Kept.refl [] w).alloc (.cells (mcc zeroM nilM) 30)))
  have HBY := hide hb
  have HPL := hide hl
  clear hx hb hl hp
  go_enter Tryz.func10, Tryz.ntmps10
  go_upto_region 3 with (first
    | (go_at_call 20; refine (qread_any (unhide HW0) (unhide HBY) (unhide HPL)).mono ?_; rintro e w1 ⟨c, F, rfl, hq1, hF, k1⟩; have HQ1 := hide hq1; have HF := hide hF; have HK1 := hide k1; clear hq1 hF k1)
    | (go_at_call 21; refine (unhide HC1 _ _ _ (unhide HQ1)).mono ?_; rintro e w2 ⟨rfl, hq2⟩; clear HC1; have HQ2 := hide hq2; clear hq2)
    | (go_at_call 21; refine (unhide HC2 _ _ _ (unhide HQ2).1).mono ?_; rintro e w3 ⟨rfl, hq3⟩; clear HC2; have HQ3 := hide hq3; clear hq3)
    | (go_at_call 21; refine (unhide HC3 _ _ _ (unhide HQ3).1).mono ?_; rintro e w4 ⟨rfl, hq4⟩; clear HC3; have HQ4 := hide hq4; clear hq4)
    | (go_at_call 22; refine (unhide HC4 _ _ _ (unhide HQ4).1).mono ?_; rintro e w5 ⟨rfl, hq5⟩; clear HC4; have HD := hide (DQ.begin (unhide HF) ((((unhide HK1).trans (unhide HQ2).2 (fun x hx => Or.inr (unhide HF x hx))).trans (unhide HQ3).2 (fun x hx => Or.inr (unhide HF x hx))).trans (unhide HQ4).2 (fun x hx => Or.inr (unhide HF x hx)) |>.trans hq5.2 (fun x hx => Or.inr (unhide HF x hx))) hq5.1 (kn : Int) (fn : Int) (dn : Int) sh); clear hq5 HQ1 HQ2 HQ3 HQ4)
    | (refine wpList_store_row rfl 30 _ _ rfl _ (mcc { zeroM with kind := (kn : Int), frm := (fn : Int), dst := (dn : Int), shard := sh } nilM) rfl rfl 30 _ (Blk.new w5 _ _) infoMail rfl (by simp [mcc, Value.oneCell']) ?_))
  refine world_at (R := fun X => DQ (w.alloc (.cells (mcc zeroM nilM) 30)) w5.heap.size c { zeroM with kind := (kn : Int), frm := (fn : Int), dst := (dn : Int), shard := sh } nilM F X s4) (unhide HD) ?_
  clear HD
  rintro X hd0
  generalize w5.heap.size = B at *
  have HD := hide hd0
  have c0 : X.cell? ⟨B, 0, none⟩ = some (.int .i64 (kn : Int)) := (hd0.blk.cell 0).trans rfl
  clear hd0
  go_upto_region 24 with (first
    | (go_at_call 22; refine (unhide HC5 _ _ _ (unhide HD).rd).mono ?_; rintro e v5 ⟨rfl, hq⟩; clear HC5; have hd := (unhide HD).call hq; have b4 : v5.cell? ⟨B, 4, none⟩ = some _ := (hd.blk.cell 4).trans rfl; have f4 := hd.blk.frozen 4; have HD := hide (hd.num t5 (o := 4) (by simp [isN])); clear hq hd)
    | (go_at_call 25; refine (unhide HC6 _ _ _ (unhide HD).rd).mono ?_; rintro e v6 ⟨rfl, hq⟩; clear HC6; have hd := (unhide HD).call hq; have b5 : v6.cell? ⟨B, 5, none⟩ = some _ := (hd.blk.cell 5).trans rfl; have f5 := hd.blk.frozen 5; have HD := hide (hd.root n6); clear hq hd)
    | (go_at_call 24; refine (unhide HC7 _ _ _ (unhide HD).rd).mono ?_; rintro e v7 ⟨⟨a7, cap7, rfl, ho⟩, hq⟩; clear HC7; have hn := (unhide HD).nt ho; have hd := (unhide HD).call hq; have b6 : v7.cell? ⟨B, 6, none⟩ = some _ := (hd.blk.cell 6).trans rfl; have f6 := hd.blk.frozen 6; have HD := hide (hd.text hn (o := 6) (by simp [isT])); clear hq hd hn ho))
  refine world_at (R := fun Y => DQ (w.alloc (.cells (mcc zeroM nilM) 30)) B c p _ F Y _) (by rw [unhide HP]; exact unhide HD) ?_
  clear HD
  rintro Y hY
  have HY := hide hY
  clear hY
  go_wp2_with (first
    | (refine wpList_load_guard 30 _ rfl _ rfl 30 _ (0, 0) _ (unhide HY).blk Tryz.underlying30 rfl infoMail rfl ?_)
    | (refine wpList_store_row rfl 30 _ _ rfl w.heap.size (mcc p _) rfl rfl 30 _ (unhide HY).out.1 infoMail rfl (by simp [mcc, Value.oneCell']) ?_))
  refine ret_struct rfl rfl (setRow_heap _ _ _ _ _ _ (unhide HY).out.1) Tryz.underlying30 infoMail rfl ?_
  exact (unhide HY).out.2
end Go.Proofs.YtfhfkpgfnlmfhaaGreatDoor

/- The document's read: other kinds. -/
namespace Go.Proofs.YtfhfkpgfnlmfhaaGreatDoor
open Go.RowKit

set_option maxRecDepth 100000 in
set_option maxHeartbeats 1600000 in
theorem rread_h {w : World} {v : Value} {bs : List Nat} {s1 s2 s3 s4 : RS} {kn fn dn sn : Nat} {sh : Int} {s5 : RS} {n5 : Nat} {t5 : Int} (hx : Wide w v bs) (hb : ∀ x ∈ bs, x < 256) (hl : bs.length ≤ 140737488355328) (e1 : rByte ⟨0, bs, []⟩ = (s1, kn)) (e2 : rByte s1 = (s2, fn)) (e3 : rByte s2 = (s3, dn)) (e4 : rNum s3 = (s4, sn)) (z4 : IntKind.i64.wrap (sn : Int) = sh) (e5 : rNum s4 = (s5, n5)) (z5 : IntKind.i64.wrap (n5 : Int) = t5) (c1 : ((kn : Int) == 1) = false) (c2 : ((kn : Int) == 2) = false) (c3 : ((kn : Int) == 3) = false) {p : Ml} (hp : p = { zeroM with kind := (kn : Int), frm := (fn : Int), dst := (dn : Int), shard := sh, epoch := t5 }) : Calls Tryz.prog 10 #[v] w (RRdP w p) := by
  have HC1 : Hid (∀ (W : World) (c : Nat) (F : List Nat), Qs W c F ⟨0, bs, []⟩ → Calls Tryz.prog 21 #[.pointer (some ⟨c, 0, none⟩)] W fun e w' => e = .returned (.int .i64 (kn : Int)) ∧ QsQ W c F s1 w') := fun W c F h => by have := qbyte_q h; rw [e1] at this; exact this
  have HC2 : Hid (∀ (W : World) (c : Nat) (F : List Nat), Qs W c F s1 → Calls Tryz.prog 21 #[.pointer (some ⟨c, 0, none⟩)] W fun e w' => e = .returned (.int .i64 (fn : Int)) ∧ QsQ W c F s2 w') := fun W c F h => by have := qbyte_q h; rw [e2] at this; exact this
  have HC3 : Hid (∀ (W : World) (c : Nat) (F : List Nat), Qs W c F s2 → Calls Tryz.prog 21 #[.pointer (some ⟨c, 0, none⟩)] W fun e w' => e = .returned (.int .i64 (dn : Int)) ∧ QsQ W c F s3 w') := fun W c F h => by have := qbyte_q h; rw [e3] at this; exact this
  have HC4 : Hid (∀ (W : World) (c : Nat) (F : List Nat), Qs W c F s3 → Calls Tryz.prog 22 #[.pointer (some ⟨c, 0, none⟩)] W fun e w' => e = .returned (.int .u64 (sn : Int)) ∧ QsQ W c F s4 w') := fun W c F h => by have := qnum_q h; rw [e4] at this; exact this
  have HC5 : Hid (∀ (W : World) (c : Nat) (F : List Nat), Qs W c F s4 → Calls Tryz.prog 22 #[.pointer (some ⟨c, 0, none⟩)] W fun e w' => e = .returned (.int .u64 (n5 : Int)) ∧ QsQ W c F s5 w') := fun W c F h => by have := qnum_q h; rw [e5] at this; exact this
  clear e1 e2 e3 e4 e5
  have HP := hide hp
  have HW0 := hide (hx.kept ((Kept.refl [] w).alloc (.cells (mcc zeroM nilM) 30)))
  have HBY := hide hb
  have HPL := hide hl
  clear hx hb hl hp
  go_enter Tryz.func10, Tryz.ntmps10
  go_upto_region 3 with (first
    | (go_at_call 20; refine (qread_any (unhide HW0) (unhide HBY) (unhide HPL)).mono ?_; rintro e w1 ⟨c, F, rfl, hq1, hF, k1⟩; have HQ1 := hide hq1; have HF := hide hF; have HK1 := hide k1; clear hq1 hF k1)
    | (go_at_call 21; refine (unhide HC1 _ _ _ (unhide HQ1)).mono ?_; rintro e w2 ⟨rfl, hq2⟩; clear HC1; have HQ2 := hide hq2; clear hq2)
    | (go_at_call 21; refine (unhide HC2 _ _ _ (unhide HQ2).1).mono ?_; rintro e w3 ⟨rfl, hq3⟩; clear HC2; have HQ3 := hide hq3; clear hq3)
    | (go_at_call 21; refine (unhide HC3 _ _ _ (unhide HQ3).1).mono ?_; rintro e w4 ⟨rfl, hq4⟩; clear HC3; have HQ4 := hide hq4; clear hq4)
    | (go_at_call 22; refine (unhide HC4 _ _ _ (unhide HQ4).1).mono ?_; rintro e w5 ⟨rfl, hq5⟩; clear HC4; have HD := hide (DQ.begin (unhide HF) ((((unhide HK1).trans (unhide HQ2).2 (fun x hx => Or.inr (unhide HF x hx))).trans (unhide HQ3).2 (fun x hx => Or.inr (unhide HF x hx))).trans (unhide HQ4).2 (fun x hx => Or.inr (unhide HF x hx)) |>.trans hq5.2 (fun x hx => Or.inr (unhide HF x hx))) hq5.1 (kn : Int) (fn : Int) (dn : Int) sh); clear hq5 HQ1 HQ2 HQ3 HQ4)
    | (refine wpList_store_row rfl 30 _ _ rfl _ (mcc { zeroM with kind := (kn : Int), frm := (fn : Int), dst := (dn : Int), shard := sh } nilM) rfl rfl 30 _ (Blk.new w5 _ _) infoMail rfl (by simp [mcc, Value.oneCell']) ?_))
  refine world_at (R := fun X => DQ (w.alloc (.cells (mcc zeroM nilM) 30)) w5.heap.size c { zeroM with kind := (kn : Int), frm := (fn : Int), dst := (dn : Int), shard := sh } nilM F X s4) (unhide HD) ?_
  clear HD
  rintro X hd0
  generalize w5.heap.size = B at *
  have HD := hide hd0
  have c0 : X.cell? ⟨B, 0, none⟩ = some (.int .i64 (kn : Int)) := (hd0.blk.cell 0).trans rfl
  clear hd0
  go_upto_region 24 with (go_at_call 22; refine (unhide HC5 _ _ _ (unhide HD).rd).mono ?_; rintro e v5 ⟨rfl, hq⟩; clear HC5; have hd := (unhide HD).call hq; have b4 : v5.cell? ⟨B, 4, none⟩ = some _ := (hd.blk.cell 4).trans rfl; have f4 := hd.blk.frozen 4; have HD := hide (hd.num t5 (o := 4) (by simp [isN])); clear hq hd)
  refine world_at (R := fun Y => DQ (w.alloc (.cells (mcc zeroM nilM) 30)) B c p _ F Y _) (by rw [unhide HP]; exact unhide HD) ?_
  clear HD
  rintro Y hY
  have HY := hide hY
  clear hY
  go_wp2_with (first
    | (refine wpList_load_guard 30 _ rfl _ rfl 30 _ (0, 0) _ (unhide HY).blk Tryz.underlying30 rfl infoMail rfl ?_)
    | (refine wpList_store_row rfl 30 _ _ rfl w.heap.size (mcc p _) rfl rfl 30 _ (unhide HY).out.1 infoMail rfl (by simp [mcc, Value.oneCell']) ?_))
  refine ret_struct rfl rfl (setRow_heap _ _ _ _ _ _ (unhide HY).out.1) Tryz.underlying30 infoMail rfl ?_
  exact (unhide HY).out.2
end Go.Proofs.YtfhfkpgfnlmfhaaGreatDoor

/- The document's read, whatever the bytes. -/
namespace Go.Proofs.YtfhfkpgfnlmfhaaGreatDoor
open Go.RowKit

theorem named_q {q : Ml} (h : q.kind = 1) : named q = { q with client := wrap64 (q.frm - 100) } := by unfold named; rw [if_pos h]
theorem named_r {q : Ml} (h : q.kind = 2) : named q = { q with client := wrap64 (q.dst - 100) } := by unfold named; rw [if_neg (by omega), if_pos h]
theorem named_o {q : Ml} (h1 : q.kind ≠ 1) (h2 : q.kind ≠ 2) : named q = q := by unfold named; rw [if_neg h1, if_neg h2]
theorem looM_of {bs : List Nat} {r2 : Rdm} {ks : List Pc} (h2 : read2 bs = r2) (hf : finD r2.ml = ks) : looM bs = named (takL r2 ks).ml := by
  unfold looM looR
  rw [h2, hf]
theorem read2_of {bs : List Nat} {r1 : Rdm} {ks : List Pc} (h1 : read1 bs = r1) (hf : mid r1.ml = ks) : read2 bs = takL r1 ks := by
  unfold read2
  rw [h1, hf]
theorem rread_any {w : World} {v : Value} {bs : List Nat} (hx : Wide w v bs) (hb : ∀ x ∈ bs, x < 256) (hl : bs.length ≤ 140737488355328) : Calls Tryz.prog 10 #[v] w (RRdP w (looM bs)) := by
  obtain ⟨s1, kn, e1⟩ : ∃ s n, rByte ⟨0, bs, []⟩ = (s, n) := ⟨_, _, rfl⟩
  obtain ⟨s2, fn, e2⟩ : ∃ s n, rByte s1 = (s, n) := ⟨_, _, rfl⟩
  obtain ⟨s3, dn, e3⟩ : ∃ s n, rByte s2 = (s, n) := ⟨_, _, rfl⟩
  obtain ⟨s4, sn, e4⟩ : ∃ s n, rNum s3 = (s, n) := ⟨_, _, rfl⟩
  obtain ⟨s5, n5, e5⟩ : ∃ s n, rNum s4 = (s, n) := ⟨_, _, rfl⟩
  have h1 : read1 bs = ⟨s4, { zeroM with kind := (kn : Int), frm := (fn : Int), dst := (dn : Int), shard := toI sn }, false⟩ := by
    unfold read1 read0 takL hd
    simp only [List.foldl_cons, List.foldl_nil, takP, e1, e2, e3, e4]
    rfl
  by_cases k1 : kn = 1
  · have c1 : ((kn : Int) == 1) = true := by rw [k1]; rfl
    obtain ⟨s6, on, e6⟩ : ∃ s n, rByte s5 = (s, n) := ⟨_, _, rfl⟩
    obtain ⟨s7, ks, e7⟩ : ∃ s n, rText s6 524288 = (s, n) := ⟨_, _, rfl⟩
    have h2 := read2_of h1 (ks := [.num 8, .byte 9, .text 10]) (by unfold mid; rw [if_pos (by show (kn : Int) = 1; omega)])
    unfold takL at h2
    simp only [List.foldl_cons, List.foldl_nil, takP, e5, e6, e7] at h2
    by_cases o2 : on = 2
    · have c2 : ((on : Int) == 2) = true := by rw [o2]; rfl
      have c4 : ((on : Int) == 4) = false := by rw [o2]; rfl
      obtain ⟨s8, vs, e8⟩ : ∃ s n, rText s7 524288 = (s, n) := ⟨_, _, rfl⟩
      refine rread_q hx hb hl e1 e2 e3 e4 (wrapI sn) e5 (wrapI n5) (fun W c F h => rreadOp_2 h e6 e7 e8 c2 c4) c1 ?_
      have h3 := looM_of h2 (ks := [.text 11]) (by unfold finD fin; rw [if_neg (by show ¬ (kn : Int) = 2; omega), if_pos (by show (kn : Int) = 1; omega), if_pos (by show (on : Int) = 2; omega)])
      unfold takL at h3
      simp only [List.foldl_cons, List.foldl_nil, takP, e8] at h3
      rw [h3, named_q (by show (kn : Int) = 1; omega)]
      rfl
    · have c2 : ((on : Int) == 2) = false := by simp; omega
      by_cases o4 : on = 4
      · have c4 : ((on : Int) == 4) = true := by rw [o4]; rfl
        obtain ⟨s8, vs, e8⟩ : ∃ s n, rText s7 524288 = (s, n) := ⟨_, _, rfl⟩
        obtain ⟨s9, n9, e9⟩ : ∃ s n, rNum s8 = (s, n) := ⟨_, _, rfl⟩
        refine rread_q hx hb hl e1 e2 e3 e4 (wrapI sn) e5 (wrapI n5) (fun W c F h => rreadOp_4 h e6 e7 e8 e9 (wrapI n9) c2 c4) c1 ?_
        have h3 := looM_of h2 (ks := [.text 11, .num 12]) (by unfold finD fin; rw [if_neg (by show ¬ (kn : Int) = 2; omega), if_pos (by show (kn : Int) = 1; omega), if_neg (by show ¬ (on : Int) = 2; omega), if_pos (by show (on : Int) = 4; omega)])
        unfold takL at h3
        simp only [List.foldl_cons, List.foldl_nil, takP, e8, e9] at h3
        rw [h3, named_q (by show (kn : Int) = 1; omega)]
        rfl
      · have c4 : ((on : Int) == 4) = false := by simp; omega
        refine rread_q hx hb hl e1 e2 e3 e4 (wrapI sn) e5 (wrapI n5) (fun W c F h => rreadOp_x h e6 e7 c2 c4) c1 ?_
        have h3 := looM_of h2 (ks := []) (by unfold finD fin; rw [if_neg (by show ¬ (kn : Int) = 2; omega), if_pos (by show (kn : Int) = 1; omega), if_neg (by show ¬ (on : Int) = 2; omega), if_neg (by show ¬ (on : Int) = 4; omega)])
        unfold takL at h3
        simp only [List.foldl_nil] at h3
        rw [h3, named_q (by show (kn : Int) = 1; omega)]
        rfl
  · have c1 : ((kn : Int) == 1) = false := by simp; omega
    by_cases k2 : kn = 2
    · have c2 : ((kn : Int) == 2) = true := by rw [k2]; rfl
      obtain ⟨s6, n6, e6⟩ : ∃ s n, rNum s5 = (s, n) := ⟨_, _, rfl⟩
      have h2 := read2_of h1 (ks := [.num 8, .num 13]) (by unfold mid; rw [if_neg (by show ¬ (kn : Int) = 1; omega), if_pos (by show (kn : Int) = 2; omega)])
      unfold takL at h2
      simp only [List.foldl_cons, List.foldl_nil, takP, e5, e6] at h2
      by_cases v0 : toI n6 = 0
      · obtain ⟨s7, n7, e7⟩ : ∃ s n, rByte s6 = (s, n) := ⟨_, _, rfl⟩
        obtain ⟨s8, x8, e8⟩ : ∃ s n, rText s7 524288 = (s, n) := ⟨_, _, rfl⟩
        obtain ⟨s9, x9, e9⟩ : ∃ s n, rText s8 524288 = (s, n) := ⟨_, _, rfl⟩
        obtain ⟨s10, n10, e10⟩ : ∃ s n, rNum s9 = (s, n) := ⟨_, _, rfl⟩
        obtain ⟨s11, n11, e11⟩ : ∃ s n, rNum s10 = (s, n) := ⟨_, _, rfl⟩
        refine rread_r0 hx hb hl e1 e2 e3 e4 (wrapI sn) e5 (wrapI n5) e6 (wrapI n6) e7 e8 e9 e10 (wrapI n10) e11 (wrapI n11) c1 c2 (by rw [beq_iff_eq]; exact v0) ?_
        have h3 := looM_of h2 (ks := [.flag, .text 15, .text 16, .num 17, .num 18]) (by unfold finD; rw [if_pos (by show (kn : Int) = 2; omega), if_pos (by show toI n6 = 0; exact v0)])
        unfold takL at h3
        have hd7 : decide (n7 = 1) = ((n7 : Int) == 1) := by rw [Bool.eq_iff_iff]; simp; omega
        simp only [List.foldl_cons, List.foldl_nil, takP, e7, e8, e9, e10, e11] at h3
        rw [h3, named_r (by show (kn : Int) = 2; omega), hd7]
        rfl
      · obtain ⟨s7, n7, e7⟩ : ∃ s n, rByte s6 = (s, n) := ⟨_, _, rfl⟩
        refine rread_r1 hx hb hl e1 e2 e3 e4 (wrapI sn) e5 (wrapI n5) e6 (wrapI n6) e7 c1 c2 (by rw [beq_eq_false_iff_ne]; exact v0) ?_
        have h3 := looM_of h2 (ks := [.byte 19]) (by unfold finD; rw [if_pos (by show (kn : Int) = 2; omega), if_neg (by show ¬ toI n6 = 0; exact v0)])
        unfold takL at h3
        simp only [List.foldl_cons, List.foldl_nil, takP, e7] at h3
        rw [h3, named_r (by show (kn : Int) = 2; omega)]
        rfl
    · have c2 : ((kn : Int) == 2) = false := by simp; omega
      by_cases k3 : kn = 3
      · have c3 : ((kn : Int) == 3) = true := by rw [k3]; rfl
        obtain ⟨s6, n6, e6⟩ : ∃ s n, rFixed s5 8 = (s, n) := ⟨_, _, rfl⟩
        obtain ⟨s7, x7, e7⟩ : ∃ s n, rText s6 524288 = (s, n) := ⟨_, _, rfl⟩
        refine rread_o hx hb hl e1 e2 e3 e4 (wrapI sn) e5 (wrapI n5) e6 e7 c1 c2 c3 ?_
        have h2 := read2_of h1 (ks := [.num 4, .root, .text 6]) (by unfold mid; rw [if_neg (by show ¬ (kn : Int) = 1; omega), if_neg (by show ¬ (kn : Int) = 2; omega), if_pos (by show (kn : Int) = 3; omega)])
        unfold takL at h2
        simp only [List.foldl_cons, List.foldl_nil, takP, e5, e6, e7] at h2
        have h3 := looM_of h2 (ks := []) (by unfold finD fin; rw [if_neg (by show ¬ (kn : Int) = 2; omega), if_neg (by show ¬ (kn : Int) = 1; omega), if_neg (by show ¬ (kn : Int) = 2; omega)])
        unfold takL at h3
        simp only [List.foldl_nil] at h3
        rw [h3, named_o (by show (kn : Int) ≠ 1; omega) (by show (kn : Int) ≠ 2; omega)]
        rfl
      · have c3 : ((kn : Int) == 3) = false := by simp; omega
        refine rread_h hx hb hl e1 e2 e3 e4 (wrapI sn) e5 (wrapI n5) c1 c2 c3 ?_
        have h2 := read2_of h1 (ks := [.num 4]) (by unfold mid; rw [if_neg (by show ¬ (kn : Int) = 1; omega), if_neg (by show ¬ (kn : Int) = 2; omega), if_neg (by show ¬ (kn : Int) = 3; omega)])
        unfold takL at h2
        simp only [List.foldl_cons, List.foldl_nil, takP, e5] at h2
        have h3 := looM_of h2 (ks := []) (by unfold finD fin; rw [if_neg (by show ¬ (kn : Int) = 2; omega), if_neg (by show ¬ (kn : Int) = 1; omega), if_neg (by show ¬ (kn : Int) = 2; omega)])
        unfold takL at h3
        simp only [List.foldl_nil] at h3
        rw [h3, named_o (by show (kn : Int) ≠ 1; omega) (by show (kn : Int) ≠ 2; omega)]
        rfl
end Go.Proofs.YtfhfkpgfnlmfhaaGreatDoor
