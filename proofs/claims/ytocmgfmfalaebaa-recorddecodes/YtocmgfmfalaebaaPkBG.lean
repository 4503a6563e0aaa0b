/- A text of the base. -/
import Derived.Test.YtocmgfmfalaebaaPkBC
import Derived.Test.YtocmgfmfalaebaaPkBD
import Derived.Test.YtocmgfmfalaebaaPkBE
import Derived.Test.YtocmgfmfalaebaaPkBF
import Derived.Laws.BytesArg
/- The document's Decode: a record that is being read, and strings of bytes. -/
namespace Go.Proofs.Ytocmgfmfalaebaa
open Go.RowKit

def strB (bs : List Nat) : ByteArray := strOfNums (bs.map fun x : Nat => (x : Int))
theorem strB_inj {a b : List Nat} (ha : Bytes a) (hb : Bytes b) (h : strB a = strB b) : a = b := by
  have h1 : ∀ l : List Nat, (strB l).data.toList = l.map fun x => UInt8.ofNat x := fun l => by
    unfold strB strOfNums
    simp [List.map_map, Function.comp_def]
  have h2 : (a.map fun x => UInt8.ofNat x) = b.map fun x => UInt8.ofNat x := by rw [← h1, ← h1, h]
  have h3 : ∀ l : List Nat, Bytes l → (l.map fun x => UInt8.ofNat x).map UInt8.toNat = l := fun l hl => by
    rw [List.map_map]
    conv => rhs; rw [← List.map_id l]
    apply List.map_congr_left
    intro x hx
    have := hl x hx
    simp [Nat.mod_eq_of_lt this]
  rw [← h3 a ha, ← h3 b hb, h2]
theorem conv_wide {w : World} {v : Value} {bs : List Nat} (h : Wide w v bs) : (convert 22 9 v).run Try.prog w = .ok (.string (strB bs)) w := by
  rcases h with (⟨rfl, rfl⟩ | ⟨b, off, cap, rfl, _, _, _, hc⟩) | ⟨a, rfl, rfl⟩
  · exact run_convert_bytes_nil w 22 5 Try.underlying22 Try.underlying5 0 0 9 Try.underlying9
  · refine run_convert_bytes_arg w 22 5 Try.underlying22 Try.underlying5 b off bs.length cap (bs.map fun x : Nat => (x : Int)) (by simp) (fun i hi => ?_) 9 Try.underlying9
    rw [hc i hi]
    congr 2
    simp [List.getD, List.getElem?_map, List.getElem?_eq_getElem hi]
  · have hl : (loadCells a 0).run Try.prog w = .ok (([] : List Int).map (Value.int .u8)).toArray w := by
      have := run_loadCells_list (P := Try.prog) w a [] (fun j v hj => by simp at hj)
      simpa using this
    rw [run_convert_bytes_string w 22 9 5 _ 0 0 Try.underlying22 Try.underlying5 Try.underlying9, run_bytesToString w _ 0 0 [] hl, foldl_push_bytes]
    simp [strB, strOfNums, ByteArray.empty, ByteArray.emptyWithCapacity]
    rfl

/-- A record that the document reads: at B, its reader at c beside it; its lists are new since w. -/
structure DQ (w : World) (B c : Nat) (p : Pl) (l : Lo) (F : List Nat) (W : World) (s : RS) : Prop where
  blk : Blk W B (rcc p l) 26
  rd : Qs W c F s
  kn : NewV w p.key (.slice l.ka p.key.length l.kc) W
  vn : NewV w p.val (.slice l.va p.val.length l.vc) W
  cn : NewV w p.copy (.slice l.ca p.copy.length l.cc) W
  ko : ∀ x, (Value.slice l.ka p.key.length l.kc).ownBlock = some x → x ∉ B :: F
  vo : ∀ x, (Value.slice l.va p.val.length l.vc).ownBlock = some x → x ∉ B :: F
  co : ∀ x, (Value.slice l.ca p.copy.length l.cc).ownBlock = some x → x ∉ B :: F
  kept : Kept [] w W
  bw : w.heap.size ≤ B
  fw : ∀ x ∈ F, w.heap.size ≤ x
  bF : B ∉ F
/-- Behind a call of its reader. -/
theorem DQ.call {w : World} {B c : Nat} {p : Pl} {l : Lo} {F : List Nat} {W W' : World} {s s' : RS} (h : DQ w B c p l F W s) (hq : QsQ W c F s' W') : DQ w B c p l F W' s' := by
  obtain ⟨h1, h2⟩ := hq
  exact ⟨h.blk.kept h2 h.bF, h1, h.kn.kept h2 (fun x hx hm => h.ko x hx (by simp [hm])), h.vn.kept h2 (fun x hx hm => h.vo x hx (by simp [hm])), h.cn.kept h2 (fun x hx hm => h.co x hx (by simp [hm])), h.ko, h.vo, h.co, h.kept.trans h2 (fun x hx => Or.inr (h.fw x hx)), h.bw, h.fw, h.bF⟩
theorem DQ.quiet {w : World} {B c : Nat} {p : Pl} {l : Lo} {F : List Nat} {W W' : World} {s : RS} (h : DQ w B c p l F W s) (k : Kept [] W W') : DQ w B c p l F W' s :=
  ⟨h.blk.kept k (by simp), h.rd.kept k (by simp), h.kn.kept k (by simp), h.vn.kept k (by simp), h.cn.kept k (by simp), h.ko, h.vo, h.co, h.kept.trans k (by simp), h.bw, h.fw, h.bF⟩
/-- Behind a store into its box. -/
theorem DQ.put {w : World} {B c : Nat} {p : Pl} {l : Lo} {F : List Nat} {W : World} {s : RS} (h : DQ w B c p l F W s) (o : Nat) (v : Value) {p' : Pl} {l' : Lo} (hb : (rcc p l).setIfInBounds o v = rcc p' l')
    (kn : NewV w p'.key (.slice l'.ka p'.key.length l'.kc) W) (vn : NewV w p'.val (.slice l'.va p'.val.length l'.vc) W) (cn : NewV w p'.copy (.slice l'.ca p'.copy.length l'.cc) W)
    (ko : ∀ x, (Value.slice l'.ka p'.key.length l'.kc).ownBlock = some x → x ∉ B :: F) (vo : ∀ x, (Value.slice l'.va p'.val.length l'.vc).ownBlock = some x → x ∉ B :: F) (co : ∀ x, (Value.slice l'.ca p'.copy.length l'.cc).ownBlock = some x → x ∉ B :: F) :
    DQ w B c p' l' F (W.setCell ⟨B, o, none⟩ v) s := by
  have q : Kept [B] W (W.setCell ⟨B, o, none⟩ v) := (Kept.refl [B] W).setCell (Or.inl (by simp)) _
  have hn : ∀ x, x ∉ B :: F → x ∉ [B] := fun x hx hm => hx (by simp at hm; simp [hm])
  refine ⟨by have := h.blk.set o v; rw [hb] at this; exact this, h.rd.kept q (fun x hx hm => h.bF (by simp at hm; rw [← hm]; exact hx)), kn.kept q (fun x hx => hn x (ko x hx)), vn.kept q (fun x hx => hn x (vo x hx)), cn.kept q (fun x hx => hn x (co x hx)), ko, vo, co, h.kept.trans q (fun x hx => Or.inr (by simp at hx; subst hx; exact h.bw)), h.bw, h.fw, h.bF⟩
theorem DQ.s2 {w : World} {B c : Nat} {p : Pl} {l : Lo} {F : List Nat} {W : World} {s : RS} (h : DQ w B c p l F W s) (n : Int) : DQ w B c { p with epoch := n } l F (W.setCell ⟨B, 2, none⟩ (.int .i64 n)) s := h.put 2 _ rfl h.kn h.vn h.cn h.ko h.vo h.co
theorem DQ.s3 {w : World} {B c : Nat} {p : Pl} {l : Lo} {F : List Nat} {W : World} {s : RS} (h : DQ w B c p l F W s) (n : Int) : DQ w B c { p with peer := n } l F (W.setCell ⟨B, 3, none⟩ (.int .i64 n)) s := h.put 3 _ rfl h.kn h.vn h.cn h.ko h.vo h.co
theorem DQ.s4 {w : World} {B c : Nat} {p : Pl} {l : Lo} {F : List Nat} {W : World} {s : RS} (h : DQ w B c p l F W s) (n : Int) : DQ w B c { p with client := n } l F (W.setCell ⟨B, 4, none⟩ (.int .i64 n)) s := h.put 4 _ rfl h.kn h.vn h.cn h.ko h.vo h.co
theorem DQ.s5 {w : World} {B c : Nat} {p : Pl} {l : Lo} {F : List Nat} {W : World} {s : RS} (h : DQ w B c p l F W s) (n : Int) : DQ w B c { p with seq := n } l F (W.setCell ⟨B, 5, none⟩ (.int .i64 n)) s := h.put 5 _ rfl h.kn h.vn h.cn h.ko h.vo h.co
theorem DQ.s6 {w : World} {B c : Nat} {p : Pl} {l : Lo} {F : List Nat} {W : World} {s : RS} (h : DQ w B c p l F W s) (n : Int) : DQ w B c { p with okind := n } l F (W.setCell ⟨B, 6, none⟩ (.int .i64 n)) s := h.put 6 _ rfl h.kn h.vn h.cn h.ko h.vo h.co
theorem DQ.s9 {w : World} {B c : Nat} {p : Pl} {l : Lo} {F : List Nat} {W : World} {s : RS} (h : DQ w B c p l F W s) (n : Int) : DQ w B c { p with rev := n } l F (W.setCell ⟨B, 9, none⟩ (.int .i64 n)) s := h.put 9 _ rfl h.kn h.vn h.cn h.ko h.vo h.co
/-- New bytes that a call of its reader has given. -/
theorem DQ.nt {w : World} {B c : Nat} {p : Pl} {l : Lo} {F : List Nat} {W W' : World} {s : RS} (h : DQ w B c p l F W s) {bs : List Nat} {a : Option Addr} {cap : Nat} (ho : W'.ownsRow W.heap.size 5 1 (.slice a bs.length cap) bs.length (u8s bs)) : NewV w bs (.slice a bs.length cap) W' ∧ ∀ x, (Value.slice a bs.length cap).ownBlock = some x → x ∉ B :: F := by
  refine ⟨⟨a, cap, rfl, own_down ho h.kept.size⟩, fun x hx hm => ?_⟩
  have h1 := (ho.lt x hx).1
  have h2 := h.blk.lt
  simp at hm
  rcases hm with rfl | hm
  · omega
  · have := h.rd.lt x hm; omega
theorem DQ.k7 {w : World} {B c : Nat} {p : Pl} {l : Lo} {F : List Nat} {W : World} {s : RS} (h : DQ w B c p l F W s) {bs : List Nat} {a : Option Addr} {cap : Nat} (hn : NewV w bs (.slice a bs.length cap) W) (ho : ∀ x, (Value.slice a bs.length cap).ownBlock = some x → x ∉ B :: F) : DQ w B c { p with key := bs } { l with ka := a, kc := cap } F (W.setCell ⟨B, 7, none⟩ (.slice a bs.length cap)) s := h.put 7 _ rfl hn h.vn h.cn ho h.vo h.co
theorem DQ.k8 {w : World} {B c : Nat} {p : Pl} {l : Lo} {F : List Nat} {W : World} {s : RS} (h : DQ w B c p l F W s) {bs : List Nat} {a : Option Addr} {cap : Nat} (hn : NewV w bs (.slice a bs.length cap) W) (ho : ∀ x, (Value.slice a bs.length cap).ownBlock = some x → x ∉ B :: F) : DQ w B c { p with val := bs } { l with va := a, vc := cap } F (W.setCell ⟨B, 8, none⟩ (.slice a bs.length cap)) s := h.put 8 _ rfl h.kn hn h.cn h.ko ho h.co
theorem DQ.k10 {w : World} {B c : Nat} {p : Pl} {l : Lo} {F : List Nat} {W : World} {s : RS} (h : DQ w B c p l F W s) {bs : List Nat} {a : Option Addr} {cap : Nat} (hn : NewV w bs (.slice a bs.length cap) W) (ho : ∀ x, (Value.slice a bs.length cap).ownBlock = some x → x ∉ B :: F) : DQ w B c { p with copy := bs } { l with ca := a, cc := cap } F (W.setCell ⟨B, 10, none⟩ (.slice a bs.length cap)) s := h.put 10 _ rfl h.kn h.vn hn h.ko h.vo ho
theorem DQ.begin {w w1 w2 w3 : World} {c : Nat} {F : List Nat} {s2 s3 : RS} (hl : ∀ x ∈ F, w.heap.size ≤ x) (k1 : Kept [] w w1) (h2 : QsQ w1 c F s2 w2) (h3 : QsQ w2 c F s3 w3) (kd sh : Int) : DQ w w3.heap.size c { zeroP with kind := kd, shard := sh } nilL F (w3.alloc (.cells (rcc { zeroP with kind := kd, shard := sh } nilL) 26)) s3 := by
  have k0 := (Kept.refl [] w3).alloc (.cells (rcc { zeroP with kind := kd, shard := sh } nilL) 26)
  have hk : Kept [] w w3 := (k1.trans h2.2 (fun x hx => Or.inr (hl x hx))).trans h3.2 (fun x hx => Or.inr (hl x hx))
  have hlt := h3.1.lt
  refine ⟨Blk.new _ _ _, h3.1.kept k0 (by simp), NewV.nil _ _, NewV.nil _ _, NewV.nil _ _, ?_, ?_, ?_, hk.trans k0 (by simp), hk.size, hl, fun hm => by have := hlt _ hm; omega⟩ <;> simp [nilL, zeroP, Value.ownBlock]
theorem DQ.wide {w : World} {B c : Nat} {p : Pl} {l : Lo} {F : List Nat} {W : World} {s : RS} (h : DQ w B c p l F W s) (hs : snd p = true) : RecW W p l := by
  have := snd_len hs
  exact ⟨h.kn.wide, h.vn.wide, h.cn.wide, by omega, by omega, by omega⟩
theorem DQ.out {w : World} {B c : Nat} {p : Pl} {l : Lo} {F : List Nat} {W W' : World} {s : RS} (h : DQ w B c p l F W s) (hs : snd p = true) {R : Nat} (hR : R < w.heap.size) (q : Kept [R] W W') : RecW W' p l := by
  have := snd_len hs
  have g : ∀ {bs : List Nat} {v : Value}, NewV w bs v W → ∀ x, v.ownBlock = some x → x ∉ [R] := fun hn x hx hm => by
    have := (hn.lt hx).1
    simp at hm
    omega
  exact ⟨(h.kn.kept q (g h.kn)).wide, (h.vn.kept q (g h.vn)).wide, (h.cn.kept q (g h.cn)).wide, by omega, by omega, by omega⟩
/-- What the document's Decode answers. -/
def RDecP (w : World) (ps : List Nat) (e : Ending) (w' : World) : Prop := Kept [] w w' ∧ ((∃ p l, dec ps = some p ∧ e = .returned (.tuple #[rv p l, .int .i64 0]) ∧ RecW w' p l) ∨ (dec ps = none ∧ e = .returned (.tuple #[rv zeroP nilL, .int .i64 160])))
end Go.Proofs.Ytocmgfmfalaebaa
