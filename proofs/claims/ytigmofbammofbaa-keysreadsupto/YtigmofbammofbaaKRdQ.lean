/- The document's reading: a row. -/
import Derived.Test.YtigmofbammofbaaKRdP
import Derived.Test.YtigmofbammofbaaKLay
namespace Go.Proofs.Ytigmofbammofbaa
open Go.RowKit

def RdOut (o : Except Nat (Row × List Nat)) (B b : Nat) (V : Value) (bs : List Nat) (w : World) (v : Value) : Prop :=
  match o with
  | .ok (r, rest) => Rdg w b V bs (.ok rest) ∧ RowPS (New B) w v (partR r)
  | .error e => Rdg w b V bs (.error e)
def RdC (f : Nat) : Prop := ∀ (w : World) (b : Nat) (V : Value) (bs t : List Nat) (d : Nat), Rdg w b V bs (.ok t) → t.length < f → d ≤ 16 →
  Calls Try.prog 33 #[.pointer (some ⟨b, 0, none⟩), .int .i64 (d : Int)] w fun e w' => ∃ a n c, e = .returned (.slice a n c) ∧ RdOut (rowD d (takeR f t d)) w.heap.size b V bs w' (.slice a n c) ∧ Kept [b] w w'
/-- the state of the loop -/
def RdI (w : World) (b : Nat) (V : Value) (bs t : List Nat) (F d T : Nat) (wr : World) (va : Option Addr) (vn vc : Nat) : Prop :=
  Kept [b] w wr ∧ ((∃ (g : Nat) (cur : List Nat) (l : List El) (acc : Row), OwnP w.heap.size wr (.slice va vn vc) l ∧ l.length = vn ∧ rowE l = partR acc ∧ Rdg wr b V bs (.ok cur) ∧ cur.length < g ∧ g ≤ F ∧ vn + cur.length ≤ T ∧ takeR F t d = preR acc (takeR g cur d))
    ∨ (∃ e, Rdg wr b V bs (.error e) ∧ rowD d (takeR F t d) = .error e))
theorem rd_ok {F d g k : Nat} {t cur rest : List Nat} {acc p : Row} {h : Hd} (htk : takeR F t d = preR acc (takeR (g + 1) (k :: cur) d)) (hk0 : k ≠ 0) (hv : takeV (takeR g cur (d + 1)) k cur d = .ok (h, p, rest)) : takeR F t d = preR (acc.app (.cons h p .nil)) (takeR g rest d) := by
  rw [htk, takeR_succ _ _ _ _ hk0, hv]
  exact preR_cons _ _ _ _
theorem rd_err {F d g k e : Nat} {t cur : List Nat} {acc : Row} (htk : takeR F t d = preR acc (takeR (g + 1) (k :: cur) d)) (hk0 : k ≠ 0) (hv : takeV (takeR g cur (d + 1)) k cur d = .error e) : rowD d (takeR F t d) = .error e := by
  rw [htk, takeR_succ _ _ _ _ hk0, hv]
  rfl
theorem rowE_snoc {l : List El} {acc : Row} (e : El) {h : Hd} {p : Row} (hl : rowE l = partR acc) (h1 : e.h = partH h) (h2 : e.p = partR p) : rowE (l ++ [e]) = partR (acc.app (.cons h p .nil)) := by
  rw [rowE_app, partR_app, hl]
  simp [rowE, partR, h1, h2]
theorem elps_plain {S : Nat → Prop} {w : World} {h : Hd} (hok : h.ok ∧ h.pr = h.re) (ht : h.text = []) : ElPS S w ⟨h, .slice none 0 0, .slice none 0 0, .nil⟩ := ⟨hok, by rw [ht]; exact SeesIn.none _ _, RowPS.nil _ _⟩
theorem partH_hd0 (k : Int) : partH (hd0 k) = hd0 k := by
  unfold partH hd0
  split <;> rfl
/-- a value of a row that is being read into the block xn -/
structure RdZ (w : World) (b : Nat) (V : Value) (bs : List Nat) (va : Option Addr) (vn vc : Nat) (l : List El) (xn : Nat) (s : St) (W : World) : Prop where
  rdg : Rdg W b V bs s
  kept : Kept [b] w W
  row : W.ownsRow w.heap.size 62 7 (.slice va vn vc) l.length (flatP l)
  els : ∀ e ∈ l, ElPS (fun x => w.heap.size ≤ x ∧ (Value.slice va vn vc).ownBlock ≠ some x ∧ x ≠ xn) W e
  out : ∀ y, (Value.slice va vn vc).ownBlock = some y → y < xn
  base : w.heap.size ≤ xn
  low : b < w.heap.size
theorem RdZ.own {w : World} {b : Nat} {V : Value} {bs : List Nat} {va : Option Addr} {vn vc : Nat} {l : List El} {xn : Nat} {s : St} {W : World} (h : RdZ w b V bs va vn vc l xn s W) : OwnP w.heap.size W (.slice va vn vc) l :=
  ⟨h.row, fun e he => (h.els e he).mono (fun _ _ hS => ⟨hS.1, hS.2.1⟩)⟩
theorem RdZ.begin {w w1 : World} {b : Nat} {V : Value} {bs cur : List Nat} {va : Option Addr} {vn vc : Nat} {l : List El} (hr : Rdg w1 b V bs (.ok cur)) (hk : Kept [b] w w1) (ho : OwnP w.heap.size w1 (.slice va vn vc) l) (hb : b < w.heap.size) (o : Obj) : RdZ w b V bs va vn vc l w1.heap.size (.ok cur) (w1.alloc o) := by
  have ha : Kept [] w1 (w1.alloc o) := (Kept.refl [] w1).alloc o
  refine ⟨hr.kept ha (by simp), hk.alloc o, own_kept ho.1 ha (by simp), fun e he => ?_, fun y hy => (ho.1.lt y hy).2, hk.size, hb⟩
  exact ((ho.2 e he).mono (fun _ hy hS => ⟨hS.1, hS.2, by omega⟩)).kept ha (by simp)
theorem RdZ.call {w : World} {b : Nat} {V : Value} {bs : List Nat} {va : Option Addr} {vn vc : Nat} {l : List El} {xn : Nat} {s s2 : St} {W W2 : World} (h : RdZ w b V bs va vn vc l xn s W) (hk : Kept [b] W W2) (hr : Rdg W2 b V bs s2) : RdZ w b V bs va vn vc l xn s2 W2 := by
  have hl := h.low
  exact ⟨hr, h.kept.trans hk (fun y hy => Or.inl hy), own_kept h.row hk (fun k hk' hm => by have := (h.row.lt k hk').1; simp at hm; omega), fun e he => (h.els e he).kept hk (fun y hy hS => by have := hS.1; simp at hy; omega), h.out, h.base, h.low⟩
theorem RdZ.set {w : World} {b : Nat} {V : Value} {bs : List Nat} {va : Option Addr} {vn vc : Nat} {l : List El} {xn : Nat} {s : St} {W : World} (h : RdZ w b V bs va vn vc l xn s W) (j : Nat) (u : Value) : RdZ w b V bs va vn vc l xn s (W.setCell ⟨xn, j, none⟩ u) := by
  have hk : Kept [xn] W (W.setCell ⟨xn, j, none⟩ u) := (Kept.refl _ W).setCell (p := ⟨xn, j, none⟩) (Or.inl (by simp)) u
  have hl := h.low
  have hb := h.base
  exact ⟨h.rdg.kept hk (fun y hy => by simp at hy; omega), h.kept.trans hk (fun y hy => Or.inr (by simp at hy; omega)), own_kept h.row hk (fun k hk' hm => by have := h.out k hk'; simp at hm; omega), fun e he => (h.els e he).kept hk (fun y hy hS => by simp at hy; exact hS.2.2 hy), h.out, h.base, h.low⟩
theorem RdZ.fault {w : World} {b : Nat} {V : Value} {bs : List Nat} {va : Option Addr} {vn vc : Nat} {l : List El} {xn : Nat} {t : List Nat} {W : World} (h : RdZ w b V bs va vn vc l xn (.ok t) W) (e : Nat) (he : e ≠ 0) (h9 : e < 100) : RdZ w b V bs va vn vc l xn (.error e) (W.setCell ⟨b, 2, none⟩ (.int .i64 (e : Int))) :=
  h.call ((Kept.refl [b] W).setCell (p := ⟨b, 2, none⟩) (Or.inl (by simp)) _) (h.rdg.setF e he h9)
theorem RdZ.blk {w : World} {b : Nat} {V : Value} {bs : List Nat} {va : Option Addr} {vn vc : Nat} {l : List El} {xn : Nat} {s : St} {W W2 : World} {cs : Array Value} {t : TypeId} (h : RdZ w b V bs va vn vc l xn s W) (hb : Blk W xn cs t) (hk : Kept [b] W W2) : Blk W2 xn cs t := by
  have hl := h.low
  have hb' := h.base
  exact hb.kept hk (by simp; omega)
/-- the end of a round: the append -/
theorem RdZ.fin {w : World} {b : Nat} {V : Value} {bs t : List Nat} {F d T : Nat} {va va' : Option Addr} {vn vc vc' : Nat} {l : List El} {xn : Nat} {s : St} {W w6 : World} {o : Obj} {e : El} (h : RdZ w b V bs va vn vc l xn s W) (ho : ElPS (fun x => w.heap.size ≤ x ∧ (Value.slice va vn vc).ownBlock ≠ some x) (W.alloc o) e → OwnP w.heap.size w6 (.slice va' (vn + 1) vc') (l ++ [e])) (hk : Kept (Value.slice va vn vc).ownBlock.toList (W.alloc o) w6) (hl : l.length = vn)
    (hs : (∃ (g : Nat) (cur : List Nat) (acc : Row), s = .ok cur ∧ ElPS (fun x => w.heap.size ≤ x ∧ (Value.slice va vn vc).ownBlock ≠ some x) W e ∧ rowE (l ++ [e]) = partR acc ∧ cur.length < g ∧ g ≤ F ∧ vn + 1 + cur.length ≤ T ∧ takeR F t d = preR acc (takeR g cur d)) ∨ (∃ er, s = .error er ∧ rowD d (takeR F t d) = .error er)) : RdI w b V bs t F d T w6 va' (vn + 1) vc' := by
  have ha : Kept [] W (W.alloc o) := (Kept.refl [] W).alloc o
  have hlo := h.low
  have hr6 : Rdg w6 b V bs s := (h.rdg.kept ha (by simp)).kept hk (fun y hy => by have := (h.row.lt y (by simpa using hy)).1; omega)
  refine ⟨(h.kept.alloc o).trans hk (fun y hy => Or.inr (h.row.lt y (by simpa using hy)).1), ?_⟩
  rcases hs with ⟨g, cur, acc, rfl, h1, h2, h3, h4, h5, h6⟩ | ⟨er, rfl, h6⟩
  · exact Or.inl ⟨g, cur, l ++ [e], acc, ho (h1.kept ha (by simp)), by rw [List.length_append, hl]; rfl, h2, hr6, h3, h4, h5, h6⟩
  · exact Or.inr ⟨er, hr6, h6⟩
end Go.Proofs.Ytigmofbammofbaa
