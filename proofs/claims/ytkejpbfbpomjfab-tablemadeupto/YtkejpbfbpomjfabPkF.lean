/- A text of the base. -/
import Derived.Test.YtkejpbfbpomjfabPkC
import Derived.Test.YtkejpbfbpomjfabPkE
/- Nodes in memory, and the small calls on them. -/
namespace Go.Proofs.Ytkejpbfbpomjfab.tre
open Go.RowKit

/-- what stands at a key -/
abbrev VT := ByteArray × Int
abbrev TI := Tr ByteArray VT
/-- the node at p and all under it are this tree -/
def Nd (w : World) : Option Addr → TI → Prop
  | p, .nil => p = none
  | p, .node l k x r => ∃ b pl pr, p = some ⟨b, 0, none⟩ ∧
      Blk w b #[.string k, .string x.1, .int .i64 x.2, .pointer pl, .pointer pr, .int .i64 ((l.size + 1 + r.size : Nat) : Int), .int .i64 ((max l.depth r.depth + 1 : Nat) : Int)] 118 ∧ Nd w pl l ∧ Nd w pr r
theorem Nd.kept {w w' : World} {t : TI} {p : Option Addr} (h : Nd w p t) (hk : Kept [] w w') : Nd w' p t := by
  induction t generalizing p with
  | nil => exact h
  | node l k x r ihl ihr =>
    obtain ⟨b, pl, pr, h1, h2, h3, h4⟩ := h
    exact ⟨b, pl, pr, h1, h2.kept hk (by simp), ihl h3, ihr h4⟩
theorem Nd.of_nil {w : World} : Nd w none .nil := rfl
theorem Nd.is_none {w : World} {t : TI} (h : Nd w none t) : t = .nil := by
  cases t with
  | nil => rfl
  | node l k x r => obtain ⟨b, pl, pr, h1, _⟩ := h; cases h1
/-- an entry's node -/
def Mid (w : World) (p : Option Addr) (k : ByteArray) (x : VT) : Prop := ∃ b u1 u2 u3 u4, p = some ⟨b, 0, none⟩ ∧ Blk w b #[.string k, .string x.1, .int .i64 x.2, u1, u2, u3, u4] 118
theorem Mid.kept {w w' : World} {p : Option Addr} {k : ByteArray} {x : VT} (h : Mid w p k x) (hk : Kept [] w w') : Mid w' p k x := by
  obtain ⟨b, u1, u2, u3, u4, h1, h2⟩ := h
  exact ⟨b, u1, u2, u3, u4, h1, h2.kept hk (by simp)⟩
theorem Nd.mid {w : World} {p : Option Addr} {l r : TI} {k : ByteArray} {x : VT} (h : Nd w p (.node l k x r)) : Mid w p k x := by
  obtain ⟨b, pl, pr, h1, h2, _⟩ := h
  exact ⟨b, _, _, _, _, h1, h2⟩

theorem seven {w : World} {b : Nat} {c0 c1 c1s c2 c3 c4 c5 : Value} {t : TypeId} (h : Blk w b #[c0, c1, c1s, c2, c3, c4, c5] t) :
    w.cell? ⟨b, 0, none⟩ = some c0 ∧ w.cell? ⟨b, 1, none⟩ = some c1 ∧ w.cell? ⟨b, 2, none⟩ = some c1s ∧ w.cell? ⟨b, 3, none⟩ = some c2 ∧ w.cell? ⟨b, 4, none⟩ = some c3 ∧ w.cell? ⟨b, 5, none⟩ = some c4 ∧ w.cell? ⟨b, 6, none⟩ = some c5 :=
  ⟨h.cell 0, h.cell 1, h.cell 2, h.cell 3, h.cell 4, h.cell 5, h.cell 6⟩

set_option maxRecDepth 100000 in
theorem count_any {w : World} {p : Option Addr} {t : TI} (h : Nd w p t) : Calls Try.prog 64 #[.pointer p] w fun e w' => e = .returned (.int .i64 (t.size : Nat)) ∧ w' = w := by
  cases t with
  | nil =>
    have h : p = none := h
    subst h
    go_enter Try.func64, Try.ntmps64
    go_wp2
    go_ret
    exact ⟨rfl, rfl⟩
  | node l k x r =>
    obtain ⟨b, pl, pr, rfl, h2, h3, h4⟩ := h
    obtain ⟨c0, c1, c1s, c2, c3, c4, c5⟩ := seven h2
    clear h2 h3 h4
    go_enter Try.func64, Try.ntmps64
    go_wp2
    go_ret
    exact ⟨rfl, rfl⟩
set_option maxRecDepth 100000 in
theorem deep_any {w : World} {p : Option Addr} {t : TI} (h : Nd w p t) : Calls Try.prog 97 #[.pointer p] w fun e w' => e = .returned (.int .i64 (t.depth : Nat)) ∧ w' = w := by
  cases t with
  | nil =>
    have h : p = none := h
    subst h
    go_enter Try.func97, Try.ntmps97
    go_wp2
    go_ret
    exact ⟨rfl, rfl⟩
  | node l k x r =>
    obtain ⟨b, pl, pr, rfl, h2, h3, h4⟩ := h
    obtain ⟨c0, c1, c1s, c2, c3, c4, c5⟩ := seven h2
    clear h2 h3 h4
    go_enter Try.func97, Try.ntmps97
    go_wp2
    go_ret
    exact ⟨rfl, rfl⟩
set_option maxRecDepth 100000 in
theorem side_low {w : World} {p : Option Addr} {b : Nat} {c0 c1 c1s c2 c3 c4 c5 : Value} (hp : p = some ⟨b, 0, none⟩) (h : Blk w b #[c0, c1, c1s, c2, c3, c4, c5] 118) : Calls Try.prog 77 #[.pointer p, .bool false] w fun e w' => e = .returned c2 ∧ w' = w := by
  subst hp
  obtain ⟨c0, c1, c1s, c2, c3, c4, c5⟩ := seven h
  clear h
  go_enter Try.func77, Try.ntmps77
  go_wp2
  go_ret
  exact ⟨rfl, rfl⟩
set_option maxRecDepth 100000 in
theorem side_high {w : World} {p : Option Addr} {b : Nat} {c0 c1 c1s c2 c3 c4 c5 : Value} (hp : p = some ⟨b, 0, none⟩) (h : Blk w b #[c0, c1, c1s, c2, c3, c4, c5] 118) : Calls Try.prog 77 #[.pointer p, .bool true] w fun e w' => e = .returned c3 ∧ w' = w := by
  subst hp
  obtain ⟨c0, c1, c1s, c2, c3, c4, c5⟩ := seven h
  clear h
  go_enter Try.func77, Try.ntmps77
  go_wp2
  go_ret
  exact ⟨rfl, rfl⟩
set_option maxRecDepth 100000 in
theorem cmp_lt {w : World} {a b : ByteArray} (h : KOrd.lt a b = true) : Calls Try.prog 92 #[.string a, .string b] w fun e w' => e = .returned (.int .i64 (-1)) ∧ w' = w := by
  have h1 : Op.bytesLess a.toList b.toList = true := h
  clear h
  go_enter Try.func92, Try.ntmps92
  go_wp2
  go_ret
  exact ⟨rfl, rfl⟩
set_option maxRecDepth 100000 in
theorem cmp_gt {w : World} {a b : ByteArray} (h : KOrd.lt b a = true) : Calls Try.prog 92 #[.string a, .string b] w fun e w' => e = .returned (.int .i64 1) ∧ w' = w := by
  have h1 : Op.bytesLess b.toList a.toList = true := h
  have h2 : Op.bytesLess a.toList b.toList = false := bl_asym _ _ h1
  have h3 : (a.toList == b.toList) = false := by
    cases he : (a.toList == b.toList) with
    | false => rfl
    | true => rw [beq_iff_eq] at he; rw [he, bl_irr] at h1; cases h1
  clear h
  go_enter Try.func92, Try.ntmps92
  go_wp2
  go_ret
  exact ⟨rfl, rfl⟩
set_option maxRecDepth 100000 in
theorem cmp_eq {w : World} {a b : ByteArray} (h : b = a) : Calls Try.prog 92 #[.string a, .string b] w fun e w' => e = .returned (.int .i64 0) ∧ w' = w := by
  subst h
  have h2 : Op.bytesLess b.toList b.toList = false := bl_irr _
  go_enter Try.func92, Try.ntmps92
  go_wp2
  go_ret
  exact ⟨rfl, rfl⟩
set_option maxRecDepth 100000 in
theorem less_any {w : World} (a b : ByteArray) : Calls Try.prog 100 #[.string a, .string b] w fun e w' => e = .returned (.bool (KOrd.lt a b)) ∧ w' = w := by
  rw [klt_str]
  generalize hx : Op.bytesLess a.toList b.toList = x
  go_enter Try.func100, Try.ntmps100
  go_wp2
  go_ret
  exact ⟨rfl, rfl⟩
end Go.Proofs.Ytkejpbfbpomjfab.tre
