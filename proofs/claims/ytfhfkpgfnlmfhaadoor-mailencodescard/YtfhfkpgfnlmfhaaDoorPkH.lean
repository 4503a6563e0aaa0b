/- Texts laid one behind the other: Real Rreal. -/
import Derived.Test.YtfhfkpgfnlmfhaaDoorPkF
import Derived.Test.YtfhfkpgfnlmfhaaDoorPkG
import Derived.Laws.Cover2
import Derived.Laws.ResultCell
import Derived.Laws.IdiomArrays
/- Real numbers as their bits: the writer's Real. -/
namespace Go.Proofs.YtfhfkpgfnlmfhaaDoor
open Go.RowKit

/-- Is it a NaN? (A number that is unlike itself.) -/
def nanB (n : Nat) : Bool := FloatKind.f64.format.order n n != some .eq
def oneNaN : Nat := 9221120237041090560
theorem nan_one : nanB oneNaN = true := by decide +kernel
def canon (n : Nat) : Nat := if nanB n then oneNaN else n
def be8 (m : Nat) : List Nat := [m / 72057594037927936, m / 281474976710656 % 256, m / 1099511627776 % 256, m / 4294967296 % 256, m / 16777216 % 256, m / 65536 % 256, m / 256 % 256, m % 256]

/-- Eight bytes as cells, written out. -/
def cells8 (x0 x1 x2 x3 x4 x5 x6 x7 : Nat) : Array Value := #[.int .u8 x0, .int .u8 x1, .int .u8 x2, .int .u8 x3, .int .u8 x4, .int .u8 x5, .int .u8 x6, .int .u8 x7]

/-- lay with one part of new memory that reads as bytes. -/
theorem lay_one_sees {w w1 : World} {b : Nat} {s : WS} {v sv : Value} (h : Wr w b s v sv) (hf : s.fault = 0) (fv : Value) (fs : List Nat)
    (hfo : Sees w1 fv fs) (hfn : ∀ k, fv.ownBlock = some k → w.heap.size ≤ k) (hk1 : Kept [] w w1)
    (hl : s.bs.length + fs.length ≤ 70368744177664) (hroom : s.bs.length + fs.length ≤ s.room) :
    Calls Tryd.prog 52 #[.pointer (some ⟨b, 0, none⟩), .slice (some ⟨w1.heap.size, 0, none⟩) 1 1] (w1.alloc (.cells #[fv] 23)) fun e w' => e = .returned (.tuple #[]) ∧
      ∃ v', Wr w' b { s with bs := s.bs ++ fs } v' sv ∧ Kept (foot b v sv) w w' ∧ ∀ x, x ∈ foot b v' sv → x ∈ foot b v sv ∨ w.heap.size ≤ x := by
  have hfl := foot_lt h
  have hks := hk1.size
  have ec : cat [(fv, fs)] = fs := by simp [cat]
  have h1 : Wr (w1.alloc (.cells #[fv] 23)) b s v sv := (h.kept hk1 (by simp)).alloc _
  refine (lay_fits h1 hf w1.heap.size 1 [(fv, fs)] (Blk.new _ _ _) (fun hm => by have := hfl _ hm; omega) ?_ (by rw [ec]; exact hl) (by simp) (by rw [ec]; exact hroom)).mono ?_
  · intro p hp
    simp at hp; subst hp
    refine ⟨sees_alloc _ hfo, fun k hk hm => ?_⟩
    have := hfl _ hm; have := hfn k hk; omega
  · rintro e w' ⟨rfl, v', hw, hk, hx⟩
    rw [ec] at hw
    refine ⟨rfl, v', hw, (hk1.alloc _).mono (by simp) |>.trans hk (fun x hx => Or.inl hx), fun x hxx => ?_⟩
    rcases hx x hxx with h2 | h2
    · exact Or.inl h2
    · right; simp at h2; omega

theorem sees8 (w : World) (x0 x1 x2 x3 x4 x5 x6 x7 : Nat) (t : TypeId) : Sees (w.alloc (.cells #[.int .u8 x0, .int .u8 x1, .int .u8 x2, .int .u8 x3, .int .u8 x4, .int .u8 x5, .int .u8 x6, .int .u8 x7] t)) (.slice (some ⟨w.heap.size, 0, none⟩) 8 8) [x0, x1, x2, x3, x4, x5, x6, x7] := by
  refine Or.inr ⟨w.heap.size, 0, 8, rfl, by simp, by unfold maxLen; omega, by simp, fun j hj => ?_⟩
  have b := Blk.new w #[.int .u8 x0, .int .u8 x1, .int .u8 x2, .int .u8 x3, .int .u8 x4, .int .u8 x5, .int .u8 x6, .int .u8 x7] t
  rw [b.cell]
  simp at hj
  match j, hj with
  | 0, _ => rfl
  | 1, _ => rfl
  | 2, _ => rfl
  | 3, _ => rfl
  | 4, _ => rfl
  | 5, _ => rfl
  | 6, _ => rfl
  | 7, _ => rfl

end Go.Proofs.YtfhfkpgfnlmfhaaDoor

/- The reader's Real. -/
namespace Go.Proofs.YtfhfkpgfnlmfhaaDoor
open Go.RowKit

/-- The number that eight bytes are, the highest first. -/
def of8 : List Nat → Nat := fun l => l.foldl (fun n b => n * 256 + b) 0

theorem be8_of8 (m : Nat) (h : m < 18446744073709551616) : of8 (be8 m) = m := by
  unfold of8 be8; simp only [List.foldl]; omega
theorem be8_lt (m : Nat) (h : m < 18446744073709551616) : ∀ x ∈ be8 m, x < 256 := by
  unfold be8; intro x hx; simp at hx; omega

theorem or_low (n x : Nat) (hx : x < 256) (hn : n < 72057594037927936) : bits .or .u64 (IntKind.u64.wrap ((n : Int) * 256)) (x : Int) = ((n * 256 + x : Nat) : Int) := by
  have e : IntKind.u64.wrap ((n : Int) * 256) = ((n * 256 : Nat) : Int) := by rw [IntKind.wrap_u64]; omega
  rw [e, u64_or_nat _ _ (by omega) (by omega)]
  have := Nat.two_pow_add_eq_or_of_lt (i := 8) (b := x) (by omega) n
  rw [Nat.mul_comm n 256, show (256 : Nat) = 2 ^ 8 from rfl, ← this]

end Go.Proofs.YtfhfkpgfnlmfhaaDoor
