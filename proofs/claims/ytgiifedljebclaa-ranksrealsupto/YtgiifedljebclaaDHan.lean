/- A sketch or none: the program's and the document's. -/
import Derived.Test.YtgiifedljebclaaDTie
import Derived.Test.YtgiifedljebclaaDAsk
import Derived.Test.YtgiifedljebclaaDAdd
import Derived.Test.YtgiifedljebclaaRRefQ
import Derived.Test.YtgiifedljebclaaRRefBw
namespace Go.Proofs.Ytgiifedljebclaa.flo
open Go.RowKit ref

def Hp (val : Nat → Nat) (w : World) (p : Value) (F : List Nat) : Option Sd → Prop
  | none => p = .pointer none ∧ F = []
  | some s => ∃ b v, p = .pointer (some ⟨b, 0, none⟩) ∧ Sk w b s.inv s.l.length (mapE (fV val) s.E) v ∧ F = b :: v.ownBlock.toList
def Hq (code : Nat → Int) (w : World) (p : Value) (F : List Nat) : Option Sd → Prop
  | none => p = .pointer none ∧ F = []
  | some s => ∃ b v, p = .pointer (some ⟨b, 0, none⟩) ∧ Rf w b s.inv s.l.length (mapE (fC code) s.E) v ∧ F = b :: v.ownBlock.toList
theorem Hp.kept {val : Nat → Nat} {w w' : World} {p : Value} {F G : List Nat} {o : Option Sd} (h : Hp val w p F o) (k : Kept G w w') (hd : ∀ x ∈ F, x ∉ G) : Hp val w' p F o := by
  cases o with
  | none => exact h
  | some s =>
    obtain ⟨b, v, hp, hs, rfl⟩ := h
    exact ⟨b, v, hp, hs.keep k (hd b (List.mem_cons_self ..)) (fun q hq => hd q (List.mem_cons_of_mem _ (by rw [hq]; simp))), rfl⟩
theorem Hq.kept {code : Nat → Int} {w w' : World} {p : Value} {F G : List Nat} {o : Option Sd} (h : Hq code w p F o) (k : Kept G w w') (hd : ∀ x ∈ F, x ∉ G) : Hq code w' p F o := by
  cases o with
  | none => exact h
  | some s =>
    obtain ⟨b, v, hp, hs, rfl⟩ := h
    exact ⟨b, v, hp, hs.keep k (hd b (List.mem_cons_self ..)) (fun q hq => hd q (List.mem_cons_of_mem _ (by rw [hq]; simp))), rfl⟩
/-- a sketch is sound, and not too great -/
def Og (L : Nat) (val : Nat → Nat) (code : Nat → Int) (N : Nat) (o : Option Sd) : Prop := ∀ s, o = some s → Good L val code s ∧ s.l.length ≤ N
def cntO (o : Option Sd) : Nat := match o with | none => 0 | some s => s.l.length
def sizO (o : Option Sd) : Nat := match o with | none => 0 | some s => s.E.length
def errA (o : Option Sd) : Int := match o with | none => 1 | some _ => 0
def errQ (o : Option Sd) (r : Int) : Int := match o with | none => 1 | some s => if 1 ≤ r ∧ r ≤ (s.l.length : Int) then 0 else 60
def valQ (val : Nat → Nat) (o : Option Sd) (r : Int) : Nat := match o with | none => 0 | some s => if 1 ≤ r ∧ r ≤ (s.l.length : Int) then nearE 0 r.toNat (mapE (fV val) s.E) else 0
def whiQ (code : Nat → Int) (o : Option Sd) (r : Int) : Nat := match o with | none => 0 | some s => if 1 ≤ r ∧ r ≤ (s.l.length : Int) then (nearE (0, 0) r.toNat (mapE (fC code) s.E)).1 else 0
def belV (val : Nat → Nat) (o : Option Sd) (v : Nat) : Nat × Nat := match o with | none => (0, 0) | some s => belowE gtV s.l.length (mapE (fV val) s.E) (val v)
def belC (code : Nat → Int) (o : Option Sd) (v : Nat) : Nat × Nat := match o with | none => (0, 0) | some s => belowE gtC s.l.length (mapE (fC code) s.E) (0, code v)
def nxtO (val : Nat → Nat) (o : Option Sd) (v : Nat) : Option Sd := match o with | none => none | some s => some (s.next val v)
set_option maxRecDepth 100000 in
theorem count_h {val : Nat → Nat} {w : World} {p : Value} {F : List Nat} {o : Option Sd} (h : Hp val w p F o) : Calls Try.prog 25 #[p] w fun e w' => e = .returned (.int .i64 (cntO o : Int)) ∧ w' = w := by
  cases o with
  | some s => obtain ⟨b, v, rfl, hs, -⟩ := h; exact count_any hs
  | none =>
    obtain ⟨rfl, -⟩ := h
    go_enter Try.func25, Try.ntmps25
    go_wp2
    go_ret
    exact ⟨rfl, rfl⟩
set_option maxRecDepth 100000 in
theorem size_h {val : Nat → Nat} {w : World} {p : Value} {F : List Nat} {o : Option Sd} (h : Hp val w p F o) : Calls Try.prog 26 #[p] w fun e w' => e = .returned (.int .i64 (sizO o : Int)) ∧ w' = w := by
  cases o with
  | some s =>
    obtain ⟨b, v, rfl, hs, -⟩ := h
    have := size_any hs
    rw [mapE_len] at this
    exact this
  | none =>
    obtain ⟨rfl, -⟩ := h
    go_enter Try.func26, Try.ntmps26
    go_wp2
    go_ret
    exact ⟨rfl, rfl⟩
set_option maxRecDepth 100000 in
theorem rcount_h {code : Nat → Int} {w : World} {p : Value} {F : List Nat} {o : Option Sd} (h : Hq code w p F o) : Calls Try.prog 13 #[p] w fun e w' => e = .returned (.int .i64 (cntO o : Int)) ∧ w' = w := by
  cases o with
  | some s => obtain ⟨b, v, rfl, hs, -⟩ := h; exact rcount_any hs
  | none =>
    obtain ⟨rfl, -⟩ := h
    go_enter Try.func13, Try.ntmps13
    go_wp2
    go_ret
    exact ⟨rfl, rfl⟩
set_option maxRecDepth 100000 in
theorem rsize_h {code : Nat → Int} {w : World} {p : Value} {F : List Nat} {o : Option Sd} (h : Hq code w p F o) : Calls Try.prog 15 #[p] w fun e w' => e = .returned (.int .i64 (sizO o : Int)) ∧ w' = w := by
  cases o with
  | some s =>
    obtain ⟨b, v, rfl, hs, -⟩ := h
    have := rsize_any hs
    rw [mapE_len] at this
    exact this
  | none =>
    obtain ⟨rfl, -⟩ := h
    go_enter Try.func15, Try.ntmps15
    go_wp2
    go_ret
    exact ⟨rfl, rfl⟩
set_option maxRecDepth 100000 in
theorem query_h {L N : Nat} {val : Nat → Nat} {code : Nat → Int} {w : World} {p : Value} {F : List Nat} {o : Option Sd} (h : Hp val w p F o) (g : Og L val code N o) (hN : N ≤ 549755813887) (r : Int) : Calls Try.prog 29 #[p, .int .i64 r] w fun e w' => e = .returned (.tuple #[(.float .f64 (valQ val o r)), .int .i64 (errQ o r)]) ∧ Kept [] w w' := by
  cases o with
  | some s =>
    obtain ⟨b, v, rfl, hs, -⟩ := h
    obtain ⟨gd, hl⟩ := g s rfl
    unfold valQ errQ
    by_cases c : 1 ≤ r ∧ r ≤ (s.l.length : Int)
    · simp only [if_pos c]
      obtain ⟨m, rfl⟩ : ∃ m : Nat, r = (m : Int) := ⟨r.toNat, by omega⟩
      rw [Int.toNat_natCast]
      exact query_any hs gd.fv (by omega) m (by omega) (by omega)
    · simp only [if_neg c]
      exact query_none hs r (by omega)
  | none =>
    obtain ⟨rfl, -⟩ := h
    go_enter Try.func29, Try.ntmps29
    go_wp2
    go_ret2
    exact ⟨rfl, Kept.refl _ _⟩
set_option maxRecDepth 100000 in
theorem rquery_h {L N : Nat} {val : Nat → Nat} {code : Nat → Int} {w : World} {p : Value} {F : List Nat} {o : Option Sd} (h : Hq code w p F o) (g : Og L val code N o) (hN : N ≤ 549755813887) (r : Int) : Calls Try.prog 20 #[p, .int .i64 r] w fun e w' => e = .returned (.tuple #[.int .i64 (whiQ code o r : Int), .int .i64 (errQ o r)]) ∧ Kept [] w w' := by
  cases o with
  | some s =>
    obtain ⟨b, v, rfl, hs, -⟩ := h
    obtain ⟨gd, hl⟩ := g s rfl
    unfold whiQ errQ
    by_cases c : 1 ≤ r ∧ r ≤ (s.l.length : Int)
    · simp only [if_pos c]
      obtain ⟨m, rfl⟩ : ∃ m : Nat, r = (m : Int) := ⟨r.toNat, by omega⟩
      rw [Int.toNat_natCast]
      exact (rquery_any hs gd.fc (by omega) m (by omega) (by omega)).mono fun e w' ⟨a, b⟩ => ⟨a, b.kept⟩
    · simp only [if_neg c]
      exact (rquery_none hs r (by omega)).mono fun e w' ⟨a, b⟩ => ⟨a, b ▸ Kept.refl _ _⟩
  | none =>
    obtain ⟨rfl, -⟩ := h
    go_enter Try.func20, Try.ntmps20
    go_wp2
    go_ret2
    exact ⟨rfl, Kept.refl _ _⟩
set_option maxRecDepth 100000 in
theorem below_h {L N : Nat} {val : Nat → Nat} {code : Nat → Int} {w : World} {p : Value} {F : List Nat} {o : Option Sd} (h : Hp val w p F o) (g : Og L val code N o) (hN : N ≤ 549755813887) (v : Nat) : Calls Try.prog 31 #[p, (.float .f64 (val v))] w fun e w' => e = .returned (.tuple #[.int .i64 ((belV val o v).1 : Nat), .int .i64 ((belV val o v).2 : Nat)]) ∧ Kept [] w w' := by
  cases o with
  | some s =>
    obtain ⟨b, v', rfl, hs, -⟩ := h
    obtain ⟨gd, hl⟩ := g s rfl
    exact below_any hs gd.fv (by omega) (val v)
  | none =>
    obtain ⟨rfl, -⟩ := h
    unfold belV
    generalize val v = x
    go_enter Try.func31, Try.ntmps31
    go_wp2
    go_ret2
    exact ⟨rfl, Kept.refl _ _⟩
set_option maxRecDepth 100000 in
theorem rbelow_h {L N : Nat} {val : Nat → Nat} {code : Nat → Int} {w : World} {p : Value} {F : List Nat} {o : Option Sd} (h : Hq code w p F o) (g : Og L val code N o) (hN : N ≤ 549755813887) (v : Nat) : Calls Try.prog 22 #[p, .int .i64 (code v)] w fun e w' => e = .returned (.tuple #[.int .i64 ((belC code o v).1 : Nat), .int .i64 ((belC code o v).2 : Nat)]) ∧ Kept [] w w' := by
  cases o with
  | some s =>
    obtain ⟨b, v', rfl, hs, -⟩ := h
    obtain ⟨gd, hl⟩ := g s rfl
    exact (rbelow_any hs gd.fc (by omega) 0 (code v)).mono fun e w' ⟨a, b⟩ => ⟨a, b.kept⟩
  | none =>
    obtain ⟨rfl, -⟩ := h
    unfold belC
    generalize code v = x
    go_enter Try.func22, Try.ntmps22
    go_wp2
    go_ret2
    exact ⟨rfl, Kept.refl _ _⟩
theorem Og.bel {L N : Nat} {val : Nat → Nat} {code : Nat → Int} (hO : Ord L val code) {o : Option Sd} (g : Og L val code N o) {v : Nat} (hv : v < L) : belV val o v = belC code o v := by
  cases o with
  | none => rfl
  | some s => exact below_tie hO (g s rfl).1 hv
theorem Og.next {L N : Nat} {val : Nat → Nat} {code : Nat → Int} (hO : Ord L val code) {o : Option Sd} (g : Og L val code N o) {v : Nat} (hv : v < L) : Og L val code (N + 1) (nxtO val o v) := by
  cases o with
  | none => intro s h; cases h
  | some s => intro s' h; cases h; exact ⟨(g s rfl).1.next hO hv, by have := (g s rfl).2; simp [Sd.next]; exact this⟩
set_option maxRecDepth 100000 in
theorem add_h {L N : Nat} {val : Nat → Nat} {code : Nat → Int} {w : World} {p : Value} {F : List Nat} {o : Option Sd} (h : Hp val w p F o) (g : Og L val code N o) (hN : N ≤ 549755813887) {v : Nat} (hv : v < L) :
    Calls Try.prog 27 #[p, (.float .f64 (val v))] w fun e w' => e = .returned (.int .i64 (errA o)) ∧ ∃ F', Hp val w' p F' (nxtO val o v) ∧ Kept F w w' ∧ ∀ x ∈ F', x ∈ F ∨ w.heap.size ≤ x := by
  cases o with
  | some s =>
    obtain ⟨b, v', rfl, hs, rfl⟩ := h
    obtain ⟨gd, hl⟩ := g s rfl
    refine (add_any hs gd.fv gd.i2 gd.i1024 (by omega) (val v)).mono fun e w' ⟨a, v2, h1, h2, h3⟩ => ⟨a, b :: v2.ownBlock.toList, ⟨b, v2, rfl, ?_, rfl⟩, h2, fun x hx => ?_⟩
    · show Sk w' b s.inv (s.l ++ [v]).length (mapE (fV val) (s.next val v).E) v2
      rw [next_V gd hv, List.length_append]
      exact h1
    · rcases List.mem_cons.1 hx with q | q
      · exact Or.inl (List.mem_cons.2 (Or.inl q))
      · rcases h3 with z | ⟨k, z1, z2⟩
        · rw [z] at q; exact Or.inl (List.mem_cons.2 (Or.inr q))
        · rw [z1] at q; simp at q; exact Or.inr (by omega)
  | none =>
    obtain ⟨rfl, rfl⟩ := h
    generalize val v = x
    go_enter Try.func27, Try.ntmps27
    go_wp2
    go_ret
    exact ⟨rfl, [], ⟨rfl, rfl⟩, Kept.refl _ _, fun x hx => by cases hx⟩
end Go.Proofs.Ytgiifedljebclaa.flo
