/- A meter, or none: what each call makes of it, on both sides. -/
import Derived.Test.YthhgeobfolhpoaaVRfN
import Derived.Test.YthhgeobfolhpoaaVRf4
import Derived.Test.YthhgeobfolhpoaaVNilW
import Derived.Test.YthhgeobfolhpoaaVHalP
namespace Go.Proofs.Ythhgeobfolhpoaa
open Go.RowKit

/-- what a call may do: its own blocks, and new ones that it takes -/
structure Nx (F : List Nat) (w : World) (F' : List Nat) (w' : World) : Prop where
  kept : Kept F w w'
  sub : ∀ x ∈ F', x ∈ F ∨ w.heap.size ≤ x
theorem Nx.refl (F : List Nat) (w : World) : Nx F w F w := ⟨Kept.refl _ _, fun _ h => Or.inl h⟩
theorem Nx.away {F F' : List Nat} {w w' : World} (h : Nx F w F' w') {q : Nat} (hq : q ∉ F) (hl : q < w.heap.size) : q ∉ F' := fun hm => by
  rcases h.sub q hm with h1 | h1
  · exact hq h1
  · omega
theorem Nx.after {F G : List Nat} {a b c : World} (k : Kept [] a b) (h : Nx F b G c) : Nx F a G c := by
  have hs := k.size
  refine ⟨(k.mono (G := F) (fun _ hx => by cases hx)).trans h.kept (fun x hx => Or.inl hx), fun x hx => ?_⟩
  rcases h.sub x hx with h1 | h1
  · exact Or.inl h1
  · right; omega
theorem Nx.quiet {F G : List Nat} {a b c : World} (h : Nx F a G b) (k : Kept [] b c) : Nx F a G c := ⟨h.kept.trans k (fun _ hx => by cases hx), h.sub⟩

/-- the program's meter, or none -/
def Mh (w : World) (p : Value) (X : List Nat) (o : Option Mt) : Prop :=
  (∀ x ∈ X, x < w.heap.size) ∧ match o with
  | none => p = .pointer none
  | some m => ∃ b g, p = .pointer (some ⟨b, 0, none⟩) ∧ Mp w b g m ∧ b ∈ X ∧ g ∈ X
/-- the document's meter, or none; it has at most N hits -/
def Dh (w : World) (p : Value) (Y : List Nat) (o : Option Mt) (N : Nat) : Prop :=
  (∀ x ∈ Y, x < w.heap.size) ∧ match o with
  | none => p = .pointer none
  | some m => ∃ b r, p = .pointer (some ⟨b, 0, none⟩) ∧ Rk w b Y r ∧ Rel m r ∧ r.all.length ≤ N
theorem Mh.ofNone {w : World} {p : Value} {X : List Nat} (h : Mh w p X none) : p = .pointer none := h.2
theorem Mh.ofSome {w : World} {p : Value} {X : List Nat} {m : Mt} (h : Mh w p X (some m)) : ∃ b g, p = .pointer (some ⟨b, 0, none⟩) ∧ Mp w b g m ∧ b ∈ X ∧ g ∈ X := h.2
theorem Dh.ofNone {w : World} {p : Value} {Y : List Nat} {N : Nat} (h : Dh w p Y none N) : p = .pointer none := h.2
theorem Dh.ofSome {w : World} {p : Value} {Y : List Nat} {m : Mt} {N : Nat} (h : Dh w p Y (some m) N) : ∃ b r, p = .pointer (some ⟨b, 0, none⟩) ∧ Rk w b Y r ∧ Rel m r ∧ r.all.length ≤ N := h.2
theorem Mh.keep {w w' : World} {p : Value} {X F : List Nat} {o : Option Mt} (h : Mh w p X o) (hk : Kept F w w') (hn : ∀ x ∈ X, x ∉ F) : Mh w' p X o := by
  refine ⟨fun x hx => Nat.lt_of_lt_of_le (h.1 x hx) hk.size, ?_⟩
  cases o with
  | none => exact h.2
  | some m => obtain ⟨b, g, e, h1, h2, h3⟩ := h.2; exact ⟨b, g, e, h1.kept hk (hn b h2) (hn g h3), h2, h3⟩
theorem Dh.keep {w w' : World} {p : Value} {Y F : List Nat} {o : Option Mt} {N : Nat} (h : Dh w p Y o N) (hk : Kept F w w') (hn : ∀ x ∈ Y, x ∉ F) : Dh w' p Y o N := by
  refine ⟨fun x hx => Nat.lt_of_lt_of_le (h.1 x hx) hk.size, ?_⟩
  cases o with
  | none => exact h.2
  | some m => obtain ⟨b, r, e, h1, h2, h3⟩ := h.2; exact ⟨b, r, e, h1.keep hk hn, h2, h3⟩
theorem Dh.more {w : World} {p : Value} {Y : List Nat} {o : Option Mt} {N M : Nat} (h : Dh w p Y o N) (hm : N ≤ M) : Dh w p Y o M := by
  refine ⟨h.1, ?_⟩
  cases o with
  | none => exact h.2
  | some m => obtain ⟨b, r, e, h1, h2, h3⟩ := h.2; exact ⟨b, r, e, h1, h2, by omega⟩
theorem Mh.quiet {w w' : World} {p : Value} {X : List Nat} {o : Option Mt} (h : Mh w p X o) (hk : Kept [] w w') : Mh w' p X o := h.keep hk (by simp)
theorem Dh.quiet {w w' : World} {p : Value} {Y : List Nat} {o : Option Mt} {N : Nat} (h : Dh w p Y o N) (hk : Kept [] w w') : Dh w' p Y o N := h.keep hk (by simp)
theorem Mh.mk {w : World} {b g : Nat} {X : List Nat} {m : Mt} (h : Mp w b g m) (hX : ∀ x ∈ X, x < w.heap.size) (hb : b ∈ X) (hg : g ∈ X) : Mh w (.pointer (some ⟨b, 0, none⟩)) X (some m) := ⟨hX, b, g, rfl, h, hb, hg⟩
theorem Mh.non (w : World) : Mh w (.pointer none) [] none := ⟨by simp, rfl⟩
theorem Dh.non (w : World) (N : Nat) : Dh w (.pointer none) [] none N := ⟨by simp, rfl⟩
theorem Mh.ok {w : World} {p : Value} {X : List Nat} {m : Mt} (h : Mh w p X (some m)) : m.ok := by obtain ⟨b, g, -, h1, -⟩ := h.ofSome; exact h1.ok

def errH (o : Option Mt) (s now : Int) (x : Nat) : Nat := match o with | none => 1 | some m => m.hitE s now x
def onH (o : Option Mt) (s now : Int) (x : Nat) : Option Mt := o.map fun m => m.onHit s now x
def errG (o : Option Mt) (now : Int) : Nat := match o with | none => 1 | some m => m.goE now
def onG (o : Option Mt) (now : Int) : Option Mt := o.map fun m => m.onGo now
def ofO (o : Option Mt) (s : Int) : Nat := match o with | none => 0 | some m => m.of s
def sumO (o : Option Mt) : Nat := match o with | none => 0 | some m => m.sum
def meanO (o : Option Mt) : Nat := match o with | none => 0 | some m => m.mean
def sprO (o : Option Mt) : Nat := match o with | none => 0 | some m => m.spread
def topO (o : Option Mt) : Int := match o with | none => -1 | some m => ((topF m.loads m.loads.length : Nat) : Int)
def rowO (o : Option Mt) : List Nat := match o with | none => [] | some m => m.loads
def wre (o : Option Mt) (k : Nat) : Nat := match o with | none => 0 | some m => wv reW m.wins k 8
def wim (o : Option Mt) (k : Nat) : Nat := match o with | none => 0 | some m => wv imW m.wins k 8
def wavO (o : Option Mt) : List Value := (List.range 8).map fun k => .complex .f64 (wre o k) (wim o k)

theorem hit_h {w : World} {p : Value} {X : List Nat} {o : Option Mt} (h : Mh w p X o) (s now : Int) {x : Nat} (hx : x < 18446744073709551616) :
    Calls Try.prog 29 #[p, .int .i64 s, .int .i64 now, .float .f64 x] w fun e w' => e = .returned (.int .i64 (errH o s now x : Nat)) ∧ Mh w' p X (onH o s now x) ∧ Nx X w X w' := by
  cases o with
  | none => obtain rfl := h.ofNone; exact (nhit w s now x).mono fun e w' ⟨he, hw⟩ => ⟨he, by rw [hw]; exact h, by rw [hw]; exact Nx.refl _ _⟩
  | some m =>
    obtain ⟨b, g, rfl, h1, h2, h3⟩ := h.ofSome
    refine (hit_any h1 s now hx).mono fun e w' ⟨he, hm, hk⟩ => ⟨he, Mh.mk hm (fun y hy => Nat.lt_of_lt_of_le (h.1 y hy) hk.size) h2 h3, hk.mono (fun y hy => by simp at hy; rcases hy with rfl | rfl; exact Or.inl h2; exact Or.inl h3), fun y hy => Or.inl hy⟩
theorem go_h {w : World} {p : Value} {X : List Nat} {o : Option Mt} (h : Mh w p X o) (now : Int) :
    Calls Try.prog 18 #[p, .int .i64 now] w fun e w' => e = .returned (.int .i64 (errG o now : Nat)) ∧ Mh w' p X (onG o now) ∧ Nx X w X w' := by
  cases o with
  | none => obtain rfl := h.ofNone; exact (ngo w now).mono fun e w' ⟨he, hw⟩ => ⟨he, by rw [hw]; exact h, by rw [hw]; exact Nx.refl _ _⟩
  | some m =>
    obtain ⟨b, g, rfl, h1, h2, h3⟩ := h.ofSome
    refine (go_any h1 now).mono fun e w' ⟨he, hm, hk⟩ => ⟨he, Mh.mk hm (fun y hy => Nat.lt_of_lt_of_le (h.1 y hy) hk.size) h2 h3, hk.mono (fun y hy => by simp at hy; rcases hy with rfl | rfl; exact Or.inl h2; exact Or.inl h3), fun y hy => Or.inl hy⟩
theorem rhit_h {w : World} {p : Value} {Y : List Nat} {o : Option Mt} {N : Nat} (h : Dh w p Y o N) (s now : Int) {x : Nat} (hx : x < 18446744073709551616) (hN : (N + 1) * 24 ≤ 140737488355328) :
    Calls Try.prog 30 #[p, .int .i64 s, .int .i64 now, .float .f64 x] w fun e w' => ∃ Y', e = .returned (.int .i64 (errH o s now x : Nat)) ∧ Dh w' p Y' (onH o s now x) (N + 1) ∧ Nx Y w Y' w' := by
  cases o with
  | none => obtain rfl := h.ofNone; exact (rnhit w s now x).mono fun e w' ⟨he, hw⟩ => ⟨Y, he, by rw [hw]; exact h.more (by omega), by rw [hw]; exact Nx.refl _ _⟩
  | some m =>
    obtain ⟨b, r, rfl, h1, h2, h3⟩ := h.ofSome
    by_cases hz : m.hitE s now x = 0
    · obtain ⟨a1, a2, a3, a4⟩ := Mt.hitE_ok hz
      have a5 := Mt.goE_ok a4
      obtain ⟨sn, rfl⟩ : ∃ n : Nat, s = (n : Int) := ⟨s.toNat, by omega⟩
      obtain ⟨tn, rfl⟩ : ∃ n : Nat, now = (n : Int) := ⟨now.toNat, by omega⟩
      refine (rhit_yes h1 h2 (s := sn) (t := tn) (by omega) (by omega) (by omega) a3 (by omega)).mono ?_
      rintro e w' ⟨G', rfl, hr, hk, hs⟩
      refine ⟨G', by simp [errH, hz], ⟨hr.lt, b, _, rfl, hr, ?_, by simp; omega⟩, hk, hs⟩
      show Rel (m.onHit sn tn x) _
      unfold Mt.onHit
      rw [if_pos hz]
      exact h2.hit (by omega) (by omega) (by omega) a3
    · obtain ⟨pa, pc, hp, -⟩ := h1.rp
      refine (rhit_no hp h2 hx hz).mono fun e w' ⟨he, hw⟩ => ⟨Y, he, ?_, by rw [hw]; exact Nx.refl _ _⟩
      rw [hw]
      refine ⟨h.1, b, r, rfl, h1, ?_, by omega⟩
      show Rel (m.onHit s now x) _
      unfold Mt.onHit
      rw [if_neg hz]
      exact h2
theorem rgo_h {w : World} {p : Value} {Y : List Nat} {o : Option Mt} {N : Nat} (h : Dh w p Y o N) (now : Int) :
    Calls Try.prog 31 #[p, .int .i64 now] w fun e w' => e = .returned (.int .i64 (errG o now : Nat)) ∧ Dh w' p Y (onG o now) N ∧ Nx Y w Y w' := by
  cases o with
  | none => obtain rfl := h.ofNone; exact (rngo w now).mono fun e w' ⟨he, hw⟩ => ⟨he, by rw [hw]; exact h, by rw [hw]; exact Nx.refl _ _⟩
  | some m =>
    obtain ⟨b, r, rfl, h1, h2, h3⟩ := h.ofSome
    obtain ⟨pa, pc, hp, hpg⟩ := h1.rp
    have he : r.goE now = m.goE now := by unfold Rt.goE Mt.goE; rw [h2.now]
    refine (rgo_any hp now).mono ?_
    rintro e w' ⟨rfl, hr, hk⟩
    have hkY : Kept Y w w' := hk.mono (fun y hy => by simp at hy; subst hy; exact Or.inl h1.b)
    have hlt : ∀ y ∈ Y, y < w'.heap.size := fun y hy => Nat.lt_of_lt_of_le (h.1 y hy) hk.size
    rw [he] at hr
    by_cases hz : m.goE now = 0
    · rw [if_pos hz] at hr
      refine ⟨by rw [he]; rfl, ⟨hlt, b, _, rfl, ⟨⟨pa, pc, hr, hpg⟩, h1.b, hlt⟩, ?_, h3⟩, hkY, fun y hy => Or.inl hy⟩
      show Rel (m.onGo now) _
      unfold Mt.onGo
      rw [if_pos hz]
      have a5 := Mt.goE_ok hz
      exact h2.go (by omega) (by omega)
    · rw [if_neg hz] at hr
      refine ⟨by rw [he]; rfl, ⟨hlt, b, _, rfl, ⟨⟨pa, pc, hr, hpg⟩, h1.b, hlt⟩, ?_, h3⟩, hkY, fun y hy => Or.inl hy⟩
      show Rel (m.onGo now) _
      unfold Mt.onGo
      rw [if_neg hz]
      exact h2

theorem of_h {w : World} {p : Value} {X : List Nat} {o : Option Mt} (h : Mh w p X o) (s : Int) : Calls Try.prog 20 #[p, .int .i64 s] w fun e w' => e = .returned (.float .f64 (ofO o s)) ∧ Kept [] w w' := by
  cases o with
  | none => obtain rfl := h.ofNone; exact (nof w s).mono fun e w' ⟨he, hw⟩ => ⟨he, by rw [hw]; exact Kept.refl _ _⟩
  | some m => obtain ⟨b, g, rfl, h1, -⟩ := h.ofSome; exact (of_any h1 s).mono fun e w' ⟨he, hw⟩ => ⟨he, by rw [hw]; exact Kept.refl _ _⟩
theorem rof_h {w : World} {p : Value} {Y : List Nat} {o : Option Mt} {N : Nat} (h : Dh w p Y o N) (s : Int) (hN : N ≤ 9223372036854775807) : Calls Try.prog 32 #[p, .int .i64 s] w fun e w' => e = .returned (.float .f64 (ofO o s)) ∧ Kept [] w w' := by
  cases o with
  | none => obtain rfl := h.ofNone; exact (rnof w s).mono fun e w' ⟨he, hw⟩ => ⟨he, by rw [hw]; exact Kept.refl _ _⟩
  | some m =>
    obtain ⟨b, r, rfl, h1, h2, h3⟩ := h.ofSome
    obtain ⟨pa, pc, hp, -⟩ := h1.rp
    by_cases hz : s < 0 ∨ (m.loads.length : Int) ≤ s
    · have e1 : ofO (some m) s = ofR r m.loads.length := by
        show m.of s = _
        unfold Mt.of ofR
        rw [if_pos hz, acc_none (fun x hx => by have := (h2.hits x hx).1; omega), hlfN_zero]
      rw [e1]
      exact (rof_any hp h2 s m.loads.length (fun x hx => by have := (h2.hits x hx).1; omega) (by omega)).mono fun e w' ⟨he, k, hw⟩ => ⟨he, by rw [hw]; exact (Kept.refl _ _).drewN _⟩
    · obtain ⟨n, rfl⟩ : ∃ n : Nat, s = (n : Int) := ⟨s.toNat, by omega⟩
      have e1 : ofO (some m) (n : Int) = m.loads.getD n 0 := by
        show m.of _ = _
        unfold Mt.of
        rw [if_neg hz, Int.toNat_natCast]
      rw [e1]
      exact (rof_at hp h2 (by omega) (by omega)).mono fun e w' ⟨he, k, hw⟩ => ⟨he, by rw [hw]; exact (Kept.refl _ _).drewN _⟩
theorem sum_h {w : World} {p : Value} {X : List Nat} {o : Option Mt} (h : Mh w p X o) : Calls Try.prog 26 #[p] w fun e w' => e = .returned (.float .f64 (sumO o)) ∧ Kept [] w w' := by
  cases o with
  | none => obtain rfl := h.ofNone; exact (nsum w).mono fun e w' ⟨he, hw⟩ => ⟨he, by rw [hw]; exact Kept.refl _ _⟩
  | some m => obtain ⟨b, g, rfl, h1, -⟩ := h.ofSome; exact (sum_any h1).mono fun e w' ⟨he, hw⟩ => ⟨he, by rw [hw]; exact Kept.refl _ _⟩
theorem rsum_h {w : World} {p : Value} {Y : List Nat} {o : Option Mt} {N : Nat} (h : Dh w p Y o N) (hN : N ≤ 9223372036854775807) : Calls Try.prog 33 #[p] w fun e w' => e = .returned (.float .f64 (sumO o)) ∧ Kept [] w w' := by
  cases o with
  | none => obtain rfl := h.ofNone; exact (rnsum w).mono fun e w' ⟨he, hw⟩ => ⟨he, by rw [hw]; exact Kept.refl _ _⟩
  | some m => obtain ⟨b, r, rfl, h1, h2, h3⟩ := h.ofSome; obtain ⟨pa, pc, hp, -⟩ := h1.rp; exact rsum_any hp h2 (by omega)
theorem mean_h {w : World} {p : Value} {X : List Nat} {o : Option Mt} (h : Mh w p X o) : Calls Try.prog 27 #[p] w fun e w' => e = .returned (.float .f64 (meanO o)) ∧ Kept [] w w' := by
  cases o with
  | none => obtain rfl := h.ofNone; exact (nmean w).mono fun e w' ⟨he, hw⟩ => ⟨he, by rw [hw]; exact Kept.refl _ _⟩
  | some m => obtain ⟨b, g, rfl, h1, -⟩ := h.ofSome; exact (mean_any h1).mono fun e w' ⟨he, hw⟩ => ⟨he, by rw [hw]; exact Kept.refl _ _⟩
theorem rmean_h {w : World} {p : Value} {Y : List Nat} {o : Option Mt} {N : Nat} (h : Dh w p Y o N) (hN : N ≤ 9223372036854775807) : Calls Try.prog 34 #[p] w fun e w' => e = .returned (.float .f64 (meanO o)) ∧ Kept [] w w' := by
  cases o with
  | none => obtain rfl := h.ofNone; exact (rnmean w).mono fun e w' ⟨he, hw⟩ => ⟨he, by rw [hw]; exact Kept.refl _ _⟩
  | some m => obtain ⟨b, r, rfl, h1, h2, h3⟩ := h.ofSome; obtain ⟨pa, pc, hp, -⟩ := h1.rp; exact rmean_any hp h2 (by omega)
theorem spread_h {w : World} {p : Value} {X : List Nat} {o : Option Mt} (h : Mh w p X o) : Calls Try.prog 23 #[p] w fun e w' => e = .returned (.float .f64 (sprO o)) ∧ Kept [] w w' := by
  cases o with
  | none => obtain rfl := h.ofNone; exact (nspread w).mono fun e w' ⟨he, hw⟩ => ⟨he, by rw [hw]; exact Kept.refl _ _⟩
  | some m => obtain ⟨b, g, rfl, h1, -⟩ := h.ofSome; exact (spread_any h1).mono fun e w' ⟨he, hw⟩ => ⟨he, by rw [hw]; exact Kept.refl _ _⟩
theorem rspread_h {w : World} {p : Value} {Y : List Nat} {o : Option Mt} {N : Nat} (h : Dh w p Y o N) (hN : N ≤ 9223372036854775807) : Calls Try.prog 35 #[p] w fun e w' => e = .returned (.float .f64 (sprO o)) ∧ Kept [] w w' := by
  cases o with
  | none => obtain rfl := h.ofNone; exact (rnspread w).mono fun e w' ⟨he, hw⟩ => ⟨he, by rw [hw]; exact Kept.refl _ _⟩
  | some m => obtain ⟨b, r, rfl, h1, h2, h3⟩ := h.ofSome; obtain ⟨pa, pc, hp, -⟩ := h1.rp; exact rspread_any hp h2 (by omega)
theorem top_h {w : World} {p : Value} {X : List Nat} {o : Option Mt} (h : Mh w p X o) : Calls Try.prog 28 #[p] w fun e w' => e = .returned (.int .i64 (topO o)) ∧ Kept [] w w' := by
  cases o with
  | none => obtain rfl := h.ofNone; exact (ntop w).mono fun e w' ⟨he, hw⟩ => ⟨he, by rw [hw]; exact Kept.refl _ _⟩
  | some m => obtain ⟨b, g, rfl, h1, -⟩ := h.ofSome; exact (top_any h1).mono fun e w' ⟨he, hw⟩ => ⟨he, by rw [hw]; exact Kept.refl _ _⟩
theorem rtop_h {w : World} {p : Value} {Y : List Nat} {o : Option Mt} {N : Nat} (h : Dh w p Y o N) (hN : N ≤ 9223372036854775807) : Calls Try.prog 36 #[p] w fun e w' => e = .returned (.int .i64 (topO o)) ∧ Kept [] w w' := by
  cases o with
  | none => obtain rfl := h.ofNone; exact (rntop w).mono fun e w' ⟨he, hw⟩ => ⟨he, by rw [hw]; exact Kept.refl _ _⟩
  | some m => obtain ⟨b, r, rfl, h1, h2, h3⟩ := h.ofSome; obtain ⟨pa, pc, hp, -⟩ := h1.rp; exact rtop_any hp h2 (by omega)
theorem row_h {w : World} {p : Value} {X : List Nat} {o : Option Mt} (h : Mh w p X o) : Calls Try.prog 17 #[p] w fun e w' => ∃ v, e = .returned v ∧ SeesF w' v (rowO o) ∧ Kept [] w w' := by
  cases o with
  | none => obtain rfl := h.ofNone; exact (nrow w).mono fun e w' ⟨he, hw⟩ => ⟨_, he, SeesF.nil _, by rw [hw]; exact Kept.refl _ _⟩
  | some m => obtain ⟨b, g, rfl, h1, -⟩ := h.ofSome; exact (row_any h1).mono fun e w' ⟨v, he, ho, hk⟩ => ⟨v, he, SeesF.of_own ho, hk⟩
theorem rrow_h {w : World} {p : Value} {Y : List Nat} {o : Option Mt} {N : Nat} (h : Dh w p Y o N) (hN : N ≤ 9223372036854775807) : Calls Try.prog 37 #[p] w fun e w' => ∃ v, e = .returned v ∧ SeesF w' v (rowO o) ∧ Kept [] w w' := by
  cases o with
  | none => obtain rfl := h.ofNone; exact (rnrow w).mono fun e w' ⟨he, hw⟩ => ⟨_, he, SeesF.nil _, by rw [hw]; exact Kept.refl _ _⟩
  | some m => obtain ⟨b, r, rfl, h1, h2, h3⟩ := h.ofSome; obtain ⟨pa, pc, hp, -⟩ := h1.rp; exact (rrow_any hp h2 (by omega)).mono fun e w' ⟨v, he, ho, hk⟩ => ⟨v, he, SeesF.of_own ho, hk⟩
theorem zc_wav : zc = wavO none := by rfl
theorem wave_h {w : World} {p : Value} {X : List Nat} {o : Option Mt} (h : Mh w p X o) : Calls Try.prog 22 #[p] w fun e w' => e = .returned (.agg (wavO o).toArray) ∧ Kept [] w w' := by
  cases o with
  | none => obtain rfl := h.ofNone; rw [← zc_wav]; exact nwave w
  | some m => obtain ⟨b, g, rfl, h1, -⟩ := h.ofSome; exact wave_any h1
theorem rwave_h {w : World} {p : Value} {Y : List Nat} {o : Option Mt} {N : Nat} (h : Dh w p Y o N) (hN : N ≤ 9223372036854775807) {k : Nat} (hk : k < 8) : Calls Try.prog 38 #[p, .int .i64 (k : Int)] w fun e w' => e = .returned (.tuple #[.float .f64 (wre o k), .float .f64 (wim o k)]) ∧ Kept [] w w' := by
  cases o with
  | none => obtain rfl := h.ofNone; exact (rnwave w k).mono fun e w' ⟨he, hw⟩ => ⟨he, by rw [hw]; exact Kept.refl _ _⟩
  | some m => obtain ⟨b, r, rfl, h1, h2, h3⟩ := h.ofSome; obtain ⟨pa, pc, hp, -⟩ := h1.rp; exact rwave_any hp h2 hk (by omega)
end Go.Proofs.Ythhgeobfolhpoaa
