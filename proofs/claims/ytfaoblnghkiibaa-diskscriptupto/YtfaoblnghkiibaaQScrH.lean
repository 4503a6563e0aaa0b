/- A disk, or none: what each call makes of it, on both sides. -/
import Derived.Test.YtfaoblnghkiibaaQRefY
import Derived.Test.YtfaoblnghkiibaaQKnowW
namespace Go.Proofs.Ytfaoblnghkiibaa
open Go.RowKit

/-- the program's disk, or none -/
def Dh (w : World) (p : Value) (X : List Nat) (s : Option Dm) : Prop :=
  (∀ x ∈ X, x < w.heap.size) ∧ match s with
  | none => p = .pointer none
  | some d => ∃ b, p = .pointer (some ⟨b, 0, none⟩) ∧ Dk w b X d
/-- the document's disk, or none -/
def Rh (w : World) (p : Value) (X : List Nat) (s : Option Dm) : Prop :=
  (∀ x ∈ X, x < w.heap.size) ∧ match s with
  | none => p = .pointer none
  | some d => ∃ b, p = .pointer (some ⟨b, 0, none⟩) ∧ Rk w b X d
theorem Dh.ofNone {w : World} {p : Value} {X : List Nat} (h : Dh w p X none) : p = .pointer none := h.2
theorem Dh.ofSome {w : World} {p : Value} {X : List Nat} {d : Dm} (h : Dh w p X (some d)) : ∃ b, p = .pointer (some ⟨b, 0, none⟩) ∧ Dk w b X d := h.2
theorem Rh.ofNone {w : World} {p : Value} {X : List Nat} (h : Rh w p X none) : p = .pointer none := h.2
theorem Rh.ofSome {w : World} {p : Value} {X : List Nat} {d : Dm} (h : Rh w p X (some d)) : ∃ b, p = .pointer (some ⟨b, 0, none⟩) ∧ Rk w b X d := h.2
theorem Rk.lt {w : World} {m : Nat} {G : List Nat} {d : Dm} (h : Rk w m G d) : ∀ x ∈ G, x < w.heap.size := by
  obtain ⟨sb, sc, pa, pc, vs, _, _, _, _, _, h5⟩ := h; exact h5
theorem Rk.ok {w : World} {m : Nat} {G : List Nat} {d : Dm} (h : Rk w m G d) : d.ok := by
  obtain ⟨sb, sc, pa, pc, vs, h, _⟩ := h; exact h.ok
theorem Dh.mk {w : World} {b : Nat} {X : List Nat} {d : Dm} (h : Dk w b X d) : Dh w (.pointer (some ⟨b, 0, none⟩)) X (some d) := ⟨h.lt, b, rfl, h⟩
theorem Rh.mk {w : World} {b : Nat} {X : List Nat} {d : Dm} (h : Rk w b X d) : Rh w (.pointer (some ⟨b, 0, none⟩)) X (some d) := ⟨h.lt, b, rfl, h⟩
theorem Dh.non (w : World) : Dh w (.pointer none) [] none := ⟨by simp, rfl⟩
theorem Rh.non (w : World) : Rh w (.pointer none) [] none := ⟨by simp, rfl⟩
theorem Dh.keep {w w' : World} {p : Value} {X G : List Nat} {s : Option Dm} (h : Dh w p X s) (hk : Kept G w w') (hn : ∀ x ∈ X, x ∉ G) : Dh w' p X s := by
  refine ⟨fun x hx => Nat.lt_of_lt_of_le (h.1 x hx) hk.size, ?_⟩
  cases s with
  | none => exact h.2
  | some d => obtain ⟨b, e, hd⟩ := h.2; exact ⟨b, e, hd.keep hk hn⟩
theorem Rh.keep {w w' : World} {p : Value} {X G : List Nat} {s : Option Dm} (h : Rh w p X s) (hk : Kept G w w') (hn : ∀ x ∈ X, x ∉ G) : Rh w' p X s := by
  refine ⟨fun x hx => Nat.lt_of_lt_of_le (h.1 x hx) hk.size, ?_⟩
  cases s with
  | none => exact h.2
  | some d => obtain ⟨b, e, hd⟩ := h.2; exact ⟨b, e, hd.keep hk hn⟩
theorem Dh.quiet {w w' : World} {p : Value} {X : List Nat} {s : Option Dm} (h : Dh w p X s) (hk : Kept [] w w') : Dh w' p X s := h.keep hk (by simp)
theorem Rh.quiet {w w' : World} {p : Value} {X : List Nat} {s : Option Dm} (h : Rh w p X s) (hk : Kept [] w w') : Rh w' p X s := h.keep hk (by simp)

def errW (s : Option Dm) (x : Int) (l : Nat) : Nat := match s with | none => 1 | some d => wE d x l
def onW (s : Option Dm) (x : Int) (l : List Nat) : Option Dm := s.map fun d => if wE d x l.length = 0 then d.write x.toNat l else d
def errR (s : Option Dm) (x : Int) : Nat := match s with | none => 1 | some d => rE d x
def bytR (s : Option Dm) (x : Int) : List Nat := match s with | none => [] | some d => if rE d x = 0 then newest d x.toNat else []
def errS (s : Option Dm) : Nat := match s with | none => 1 | some d => pE d
def onS (s : Option Dm) : Option Dm := s.map fun d => if d.fuse = some 0 then d else d.sync
def lenP (s : Option Dm) : Nat := match s with | none => 0 | some d => d.pend.length
def onF (s : Option Dm) (n : Int) : Option Dm := s.map fun d => d.setFuse n
def onC (s : Option Dm) (keep : List Bool) (torn cut : Int) : Option Dm := s.map fun d => d.crash keep torn cut
def bytI (s : Option Dm) : List Nat := match s with | none => [] | some d => d.safe
def secN (s : Option Dm) : Nat := match s with | none => 0 | some d => d.n
def cntW (s : Option Dm) : Int := match s with | none => 0 | some d => d.wr
def cntS (s : Option Dm) : Int := match s with | none => 0 | some d => d.sy

theorem wE_zero' {d : Dm} {x : Int} {l : Nat} (h : wE d x l = 0) : rE d x = 0 ∧ l = 64 := by
  unfold wE at h
  split at h
  · next h1 => exact absurd h h1
  · next h1 =>
    split at h
    · cases h
    · next h2 => exact ⟨by omega, by omega⟩
theorem wE_pos {d : Dm} {x : Int} {l : Nat} (h : wE d x l ≠ 0) : (rE d x ≠ 0 ∧ wE d x l = rE d x) ∨ (rE d x = 0 ∧ l ≠ 64 ∧ wE d x l = 82) := by
  unfold wE at h ⊢
  by_cases h1 : rE d x ≠ 0
  · rw [if_pos h1]; exact Or.inl ⟨h1, rfl⟩
  · rw [if_neg h1] at h ⊢
    by_cases h2 : l ≠ 64
    · rw [if_pos h2]; exact Or.inr ⟨by omega, h2, rfl⟩
    · rw [if_neg h2] at h; exact absurd rfl h

/-- bytes that may be written over, in a block not older than base -/
structure Mine (base : Nat) (w : World) (v : Value) (l : List Nat) : Prop where
  sees : Sees w v l
  own : (v = .slice none 0 0 ∧ l = []) ∨ ∃ g cap, v = .slice (some ⟨g, 0, none⟩) l.length cap ∧ base ≤ g ∧ g < w.heap.size ∧ ∀ k, w.frozen? ⟨g, k, none⟩ = false
theorem Mine.quiet {base : Nat} {w w' : World} {v : Value} {l : List Nat} (h : Mine base w v l) (hk : Kept [] w w') : Mine base w' v l := by
  refine ⟨h.sees.kept hk (Or.inr (by simp)), ?_⟩
  rcases h.own with h1 | ⟨g, cap, e, h1, h2, h3⟩
  · exact Or.inl h1
  · exact Or.inr ⟨g, cap, e, h1, Nat.lt_of_lt_of_le h2 hk.size, fun k => (hk.frozen (p := ⟨g, k, none⟩) h2 (by simp)).trans (h3 k)⟩
theorem Mine.nil (base : Nat) (w : World) : Mine base w (.slice none 0 0) [] := ⟨⟨none, 0, rfl, by simp, by simp [maxLen], by simp, Or.inl rfl⟩, Or.inl ⟨rfl, rfl⟩⟩
theorem Mine.of_own {base : Nat} {w : World} {a : Option Addr} {n cap : Nat} {l : List Nat} (h : w.ownsRow base 5 1 (.slice a n cap) n (u8s l)) (hb : ∀ x ∈ l, x < 256) (hn : 1 ≤ n) : Mine base w (.slice a n cap) l := by
  have hl : l.length = n := own_len_eq h
  subst hl
  obtain ⟨g, c, hv, h1, h2, -, -⟩ := row_of_own h hn
  injection hv with e1 e2 e3
  subst e1
  subst e3
  exact ⟨Sees.of_own h hb, Or.inr ⟨g, cap, rfl, h1, h2, fun k => own_frozen h k⟩⟩
theorem Mine.of_blk {base g n cap : Nat} {w : World} {t : TypeId} {l : List Nat} (h : Blk w g (u8s l).toArray t) (hl : l.length = n) (hb : ∀ x ∈ l, x < 256) (hg : base ≤ g) (hc : n ≤ cap) (hc2 : cap ≤ 64) : Mine base w (.slice (some ⟨g, 0, none⟩) n cap) l := by
  subst hl
  exact ⟨Sees.of_blk rfl h hb cap (by omega) (by omega), Or.inr ⟨g, cap, rfl, hg, h.lt, fun k => h.frozen k⟩⟩

theorem Mine.base {base : Nat} {w : World} {v : Value} {l : List Nat} (h : Mine base w v l) : ∀ g ∈ v.ownBlock.toList, base ≤ g := by
  intro g hg
  rcases h.own with ⟨rfl, rfl⟩ | ⟨g', cap, rfl, h1, h2, h3⟩
  · simp [Value.ownBlock] at hg
  · simp [Value.ownBlock] at hg; subst hg; exact h1
theorem over_h {base : Nat} {w : World} {v : Value} {l : List Nat} (h : Mine base w v l) :
    Calls Try.prog 15 #[v] w fun e w' => e = .returned (.tuple #[]) ∧ Kept v.ownBlock.toList w w' := by
  rcases h.own with ⟨rfl, rfl⟩ | ⟨g, cap, rfl, h1, h2, h3⟩
  · exact (over_nil w).mono fun e w' ⟨he, hw⟩ => ⟨he, by rw [hw]; exact Kept.refl _ _⟩
  · obtain ⟨a, c, e, b1, b2, b3, b4⟩ := h.sees
    injection e with e1 e2 e3
    refine (over_any rfl b3 (by unfold maxLen at b2; omega) (fun k hk => ?_) h3).mono fun e w' ⟨he, hw⟩ => ⟨he, by simpa [Value.ownBlock] using hw⟩
    rcases b4 with b4 | ⟨b, off, q1, q2, q3⟩
    · rw [b4] at hk; simp at hk
    · rw [← e1] at q1
      injection q1 with q1
      injection q1 with q1 q4
      subst q1
      subst q4
      have := q3 k hk
      rw [Nat.zero_add] at this
      exact this

theorem write_h {w : World} {p : Value} {X : List Nat} {s : Option Dm} (h : Dh w p X s) {x : Int} {v : Value} {l : List Nat} (hv : Sees w v l) (hvX : l.length = 64 → ∀ q, v.ownBlock = some q → q ∉ X) (hpl : (lenP s + 1) * 72 ≤ 140737488355328) :
    Calls Try.prog 19 #[p, .int .i64 x, v] w fun e w' => ∃ X', e = .returned (.int .i64 (errW s x l.length : Nat)) ∧ Dh w' p X' (onW s x l) ∧ Nx X w X' w' := by
  cases s with
  | none =>
    obtain rfl := h.ofNone
    exact (nwrite w x v).mono fun e w' ⟨he, hw⟩ => ⟨X, he, by rw [hw]; exact h, by rw [hw]; exact Nx.refl _ _⟩
  | some d =>
    obtain ⟨b, rfl, hd⟩ := h.ofSome
    by_cases hz : wE d x l.length = 0
    · obtain ⟨hz1, hz2⟩ := wE_zero' hz
      obtain ⟨k, rfl, -, -⟩ := rE_zero hz1
      refine (write_yes hd hz1 hv hz2 (hvX hz2) hpl).mono ?_
      rintro e w' ⟨F', rfl, h1, h2⟩
      refine ⟨F', by simp [errW, hz], ?_, h2⟩
      simp only [onW, Option.map_some, if_pos hz, Int.toNat_natCast]
      exact Dh.mk h1
    · have : Dh w (.pointer (some ⟨b, 0, none⟩)) X (onW (some d) x l) := by simp only [onW, Option.map_some, if_neg hz]; exact h
      rcases wE_pos hz with ⟨h1, h2⟩ | ⟨h1, h2, h3⟩
      · exact (write_no1 hd h1 v).mono fun e w' ⟨he, hw⟩ => ⟨X, by rw [he]; simp [errW, h2], by rw [hw]; exact this, by rw [hw]; exact Nx.refl _ _⟩
      · exact (write_no2 hd h1 hv h2).mono fun e w' ⟨he, hw⟩ => ⟨X, by rw [he]; simp [errW, h3], by rw [hw]; exact this, by rw [hw]; exact Nx.refl _ _⟩
theorem rwrite_h {w : World} {p : Value} {X : List Nat} {s : Option Dm} (h : Rh w p X s) {x : Int} {v : Value} {l : List Nat} (hv : Sees w v l) (hpl : (lenP s + 1) * 72 ≤ 140737488355328) :
    Calls Try.prog 31 #[p, .int .i64 x, v] w fun e w' => ∃ X', e = .returned (.int .i64 (errW s x l.length : Nat)) ∧ Rh w' p X' (onW s x l) ∧ Nx X w X' w' := by
  cases s with
  | none =>
    obtain rfl := h.ofNone
    exact (rnwrite w x v).mono fun e w' ⟨he, hw⟩ => ⟨X, he, by rw [hw]; exact h, by rw [hw]; exact Nx.refl _ _⟩
  | some d =>
    obtain ⟨b, rfl, hd⟩ := h.ofSome
    by_cases hz : wE d x l.length = 0
    · obtain ⟨hz1, hz2⟩ := wE_zero' hz
      obtain ⟨k, rfl, -, -⟩ := rE_zero hz1
      refine (rwrite_yes hd hz1 hv hz2 (by simp only [lenP] at hpl; omega)).mono ?_
      rintro e w' ⟨F', rfl, h1, h2⟩
      refine ⟨F', by simp [errW, hz], ?_, h2⟩
      simp only [onW, Option.map_some, if_pos hz, Int.toNat_natCast]
      exact Rh.mk h1
    · have : Rh w (.pointer (some ⟨b, 0, none⟩)) X (onW (some d) x l) := by simp only [onW, Option.map_some, if_neg hz]; exact h
      rcases wE_pos hz with ⟨h1, h2⟩ | ⟨h1, h2, h3⟩
      · exact (rwrite_no1 hd h1 v).mono fun e w' ⟨he, hw⟩ => ⟨X, by rw [he]; simp [errW, h2], by rw [hw]; exact this, by rw [hw]; exact Nx.refl _ _⟩
      · obtain ⟨k, rfl, -, -⟩ := rE_zero h1
        exact (rwrite_no2 hd h1 hv h2).mono fun e w' ⟨he, hw⟩ => ⟨X, by rw [he]; simp [errW, h3], by rw [hw]; exact this, by rw [hw]; exact Nx.refl _ _⟩

theorem read_h {w : World} {p : Value} {X : List Nat} {s : Option Dm} (h : Dh w p X s) {x : Int} (hpl : lenP s ≤ 9223372036854775807) :
    Calls Try.prog 21 #[p, .int .i64 x] w fun e w' => ∃ v, e = .returned (.tuple #[v, .int .i64 (errR s x : Nat)]) ∧ Mine w.heap.size w' v (bytR s x) ∧ Kept [] w w' := by
  cases s with
  | none =>
    obtain rfl := h.ofNone
    exact (nread w x).mono fun e w' ⟨he, hw⟩ => ⟨_, he, by rw [hw]; exact Mine.nil _ _, by rw [hw]; exact Kept.refl _ _⟩
  | some d =>
    obtain ⟨b, rfl, hd⟩ := h.ofSome
    by_cases hz : rE d x = 0
    · obtain ⟨k, rfl, hk, -⟩ := rE_zero hz
      refine (read_yes hd hz hpl).mono ?_
      rintro e w' ⟨r, rfl, h1, h2, h3⟩
      refine ⟨.slice (some ⟨r, 0, none⟩) 64 64, by simp [errR, hz], ?_, h3⟩
      simp only [bytR, if_pos hz, Int.toNat_natCast]
      exact Mine.of_blk h1 (newest_ok hd.ok hk).1 (newest_ok hd.ok hk).2 h2 (by omega) (by omega)
    · exact (read_no hd hz).mono fun e w' ⟨he, hw⟩ => ⟨.slice none 0 0, by rw [he]; simp [errR], by rw [hw]; simp only [bytR, if_neg hz]; exact Mine.nil _ _, by rw [hw]; exact Kept.refl _ _⟩
theorem rread_h {w : World} {p : Value} {X : List Nat} {s : Option Dm} (h : Rh w p X s) {x : Int} (hpl : lenP s ≤ 9223372036854775807) :
    Calls Try.prog 32 #[p, .int .i64 x] w fun e w' => ∃ v, e = .returned (.tuple #[v, .int .i64 (errR s x : Nat)]) ∧ Mine w.heap.size w' v (bytR s x) ∧ Kept [] w w' := by
  cases s with
  | none =>
    obtain rfl := h.ofNone
    exact (rnread w x).mono fun e w' ⟨he, hw⟩ => ⟨_, he, by rw [hw]; exact Mine.nil _ _, by rw [hw]; exact Kept.refl _ _⟩
  | some d =>
    obtain ⟨b, rfl, hd⟩ := h.ofSome
    by_cases hz : rE d x = 0
    · obtain ⟨k, rfl, hk, -⟩ := rE_zero hz
      refine (rread_yes hd hz hpl).mono ?_
      rintro e w' ⟨a, cap, rfl, h1, h3⟩
      refine ⟨.slice a 64 cap, by simp [errR, hz], ?_, h3⟩
      simp only [bytR, if_pos hz, Int.toNat_natCast]
      exact Mine.of_own h1 (newest_ok hd.ok hk).2 (by omega)
    · exact (rread_no hd hz).mono fun e w' ⟨he, hw⟩ => ⟨.slice none 0 0, by rw [he]; simp [errR], by rw [hw]; simp only [bytR, if_neg hz]; exact Mine.nil _ _, by rw [hw]; exact Kept.refl _ _⟩

theorem sync_h {w : World} {p : Value} {X : List Nat} {s : Option Dm} (h : Dh w p X s) (hpl : lenP s ≤ 9223372036854775807) :
    Calls Try.prog 22 #[p] w fun e w' => e = .returned (.int .i64 (errS s : Nat)) ∧ Dh w' p X (onS s) ∧ Nx X w X w' := by
  cases s with
  | none =>
    obtain rfl := h.ofNone
    exact (nsync w).mono fun e w' ⟨he, hw⟩ => ⟨he, by rw [hw]; exact h, by rw [hw]; exact Nx.refl _ _⟩
  | some d =>
    obtain ⟨b, rfl, hd⟩ := h.ofSome
    by_cases hz : d.fuse = some 0
    · exact (sync_no hd hz).mono fun e w' ⟨he, hw⟩ => ⟨by rw [he]; simp [errS, pE, hz], by rw [hw]; simp only [onS, Option.map_some, if_pos hz]; exact h, by rw [hw]; exact Nx.refl _ _⟩
    · exact (sync_yes hd hz hpl).mono fun e w' ⟨he, h1, h2⟩ => ⟨by rw [he]; simp [errS, pE, hz], by simp only [onS, Option.map_some, if_neg hz]; exact Dh.mk h1, h2⟩
theorem rsync_h {w : World} {p : Value} {X : List Nat} {s : Option Dm} (h : Rh w p X s) (hpl : lenP s ≤ 9223372036854775807) :
    Calls Try.prog 33 #[p] w fun e w' => e = .returned (.int .i64 (errS s : Nat)) ∧ Rh w' p X (onS s) ∧ Nx X w X w' := by
  cases s with
  | none =>
    obtain rfl := h.ofNone
    exact (rnsync w).mono fun e w' ⟨he, hw⟩ => ⟨he, by rw [hw]; exact h, by rw [hw]; exact Nx.refl _ _⟩
  | some d =>
    obtain ⟨b, rfl, hd⟩ := h.ofSome
    by_cases hz : d.fuse = some 0
    · exact (rsync_no hd hz).mono fun e w' ⟨he, hw⟩ => ⟨by rw [he]; simp [errS, pE, hz], by rw [hw]; simp only [onS, Option.map_some, if_pos hz]; exact h, by rw [hw]; exact Nx.refl _ _⟩
    · exact (rsync_yes hd hz hpl).mono fun e w' ⟨he, h1, h2⟩ => ⟨by rw [he]; simp [errS, pE, hz], by simp only [onS, Option.map_some, if_neg hz]; exact Rh.mk h1, h2⟩

theorem pending_h {w : World} {p : Value} {X : List Nat} {s : Option Dm} (h : Dh w p X s) :
    Calls Try.prog 23 #[p] w fun e w' => e = .returned (.int .i64 (lenP s : Nat)) ∧ w' = w := by
  cases s with
  | none => obtain rfl := h.ofNone; exact npending w
  | some d => obtain ⟨b, rfl, hd⟩ := h.ofSome; exact pending_any hd
theorem rpending_h {w : World} {p : Value} {X : List Nat} {s : Option Dm} (h : Rh w p X s) :
    Calls Try.prog 34 #[p] w fun e w' => e = .returned (.int .i64 (lenP s : Nat)) ∧ w' = w := by
  cases s with
  | none => obtain rfl := h.ofNone; exact rnpending w
  | some d => obtain ⟨b, rfl, hd⟩ := h.ofSome; exact rpending_any hd
theorem sectors_h {w : World} {p : Value} {X : List Nat} {s : Option Dm} (h : Dh w p X s) :
    Calls Try.prog 26 #[p] w fun e w' => e = .returned (.int .i64 (secN s : Nat)) ∧ w' = w := by
  cases s with
  | none => obtain rfl := h.ofNone; exact nsectors w
  | some d => obtain ⟨b, rfl, hd⟩ := h.ofSome; exact sectors_any hd
theorem rsectors_h {w : World} {p : Value} {X : List Nat} {s : Option Dm} (h : Rh w p X s) :
    Calls Try.prog 38 #[p] w fun e w' => e = .returned (.int .i64 (secN s : Nat)) ∧ w' = w := by
  cases s with
  | none => obtain rfl := h.ofNone; exact rnsectors w
  | some d => obtain ⟨b, rfl, hd⟩ := h.ofSome; exact rsectors_any hd
theorem counts_h {w : World} {p : Value} {X : List Nat} {s : Option Dm} (h : Dh w p X s) :
    Calls Try.prog 24 #[p] w fun e w' => e = .returned (.tuple #[.int .i64 (cntW s), .int .i64 (cntS s)]) ∧ Kept [] w w' := by
  cases s with
  | none => obtain rfl := h.ofNone; exact (ncounts w).mono fun e w' ⟨he, hw⟩ => ⟨he, by rw [hw]; exact Kept.refl _ _⟩
  | some d => obtain ⟨b, rfl, hd⟩ := h.ofSome; exact (counts_any hd).mono fun e w' ⟨he, k, hw⟩ => ⟨he, by rw [hw]; exact (Kept.refl _ _).drewN _⟩
theorem rcounts_h {w : World} {p : Value} {X : List Nat} {s : Option Dm} (h : Rh w p X s) :
    Calls Try.prog 39 #[p] w fun e w' => e = .returned (.tuple #[.int .i64 (cntW s), .int .i64 (cntS s)]) ∧ Kept [] w w' := by
  cases s with
  | none => obtain rfl := h.ofNone; exact (rncounts w).mono fun e w' ⟨he, hw⟩ => ⟨he, by rw [hw]; exact Kept.refl _ _⟩
  | some d => obtain ⟨b, rfl, hd⟩ := h.ofSome; exact (rcounts_any hd).mono fun e w' ⟨he, k, hw⟩ => ⟨he, by rw [hw]; exact (Kept.refl _ _).drewN _⟩
theorem fuse_h {w : World} {p : Value} {X : List Nat} {s : Option Dm} (h : Dh w p X s) (n : Int) (hn : n ≤ 9223372036854775807) :
    Calls Try.prog 18 #[p, .int .i64 n] w fun e w' => e = .returned (.tuple #[]) ∧ Dh w' p X (onF s n) ∧ Nx X w X w' := by
  cases s with
  | none => obtain rfl := h.ofNone; exact (nfuse w n).mono fun e w' ⟨he, hw⟩ => ⟨he, by rw [hw]; exact h, by rw [hw]; exact Nx.refl _ _⟩
  | some d => obtain ⟨b, rfl, hd⟩ := h.ofSome; exact (fuse_any hd n hn).mono fun e w' ⟨he, h1, h2⟩ => ⟨he, Dh.mk h1, h2⟩
theorem rfuse_h {w : World} {p : Value} {X : List Nat} {s : Option Dm} (h : Rh w p X s) (n : Int) (hn : n ≤ 9223372036854775807) :
    Calls Try.prog 35 #[p, .int .i64 n] w fun e w' => e = .returned (.tuple #[]) ∧ Rh w' p X (onF s n) ∧ Nx X w X w' := by
  cases s with
  | none => obtain rfl := h.ofNone; exact (rnfuse w n).mono fun e w' ⟨he, hw⟩ => ⟨he, by rw [hw]; exact h, by rw [hw]; exact Nx.refl _ _⟩
  | some d => obtain ⟨b, rfl, hd⟩ := h.ofSome; exact (rfuse_any hd n hn).mono fun e w' ⟨he, h1, h2⟩ => ⟨he, Rh.mk h1, h2⟩
theorem crash_h {w : World} {p : Value} {X : List Nat} {s : Option Dm} (h : Dh w p X s) (hpl : lenP s ≤ 9223372036854775807) {v : Value} {keep : List Bool} (hv : SeesB w v keep) (hvF : keep = [] ∨ ∀ k, v.ownBlock = some k → k ∉ X) (torn cut : Int) :
    Calls Try.prog 25 #[p, v, .int .i64 torn, .int .i64 cut] w fun e w' => e = .returned (.tuple #[]) ∧ Dh w' p X (onC s keep torn cut) ∧ Nx X w X w' := by
  cases s with
  | none => obtain rfl := h.ofNone; exact (ncrash w v torn cut).mono fun e w' ⟨he, hw⟩ => ⟨he, by rw [hw]; exact h, by rw [hw]; exact Nx.refl _ _⟩
  | some d => obtain ⟨b, rfl, hd⟩ := h.ofSome; exact (crash_anyO hd hpl hv hvF torn cut).mono fun e w' ⟨he, h1, h2⟩ => ⟨he, Dh.mk h1, h2⟩
theorem rcrash_h {w : World} {p : Value} {X : List Nat} {s : Option Dm} (h : Rh w p X s) (hpl : lenP s ≤ 9223372036854775807) {v : Value} {keep : List Bool} (hv : SeesB w v keep) (hvF : keep = [] ∨ ∀ k, v.ownBlock = some k → k ∉ X) (torn cut : Int) :
    Calls Try.prog 46 #[p, v, .int .i64 torn, .int .i64 cut] w fun e w' => e = .returned (.tuple #[]) ∧ Rh w' p X (onC s keep torn cut) ∧ Nx X w X w' := by
  cases s with
  | none => obtain rfl := h.ofNone; exact (rncrash w v torn cut).mono fun e w' ⟨he, hw⟩ => ⟨he, by rw [hw]; exact h, by rw [hw]; exact Nx.refl _ _⟩
  | some d => obtain ⟨b, rfl, hd⟩ := h.ofSome; exact (rcrash_any hd hpl hv hvF torn cut).mono fun e w' ⟨he, h1, h2⟩ => ⟨he, Rh.mk h1, h2⟩
theorem image_h {w : World} {p : Value} {X : List Nat} {s : Option Dm} (h : Dh w p X s) :
    Calls Try.prog 27 #[p] w fun e w' => ∃ v, e = .returned v ∧ Mine w.heap.size w' v (bytI s) ∧ Kept [] w w' := by
  cases s with
  | none => obtain rfl := h.ofNone; exact (nimage w).mono fun e w' ⟨he, hw⟩ => ⟨_, he, by rw [hw]; exact Mine.nil _ _, by rw [hw]; exact Kept.refl _ _⟩
  | some d => obtain ⟨b, rfl, hd⟩ := h.ofSome; exact (image_any hd).mono fun e w' ⟨r, cap, he, h1, h2⟩ => ⟨_, he, Mine.of_own h1 hd.ok.byte (by have := hd.ok.one; omega), h2⟩
theorem rimage_h {w : World} {p : Value} {X : List Nat} {s : Option Dm} (h : Rh w p X s) :
    Calls Try.prog 37 #[p] w fun e w' => ∃ v, e = .returned v ∧ Mine w.heap.size w' v (bytI s) ∧ Kept [] w w' := by
  cases s with
  | none => obtain rfl := h.ofNone; exact (rnimage w).mono fun e w' ⟨he, hw⟩ => ⟨_, he, by rw [hw]; exact Mine.nil _ _, by rw [hw]; exact Kept.refl _ _⟩
  | some d => obtain ⟨b, rfl, hd⟩ := h.ofSome; exact (rimage_any hd).mono fun e w' ⟨r, cap, he, h1, h2⟩ => ⟨_, he, Mine.of_own h1 hd.ok.byte (by have := hd.ok.one; omega), h2⟩

theorem lenW_le (s : Option Dm) (x : Int) (l : List Nat) : lenP (onW s x l) ≤ lenP s + 1 := by
  cases s with
  | none => simp [onW, lenP]
  | some d => simp only [onW, Option.map_some, lenP]; split <;> simp [Dm.write]
theorem lenS_le (s : Option Dm) : lenP (onS s) ≤ lenP s := by
  cases s with
  | none => simp [onS, lenP]
  | some d => simp only [onS, Option.map_some, lenP]; split <;> simp [Dm.sync]
theorem lenF_le (s : Option Dm) (n : Int) : lenP (onF s n) ≤ lenP s := by
  cases s <;> simp [onF, lenP, Dm.setFuse]
theorem lenC_le (s : Option Dm) (k : List Bool) (t c : Int) : lenP (onC s k t c) ≤ lenP s := by
  cases s <;> simp [onC, lenP, Dm.crash]
end Go.Proofs.Ytfaoblnghkiibaa
