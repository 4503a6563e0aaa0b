/- The document's Decode; what Decode answers, on both sides. -/
import Derived.Test.YtigmofbammofbaaKRdR
import Derived.Test.YtigmofbammofbaaKTold
namespace Go.Proofs.Ytigmofbammofbaa
open Go.RowKit

def dErr : Except Nat Row → Nat
  | .error e => e
  | .ok _ => 0
def dRow : Except Nat Row → Row
  | .error _ => .nil
  | .ok r => r
theorem decX {w : World} {v : Value} {bs : List Nat} (hs : Sees w v bs) (hl : bs.length ≤ 1099511627776) :
    Calls Try.prog 18 #[v] w fun e w' => (∃ a n c, e = .returned (.tuple #[.slice a n c, .int .i64 (dErr (decR bs) : Nat)]) ∧ RowV (New w.heap.size) w' (.slice a n c) (dRow (decR bs))) ∧ Kept [] w w' := by
  refine (decode_any hs hl).mono ?_
  rintro e w' ⟨ho, hk⟩
  refine ⟨?_, hk⟩
  cases hd : decR bs with
  | error n =>
    rw [hd] at ho
    exact ⟨none, 0, 0, ho, RowV.nil _ _⟩
  | ok r =>
    rw [hd] at ho
    obtain ⟨va, vn, vc, rfl, _, hr⟩ := ho
    exact ⟨va, vn, vc, rfl, hr⟩
theorem rowD_dec (bs : List Nat) : (∃ r, rowD 0 (takeR (bs.length + 1) bs 0) = .ok (r, []) ∧ decR bs = .ok r) ∨ (∃ e, rowD 0 (takeR (bs.length + 1) bs 0) = .error e ∧ decR bs = .error e) := by
  unfold decR
  cases h : takeR (bs.length + 1) bs 0 with
  | error e => exact Or.inr ⟨e, rfl, rfl⟩
  | ok x =>
    obtain ⟨r, rest⟩ := x
    cases rest with
    | nil => exact Or.inl ⟨r, rfl, rfl⟩
    | cons y rest => exact Or.inr ⟨40, rfl, rfl⟩

set_option maxRecDepth 100000 in
set_option maxHeartbeats 1000000 in
theorem rdecX {w : World} {v : Value} {bs : List Nat} (hs : Sees w v bs) (hl : bs.length ≤ 1099511627776) (hv : bs = [] ∨ ∀ k, v.ownBlock = some k → k < w.heap.size) :
    Calls Try.prog 16 #[v] w fun e w' => (∃ a n c, e = .returned (.tuple #[.slice a n c, .int .i64 (dErr (decR bs) : Nat)]) ∧ RowP w' (.slice a n c) (partR (dRow (decR bs)))) ∧ Kept [] w w' := by
  have hrd : Rdg (w.alloc (.cells #[v, .int .i64 0, .int .i64 0] 68)) w.heap.size v bs (.ok bs) :=
    ⟨hs.kept ((Kept.refl [] w).alloc _) (Or.inr (by simp)), hl, hv, 0, 0, Blk.new w _ _, by omega, by omega, rfl, rfl⟩
  have HRW := hide (rrow_any (bs.length + 1) _ _ v bs bs 0 hrd (by omega) (by omega))
  have HKA : Hid (Kept [] w (w.alloc (.cells #[v, .int .i64 0, .int .i64 0] 68))) := (Kept.refl [] w).alloc _
  have hE := fun n (h : decR bs = .error n) => decR_err h
  have HRD := hide (rowD_dec bs)
  clear hrd
  obtain ⟨a, cap, rfl, -⟩ := hs
  generalize bs.length = L at *
  generalize takeR (L + 1) bs 0 = tr at *
  generalize hdr : decR bs = dr at *
  clear hdr
  generalize rowD 0 tr = rd at *
  rcases unhide HRD with ⟨r, h1, h2⟩ | ⟨n, h1, h2⟩
  · subst h1 h2
    clear hE HRD
    go_enter Try.func16, Try.ntmps16
    go_wp2_with (first | (go_at_call 33; refine (unhide HRW).mono ?_; rintro e w1 ⟨qa, qn, qc, rfl, ⟨hr1, hp1⟩, hk1⟩; have c2 := hr1.f0.1; have HP1 := hide hp1.plain; have HK1 : Hid (Kept [] w w1) := (unhide HKA).trans hk1 (fun x hx => Or.inr (by simp at hx; omega)); clear hr1 hp1 hk1 HRW))
    go_ret2
    exact ⟨⟨qa, qn, qc, rfl, unhide HP1⟩, unhide HK1⟩
  · have hn := hE n h2
    subst h1 h2
    clear hE HRD
    have t1 : ((n : Int) != 0) = true := by simp; omega
    go_enter Try.func16, Try.ntmps16
    go_wp2_with (first | (go_at_call 33; refine (unhide HRW).mono ?_; rintro e w1 ⟨qa, qn, qc, rfl, hr0, hk1⟩; have hr1 : Rdg w1 w.heap.size (.slice a L cap) bs (.error n) := hr0; have c2 := hr1.fe.1; have HK1 : Hid (Kept [] w w1) := (unhide HKA).trans hk1 (fun x hx => Or.inr (by simp at hx; omega)); clear hr0 hr1 hk1 HRW))
    go_region
    all_goals
      go_wp2_with fail
      go_ret2
      exact ⟨⟨none, 0, 0, rfl, none, 0, rfl, by simp [Row.len, partR, dRow], by simp [maxLen], Or.inl rfl⟩, (unhide HK1).drew⟩

/-- rows that were read have nothing in the fields that do not count -/
theorem takeR_told {f : Nat} : ∀ {bs : List Nat} {d : Nat} {r : Row} {rest : List Nat}, takeR f bs d = .ok (r, rest) → toldR r (partR r) := by
  induction f with
  | zero => intro bs d r rest h; cases h
  | succ f ih =>
    intro bs d r rest h
    cases bs with
    | nil => rw [takeR_nil] at h; cases h; trivial
    | cons k t =>
      by_cases hk : k = 0
      · subst hk; rw [takeR_end] at h; cases h; trivial
      · rw [takeR_succ _ _ _ _ hk] at h
        cases hv : takeV (takeR f t (d + 1)) k t d with
        | error e => rw [hv] at h; cases h
        | ok x =>
          obtain ⟨hh, p, rs⟩ := x
          rw [hv] at h
          simp only at h
          cases hr : takeR f rs d with
          | error e => rw [hr] at h; cases h
          | ok y =>
            obtain ⟨r', rest'⟩ := y
            rw [hr] at h
            cases h
            have hrr := ih hr
            rcases takeV_ok hv with ⟨_, rfl, rfl, _⟩ | ⟨_, x, _, rfl, rfl⟩ | ⟨_, x, _, rfl, rfl⟩ | ⟨_, x, _, rfl, rfl⟩ | ⟨_, x, _, rfl, rfl⟩ | ⟨_, x, _, rfl, rfl⟩ | ⟨_, rfl, _, y, hy⟩
            · exact ⟨by simp [toldH, partH, hd0], trivial, hrr⟩
            · exact ⟨by simp [toldH, partH, hd0], trivial, hrr⟩
            · exact ⟨by simp [toldH, partH, hd0], trivial, hrr⟩
            · exact ⟨by simp [toldH, partH, hd0], trivial, hrr⟩
            · exact ⟨by simp [toldH, partH, hd0], trivial, hrr⟩
            · exact ⟨by simp [toldH, partH, hd0], trivial, hrr⟩
            · exact ⟨by simp [toldH, partH, hd0], ih hy, hrr⟩
theorem dec_told (bs : List Nat) : toldR (dRow (decR bs)) (partR (dRow (decR bs))) := by
  unfold decR
  cases h : takeR (bs.length + 1) bs 0 with
  | error e => trivial
  | ok x =>
    obtain ⟨r, rest⟩ := x
    simp only
    split
    · exact takeR_told h
    · trivial
end Go.Proofs.Ytigmofbammofbaa
