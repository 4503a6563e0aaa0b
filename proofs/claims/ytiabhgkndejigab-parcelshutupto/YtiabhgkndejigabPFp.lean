/- Plain words: there is one form of each thing; frames within frames. -/
import Derived.Test.YtiabhgkndejigabPS
namespace Go.Proofs.Ytiabhgkndejigab
open Go.RowKit

theorem read_one (l : List Nat) : ∀ (k acc n : Nat) (r : List Nat), (∀ x ∈ l, x < 256) → readNum k acc l = .inr (n, r) → ∃ m, n = acc + m * 128 ^ k ∧ l = form m ++ r ∧ (0 < k → 0 < m) := by
  induction l with
  | nil => intro k acc n r _ h; simp [readNum] at h
  | cons x l ih =>
    intro k acc n r hl h
    have hx := hl x (by simp)
    rw [readNum] at h
    split at h
    · cases h
    · split at h
      · rename_i h8
        split at h
        · cases h
        · rename_i h0
          cases h
          exact ⟨x, rfl, by rw [form_small h8]; rfl, fun hk => by omega⟩
      · rename_i h8
        obtain ⟨m, h1, h2, h3⟩ := ih (k + 1) _ n r (fun y hy => hl y (by simp [hy])) h
        have h4 := h3 (by omega)
        refine ⟨x % 128 + 128 * m, ?_, ?_, fun _ => by omega⟩
        · rw [h1, Nat.pow_succ, Nat.add_mul]
          have : m * (128 ^ k * 128) = 128 * m * 128 ^ k := by rw [Nat.mul_comm (128 ^ k), ← Nat.mul_assoc, Nat.mul_comm m]
          omega
        · rw [form_big (by omega), h2]
          have e1 : (x % 128 + 128 * m) % 128 + 128 = x := by omega
          have e2 : (x % 128 + 128 * m) / 128 = m := by omega
          rw [e1, e2]; rfl
theorem read_one0 {l r : List Nat} {n : Nat} (hl : ∀ x ∈ l, x < 256) (h : readNum 0 0 l = .inr (n, r)) : l = form n ++ r := by
  obtain ⟨m, h1, h2, _⟩ := read_one l 0 0 n r hl h
  have : n = m := by simp at h1; exact h1
  rw [this]; exact h2

theorem le_leV (l : List Nat) (h : ∀ x ∈ l, x < 256) : le (leV l) l.length = l := by
  induction l with
  | nil => rfl
  | cons x l ih =>
    have hx := h x (by simp)
    have e : (x :: l).length = 1 + l.length := by simp; omega
    rw [e, le_add, leV]
    have e1 : (x + 256 * leV l) / 256 ^ 1 = leV l := by omega
    rw [e1, ih (fun y hy => h y (by simp [hy]))]
    have e2 : le (x + 256 * leV l) 1 = [x] := by simp [le]; omega
    rw [e2]; rfl

theorem be8_of (x0 x1 x2 x3 x4 x5 x6 x7 : Nat) (_h0 : x0 < 256) (h1 : x1 < 256) (h2 : x2 < 256) (h3 : x3 < 256) (h4 : x4 < 256) (h5 : x5 < 256) (h6 : x6 < 256) (h7 : x7 < 256) : be8 (of8 [x0, x1, x2, x3, x4, x5, x6, x7]) = [x0, x1, x2, x3, x4, x5, x6, x7] := by
  simp only [be8, of8, List.foldl_cons, List.foldl_nil, Nat.zero_mul, Nat.zero_add, List.cons.injEq, and_true]
  refine ⟨?_, ?_, ?_, ?_, ?_, ?_, ?_, ?_⟩ <;> omega

theorem fold_unfold (n : Nat) : fold (unfoldN n) = n := by
  unfold fold unfoldN
  split <;> split <;> omega
theorem rnd_small (x : Nat) (n : Nat) (h : x < n) : rnd (x : Int) n = x := by
  unfold rnd
  rw [Int.emod_eq_of_lt (by omega) (by omega)]; simp

/-- What a step of kind k takes: the reader's state behind it, the number, the int and the bytes of the thing. -/
def takenS (s : RS) (k : Nat) (i : Int) : RS × Nat × Int × List Nat :=
  match k with
  | 0 => ((rByte s).1, 0, ((rByte s).2 : Nat), [])
  | 1 => ((rFixed s (1 + rnd i 8 : Nat)).1, (rFixed s (1 + rnd i 8 : Nat)).2, i, [])
  | 2 => ((rNum s).1, (rNum s).2, i, [])
  | 3 => ((rInt s).1, 0, (rInt s).2, [])
  | 4 => ((rReal s).1, (rReal s).2, i, [])
  | 5 => ((rRaw s (rnd i 9 : Nat)).1, 0, i, (rRaw s (rnd i 9 : Nat)).2)
  | 6 => ((rText s i).1, 0, i, (rText s i).2)
  | 7 => ((rEnter s).1, 0, i, [])
  | _ => (rLeave s, 0, i, [])

/-- The thing that a step has taken. -/
def thOf (k : Nat) (r : RS × Nat × Int × List Nat) (a : Option Addr) (c : Nat) : Th := ⟨(k : Int), r.2.1, r.2.2.1, a, c, r.2.2.2⟩
theorem thOf_k (k : Nat) (hk : k < 9) (r : RS × Nat × Int × List Nat) (a : Option Addr) (c : Nat) : (thOf k r a c).k = k := rnd_small k 9 hk

/-- One form: what a step has taken is what a writer lays down of it. -/
theorem one_form {s : RS} (hs : s.fault = 0) (hl : ∀ x ∈ s.left, x < 256) (k : Nat) (hk : k < 7) (i : Int) (a : Option Addr) (c : Nat) :
    ((takenS s k i).1.fault = 0 ∧ s.left = (thOf k (takenS s k i) a c).bytes ++ (takenS s k i).1.left ∧ (takenS s k i).1.behind = s.behind) ∨
      (takenS s k i).1 = rF 10 ∨ (takenS s k i).1 = rF 11 := by
  obtain ⟨fa, l, bh⟩ := s
  simp only at hs hl
  subst hs
  have hkk := thOf_k k (by omega) (takenS ⟨0, l, bh⟩ k i) a c
  unfold Th.bytes
  rw [hkk]
  clear hkk
  match k, hk with
  | 0, _ =>
    cases l with
    | nil => right; left; rfl
    | cons x l =>
      left
      refine ⟨rfl, ?_, rfl⟩
      show x :: l = [rnd ((x : Nat) : Int) 256] ++ l
      rw [rnd_small x 256 (hl x (by simp))]; rfl
  | 1, _ =>
    have hr := rnd_lt i 8 (by omega)
    show ((rFixed ⟨0, l, bh⟩ _).1.fault = 0 ∧ l = le (rFixed ⟨0, l, bh⟩ _).2 (1 + rnd i 8) ++ (rFixed ⟨0, l, bh⟩ _).1.left ∧ _) ∨ _
    simp only [takenS, rFixed]
    rw [if_neg (by simp), if_neg (by omega)]
    by_cases hh : (l.length : Int) < ((1 + rnd i 8 : Nat) : Int)
    · rw [if_pos hh]; right; left; rfl
    · rw [if_neg hh]
      left
      simp only [Int.toNat_natCast]
      have hlen : (l.take (1 + rnd i 8)).length = 1 + rnd i 8 := by simp; omega
      refine ⟨trivial, ?_, trivial⟩
      have := le_leV (l.take (1 + rnd i 8)) (fun x hx => hl x (List.mem_of_mem_take hx))
      rw [hlen] at this
      rw [this, List.take_append_drop]
  | 2, _ =>
    show ((rNum ⟨0, l, bh⟩).1.fault = 0 ∧ l = form (rNum ⟨0, l, bh⟩).2 ++ (rNum ⟨0, l, bh⟩).1.left ∧ _) ∨ _
    simp only [takenS, rNum]
    rw [if_neg (by simp)]
    cases hr : readNum 0 0 l with
    | inl c => right; rcases readNum_code _ _ _ hr with rfl | rfl; exact Or.inl rfl; exact Or.inr rfl
    | inr p => obtain ⟨n, r⟩ := p; left; exact ⟨rfl, read_one0 hl hr, rfl⟩
  | 3, _ =>
    show ((rNum ⟨0, l, bh⟩).1.fault = 0 ∧ l = form (fold (unfoldN (rNum ⟨0, l, bh⟩).2)) ++ (rNum ⟨0, l, bh⟩).1.left ∧ _) ∨ _
    rw [fold_unfold]
    simp only [takenS, rInt, rNum]
    rw [if_neg (by simp)]
    cases hr : readNum 0 0 l with
    | inl c => right; rcases readNum_code _ _ _ hr with rfl | rfl; exact Or.inl rfl; exact Or.inr rfl
    | inr p => obtain ⟨n, r⟩ := p; left; exact ⟨rfl, read_one0 hl hr, rfl⟩
  | 4, _ =>
    show ((rReal ⟨0, l, bh⟩).1.fault = 0 ∧ l = be8 (canon (rReal ⟨0, l, bh⟩).2) ++ (rReal ⟨0, l, bh⟩).1.left ∧ _) ∨ _
    simp only [takenS, rReal]
    rw [if_neg (by simp)]
    by_cases h8 : l.length < 8
    · rw [if_pos h8]; right; left; rfl
    · rw [if_neg h8]
      obtain ⟨x0, x1, x2, x3, x4, x5, x6, x7, rest, rfl⟩ := eight l h8
      have et : List.take 8 (x0 :: x1 :: x2 :: x3 :: x4 :: x5 :: x6 :: x7 :: rest) = [x0, x1, x2, x3, x4, x5, x6, x7] := rfl
      have ed : List.drop 8 (x0 :: x1 :: x2 :: x3 :: x4 :: x5 :: x6 :: x7 :: rest) = rest := rfl
      rw [et, ed]
      by_cases ho : nanB (of8 [x0, x1, x2, x3, x4, x5, x6, x7]) = true ∧ of8 [x0, x1, x2, x3, x4, x5, x6, x7] ≠ oneNaN
      · rw [if_pos ho]; right; right; rfl
      · rw [if_neg ho]
        left
        refine ⟨rfl, ?_, rfl⟩
        have hc : canon (of8 [x0, x1, x2, x3, x4, x5, x6, x7]) = of8 [x0, x1, x2, x3, x4, x5, x6, x7] := by
          rcases canon_cases (of8 [x0, x1, x2, x3, x4, x5, x6, x7]) with ⟨_, h⟩ | ⟨h1, h⟩
          · exact h
          · rw [h]; exact (Classical.byContradiction fun hne => ho ⟨h1, fun e => hne e.symm⟩)
        show _ = be8 (canon (of8 [x0, x1, x2, x3, x4, x5, x6, x7])) ++ rest
        rw [hc, be8_of _ _ _ _ _ _ _ _ (hl _ (by simp)) (hl _ (by simp)) (hl _ (by simp)) (hl _ (by simp)) (hl _ (by simp)) (hl _ (by simp)) (hl _ (by simp)) (hl _ (by simp))]
        rfl
  | 5, _ =>
    show ((rRaw ⟨0, l, bh⟩ _).1.fault = 0 ∧ l = (rRaw ⟨0, l, bh⟩ _).2 ++ (rRaw ⟨0, l, bh⟩ _).1.left ∧ _) ∨ _
    simp only [takenS, rRaw]
    rw [if_neg (by simp), if_neg (by omega)]
    by_cases hh : (l.length : Int) < ((rnd i 9 : Nat) : Int)
    · rw [if_pos hh]; right; left; rfl
    · rw [if_neg hh]
      left
      exact ⟨rfl, (List.take_append_drop _ _).symm, rfl⟩
  | 6, _ =>
    show ((rText ⟨0, l, bh⟩ i).1.fault = 0 ∧ l = form (rText ⟨0, l, bh⟩ i).2.length ++ (rText ⟨0, l, bh⟩ i).2 ++ (rText ⟨0, l, bh⟩ i).1.left ∧ _) ∨ _
    simp only [takenS, rText]
    rw [if_neg (by simp)]
    cases hr : readNum 0 0 l with
    | inl c => right; rcases readNum_code _ _ _ hr with rfl | rfl; exact Or.inl rfl; exact Or.inr rfl
    | inr p =>
      obtain ⟨n, r⟩ := p
      simp only
      by_cases h1 : i.toNat < n
      · rw [if_pos h1]; right; right; rfl
      · rw [if_neg h1]
        by_cases h2 : r.length < n
        · rw [if_pos h2]; right; left; rfl
        · rw [if_neg h2]
          left
          have hlen : (r.take n).length = n := by simp; omega
          refine ⟨rfl, ?_, rfl⟩
          show l = form (r.take n).length ++ r.take n ++ r.drop n
          rw [hlen, List.append_assoc, List.take_append_drop]
          exact read_one0 hl hr

/-- Frames within frames: of each (the outermost first) what stood ahead of it and what stands behind it. -/
def enc : List (List Nat × List Nat) → List Nat → List Nat
  | [], x => x
  | (A, b) :: fs, x => A ++ (form (enc fs x).length ++ (enc fs x ++ b))
theorem enc_snoc (fs : List (List Nat × List Nat)) (A b x : List Nat) : enc (fs ++ [(A, b)]) x = enc fs (A ++ (form x.length ++ (x ++ b))) := by
  induction fs with
  | nil => rfl
  | cons f fs ih => obtain ⟨A', b'⟩ := f; show enc ((A', b') :: (fs ++ [(A, b)])) x = _; rw [enc, enc, ih]
def ahead (fs : List (List Nat × List Nat)) : List Nat := (fs.map (·.1)).flatten
theorem ahead_snoc (fs : List (List Nat × List Nat)) (A b : List Nat) : ahead (fs ++ [(A, b)]) = ahead fs ++ A := by simp [ahead]
theorem enc_len (fs : List (List Nat × List Nat)) (x : List Nat) : (ahead fs).length + x.length ≤ (enc fs x).length := by
  induction fs with
  | nil => simp [ahead, enc]
  | cons f fs ih =>
    obtain ⟨A, b⟩ := f
    have e : ahead ((A, b) :: fs) = A ++ ahead fs := by simp [ahead]
    rw [e, enc]
    simp
    omega
def starts (fs : List (List Nat × List Nat)) : List Nat := (List.range fs.length).map fun i => (ahead (fs.take (i + 1))).length
theorem starts_snoc (fs : List (List Nat × List Nat)) (A b : List Nat) : starts (fs ++ [(A, b)]) = starts fs ++ [(ahead fs ++ A).length] := by
  unfold starts
  rw [List.length_append, List.length_singleton, List.range_succ, List.map_append]
  congr 1
  · apply List.map_congr_left
    intro i hi
    have hi' : i < fs.length := by simpa using hi
    rw [List.take_append_of_le_length (by omega)]
  · simp only [List.map_cons, List.map_nil]
    rw [List.take_of_length_le (by simp), ahead_snoc]
theorem starts_len (fs : List (List Nat × List Nat)) : (starts fs).length = fs.length := by simp [starts]
theorem ahead_take_le (fs : List (List Nat × List Nat)) (k : Nat) : (ahead (fs.take k)).length ≤ (ahead fs).length := by
  have : ahead fs = ahead (fs.take k) ++ ahead (fs.drop k) := by
    conv => lhs; rw [← List.take_append_drop k fs]
    simp only [ahead, List.map_append, List.flatten_append]
  rw [this]; simp

/-- The writer has laid down what the reader has taken. -/
structure FI (P : List Nat) (ws : WS) (r : RS) (fs : List (List Nat × List Nat)) (A : List Nat) : Prop where
  p : P = enc fs (A ++ r.left)
  bh : r.behind = fs.map (·.2)
  ok : r.fault = 0
  ws : ws = ⟨P.length, ahead fs ++ A, starts fs, 0⟩

theorem FI.new (p : List Nat) : FI p (newWS p.length) ⟨0, p, []⟩ [] [] := ⟨by simp [enc], rfl, rfl, by simp [newWS, ahead, starts]⟩
theorem FI.inv {p : List Nat} {ws : WS} {r : RS} {fs : List (List Nat × List Nat)} {A : List Nat} (h : FI p ws r fs A) : (∀ x ∈ ws.sts, x ≤ ws.bs.length) ∧ ws.bs.length ≤ p.length ∧ ws.fault = 0 ∧ (ahead fs).length + A.length + r.left.length ≤ p.length := by
  have hl := enc_len fs (A ++ r.left)
  rw [← h.p] at hl
  rw [h.ws]
  simp only [List.length_append] at hl ⊢
  refine ⟨fun x hx => ?_, by omega, trivial, by omega⟩
  simp only [starts, List.mem_map] at hx
  obtain ⟨i, _, rfl⟩ := hx
  have := ahead_take_le fs (i + 1); omega
theorem FI.leaf {p : List Nat} {ws : WS} {r r' : RS} {fs : List (List Nat × List Nat)} {A bs : List Nat} (h : FI p ws r fs A) (h1 : r'.fault = 0) (h2 : r.left = bs ++ r'.left) (h3 : r'.behind = r.behind) : FI p (wLay ws bs) r' fs (A ++ bs) := by
  have hi := h.inv.2.2.2
  rw [h2] at hi
  refine ⟨by rw [h.p, h2, List.append_assoc], by rw [h3, h.bh], h1, ?_⟩
  rw [h.ws]
  simp only [wLay]
  rw [if_neg (by simp), if_pos (by simp at hi ⊢; omega), List.append_assoc]
theorem FI.enter {p : List Nat} {ws : WS} {r : RS} {fs : List (List Nat × List Nat)} {A : List Nat} (h : FI p ws r fs A) (hl : ∀ x ∈ r.left, x < 256) (hd : fs.length < 16) :
    (FI p (wOpen ws) (rEnter r).1 (fs ++ [(A, (rEnter r).1.behind.getD fs.length [])]) []) ∨ (rEnter r).1 = rF 10 ∨ (rEnter r).1 = rF 11 := by
  have hbl : r.behind.length = fs.length := by rw [h.bh]; simp
  rw [rEnter, if_neg (by rw [h.ok]; simp), if_neg (by omega)]
  cases hr : readNum 0 0 r.left with
  | inl c => right; rcases readNum_code _ _ _ hr with rfl | rfl; exact Or.inl rfl; exact Or.inr rfl
  | inr q =>
    obtain ⟨n, l⟩ := q
    simp only
    by_cases h2 : l.length < n
    · rw [if_pos h2]; right; left; rfl
    · rw [if_neg h2]
      left
      have hlen : (l.take n).length = n := by simp; omega
      have hg : (r.behind ++ [l.drop n]).getD fs.length [] = l.drop n := by
        rw [List.getD, List.getElem?_append_right (by omega), hbl]; simp
      simp only [hg]
      refine ⟨?_, by simp [h.bh], rfl, ?_⟩
      · rw [enc_snoc, h.p]
        simp only [List.nil_append]
        rw [hlen, List.take_append_drop, read_one0 hl hr]
      · rw [h.ws]
        simp only [wOpen]
        rw [if_neg (by simp), if_neg (by rw [starts_len]; omega), starts_snoc, ahead_snoc]
        simp
theorem FI.leave {p : List Nat} {ws : WS} {r : RS} {fs : List (List Nat × List Nat)} {A : List Nat} (h : FI p ws r fs A) (hl : r.left = []) (hd : 0 < fs.length) (hb : ∀ q ∈ r.behind, ∀ x ∈ q, x < 256) :
    ∃ A', FI p (wClose ws) (rLeave r) fs.dropLast A' ∧ (∀ x ∈ (rLeave r).left, x < 256) := by
  have hne : fs ≠ [] := List.length_pos_iff.1 hd
  obtain ⟨f0, f, rfl⟩ : ∃ f0 f, fs = f0 ++ [f] := ⟨fs.dropLast, fs.getLast hne, (List.dropLast_concat_getLast hne).symm⟩
  obtain ⟨B, b⟩ := f
  have hbh : r.behind = f0.map (·.2) ++ [b] := by rw [h.bh]; simp
  have hlv : rLeave r = ⟨0, b, f0.map (·.2)⟩ := by
    rw [rLeave, if_neg (by rw [h.ok]; simp), if_neg (by rw [hbh]; simp), if_neg (by simp [hl]), hbh]
    simp [List.getD]
  rw [hlv]
  have hp := h.p
  rw [hl, List.append_nil, enc_snoc] at hp
  have hlen := enc_len f0 (B ++ (form A.length ++ (A ++ b)))
  rw [← hp] at hlen
  simp only [List.length_append] at hlen
  refine ⟨B ++ form A.length ++ A, ⟨?_, by simp, rfl, ?_⟩, fun x hx => hb b (by rw [hbh]; simp) x hx⟩
  · rw [List.dropLast_concat]
    rw [hp]
    simp [List.append_assoc]
  · rw [h.ws, List.dropLast_concat]
    simp only [wClose]
    rw [if_neg (by simp), starts_snoc, ahead_snoc]
    simp only [List.getLast?_concat, List.dropLast_concat]
    have e1 : (ahead f0 ++ B ++ A).length - (ahead f0 ++ B).length = A.length := by simp; omega
    rw [e1, if_pos (by simp; omega)]
    congr 1
    rw [List.take_left' rfl, List.drop_left' rfl]
    simp [List.append_assoc]
end Go.Proofs.Ytiabhgkndejigab
