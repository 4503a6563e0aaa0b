/- A reader's state as a function of the calls: every call, whatever its state. -/
import Derived.Test.YtiabhgkndejigabPF
import Derived.Test.YtiabhgkndejigabAwake
namespace Go.Proofs.Ytiabhgkndejigab
open Go.RowKit

/-- A reader in plain words: its fault (0: none), what is left, what stands behind each frame that it is in (the outermost first). -/
structure RS where
  fault : Nat
  left : List Nat
  behind : List (List Nat)

def rF (c : Nat) : RS := ⟨c, [], []⟩
def rByte (s : RS) : RS × Nat := if s.fault ≠ 0 then (s, 0) else match s.left with
  | [] => (rF 10, 0)
  | x :: l => (⟨0, l, s.behind⟩, x)
def rFixed (s : RS) (size : Int) : RS × Nat := if s.fault ≠ 0 then (s, 0) else if size < 1 ∨ 8 < size then (rF 2, 0) else if (s.left.length : Int) < size then (rF 10, 0) else (⟨0, s.left.drop size.toNat, s.behind⟩, leV (s.left.take size.toNat))
def rNum (s : RS) : RS × Nat := if s.fault ≠ 0 then (s, 0) else match readNum 0 0 s.left with
  | .inl c => (rF c, 0)
  | .inr (n, r) => (⟨0, r, s.behind⟩, n)
def rInt (s : RS) : RS × Int := ((rNum s).1, unfoldN (rNum s).2)
def rReal (s : RS) : RS × Nat := if s.fault ≠ 0 then (s, 0) else if s.left.length < 8 then (rF 10, 0) else if nanB (of8 (s.left.take 8)) = true ∧ of8 (s.left.take 8) ≠ oneNaN then (rF 11, 0) else (⟨0, s.left.drop 8, s.behind⟩, of8 (s.left.take 8))
def rRaw (s : RS) (n : Int) : RS × List Nat := if s.fault ≠ 0 then (s, []) else if n < 0 then (rF 2, []) else if (s.left.length : Int) < n then (rF 10, []) else (⟨0, s.left.drop n.toNat, s.behind⟩, s.left.take n.toNat)
def rText (s : RS) (most : Int) : RS × List Nat := if s.fault ≠ 0 then (s, []) else match readNum 0 0 s.left with
  | .inl c => (rF c, [])
  | .inr (n, r) => if most.toNat < n then (rF 11, []) else if r.length < n then (rF 10, []) else (⟨0, r.drop n, s.behind⟩, r.take n)
def rEnter (s : RS) : RS × Nat := if s.fault ≠ 0 then (s, 0) else if s.behind.length = 16 then (rF 11, 0) else match readNum 0 0 s.left with
  | .inl c => (rF c, 0)
  | .inr (n, r) => if r.length < n then (rF 10, 0) else (⟨0, r.take n, s.behind ++ [r.drop n]⟩, n)
def rLeave (s : RS) : RS := if s.fault ≠ 0 then s else if s.behind = [] then rF 2 else if s.left ≠ [] then rF 12 else ⟨0, s.behind.getD (s.behind.length - 1) [], s.behind.dropLast⟩
def rRest (s : RS) : Nat := if s.fault ≠ 0 then 0 else s.left.length
def rDone (s : RS) : Nat := if s.fault ≠ 0 then s.fault else if s.left = [] ∧ s.behind = [] then 0 else 12

theorem readNum_code (l : List Nat) : ∀ (k acc : Nat) {c : Nat}, readNum k acc l = .inl c → c = 10 ∨ c = 11 := by
  induction l with
  | nil => intro k acc c h; simp [readNum] at h; exact Or.inl h.symm
  | cons x l ih =>
    intro k acc c h
    rw [readNum] at h
    split at h
    · cases h; exact Or.inr rfl
    · split at h
      · split at h
        · cases h; exact Or.inr rfl
        · cases h
      · exact ih _ _ h

/-- In w there is a reader at block b in the state s; F: its blocks. -/
def Rs (w : World) (b : Nat) (F : List Nat) (s : RS) : Prop :=
  (s.fault ≠ 0 ∧ RdF w b s.fault ∧ s.left = [] ∧ s.behind = [] ∧ F = [b]) ∨
  (s.fault = 0 ∧ (∀ x ∈ s.left, x < 256) ∧ (∀ r ∈ s.behind, ∀ x ∈ r, x < 256) ∧ ∃ lv bv hs D, Rf w b lv bv hs s.left s.behind D ∧ F = D.toList ++ rfoot b bv)
/-- Behind a call on the reader. -/
def RsP (w : World) (b : Nat) (F : List Nat) (s' : RS) (w' : World) : Prop := ∃ F', Rs w' b F' s' ∧ Kept F w w' ∧ ∀ x ∈ F', x ∈ F ∨ w.heap.size ≤ x

theorem Rs.lt {w : World} {b : Nat} {F : List Nat} {s : RS} (h : Rs w b F s) : ∀ x ∈ F, x < w.heap.size := by
  rcases h with ⟨_, h2, _, _, rfl⟩ | ⟨_, _, _, lv, bv, hs, D, h2, rfl⟩
  · intro x hx; simp at hx; subst hx; exact Blk.lt h2
  · exact h2.lts
theorem Rs.mem {w : World} {b : Nat} {F : List Nat} {s : RS} (h : Rs w b F s) : b ∈ F := by
  rcases h with ⟨_, h2, _, _, rfl⟩ | ⟨_, _, _, lv, bv, hs, D, h2, rfl⟩
  · simp
  · simp [rfoot]
theorem Rs.kept {G : List Nat} {w w' : World} {b : Nat} {F : List Nat} {s : RS} (h : Rs w b F s) (k : Kept G w w') (hF : ∀ x ∈ F, x ∉ G) : Rs w' b F s := by
  rcases h with ⟨h1, h2, h3, h4, rfl⟩ | ⟨h1, h3, h4, lv, bv, hs, D, h2, rfl⟩
  · exact Or.inl ⟨h1, Blk.kept h2 k (hF b (by simp)), h3, h4, rfl⟩
  · exact Or.inr ⟨h1, h3, h4, lv, bv, hs, D, h2.kept k hF, rfl⟩
theorem RsP.from {w W w' : World} {b : Nat} {F : List Nat} {s' : RS} (k : Kept [] w W) (h : RsP W b F s' w') : RsP w b F s' w' := by
  obtain ⟨F', h1, h2, h3⟩ := h
  refine ⟨F', h1, (k.mono (by simp)).trans h2 (fun x hx => Or.inl hx), fun x hx => ?_⟩
  rcases h3 x hx with h | h
  · exact Or.inl h
  · right; have := k.size; omega
theorem RsP.behind {w W w' : World} {b : Nat} {F : List Nat} {s' : RS} (h : RsP w b F s' W) (k : Kept [] W w') : RsP w b F s' w' := by
  obtain ⟨F', h1, h2, h3⟩ := h
  exact ⟨F', h1.kept k (by simp), h2.trans k (by simp), h3⟩
theorem RsP.same {w w' : World} {b : Nat} {F : List Nat} {s : RS} (h : Rs w b F s) (k : Kept [] w w') : RsP w b F s w' := ⟨F, h.kept k (by simp), k.mono (by simp), fun _ hx => Or.inl hx⟩
theorem RsP.err {w w' : World} {b c : Nat} {F : List Nat} (hb : b ∈ F) (hc : c ≠ 0) (h : RdF w' b c) (k : Kept [b] w w') : RsP w b F (rF c) w' :=
  ⟨[b], Or.inl ⟨hc, h, rfl, rfl, rfl⟩, k.mono (fun x hx => Or.inl (by simp at hx; subst hx; exact hb)), fun x hx => Or.inl (by simp at hx; subst hx; exact hb)⟩
theorem RsP.ok {w w' : World} {b : Nat} {lv bv : Value} {hs : List Value} {l l' : List Nat} {bh bh' : List (List Nat)} {D : Option Nat} (_h : Rf w b lv bv hs l bh D) (hp : RPost w b bv D l' bh' w') (h1 : ∀ x ∈ l', x < 256) (h2 : ∀ r ∈ bh', ∀ x ∈ r, x < 256) : RsP w b (D.toList ++ rfoot b bv) ⟨0, l', bh'⟩ w' := by
  obtain ⟨lv', bv', hs', g1, g2, g3⟩ := hp
  refine ⟨_, Or.inr ⟨rfl, h1, h2, lv', bv', hs', D, g1, rfl⟩, g2.mono (fun x hx => Or.inl (by simp [hx])), fun x hx => ?_⟩
  simp only [List.mem_append] at hx ⊢
  rcases hx with hx | hx
  · exact Or.inl (Or.inl hx)
  · rcases g3 x hx with h' | h'
    · exact Or.inl (Or.inr h')
    · exact Or.inr h'
theorem RsP.took {w w' : World} {b : Nat} {lv bv : Value} {hs : List Value} {l l' : List Nat} {bh : List (List Nat)} {D : Option Nat} (h : Rf w b lv bv hs l bh D) (hr : ∃ lv', Rd w' b lv' bv l' ∧ lv'.ownBlock = lv.ownBlock) (hk : Kept [b] w w') (h1 : ∀ x ∈ l', x < 256) (h2 : ∀ r ∈ bh, ∀ x ∈ r, x < 256) : RsP w b (D.toList ++ rfoot b bv) ⟨0, l', bh⟩ w' :=
  RsP.ok h (Took.post h ⟨hr, hk⟩) h1 h2

/-- Two objects whose blocks are apart stay apart. -/
theorem apart_go {w : World} {F F' G : List Nat} (hG : ∀ x ∈ G, x < w.heap.size) (hF : ∀ x ∈ F', x ∈ F ∨ w.heap.size ≤ x) (h : ∀ x ∈ F, x ∉ G) : ∀ x ∈ F', x ∉ G := by
  intro x hx hg
  rcases hF x hx with h1 | h1
  · exact h x h1 hg
  · have := hG x hg; omega

theorem rbyte_s {w : World} {b : Nat} {F : List Nat} {s : RS} (h : Rs w b F s) :
    Calls Try.prog 41 #[.pointer (some ⟨b, 0, none⟩)] w fun e w' => e = .returned (.int .i64 ((rByte s).2 : Nat)) ∧ RsP w b F (rByte s).1 w' := by
  have h0 := h
  rcases h with ⟨h1, h2, _, _, rfl⟩ | ⟨h1, h3, h4, lv, bv, hs, D, h2, rfl⟩
  · refine (rbyte_fault h2 h1).mono ?_
    rintro e w' ⟨rfl, hk⟩
    rw [rByte, if_pos h1]
    exact ⟨rfl, RsP.same h0 hk⟩
  · obtain ⟨fa, l, bh⟩ := s
    simp only at h1 h2 h3 h4
    subst h1
    cases l with
    | nil =>
      refine (rbyte_err h2.rd (by simp)).mono ?_
      rintro e w' ⟨rfl, hr, hk⟩
      exact ⟨rfl, RsP.err h0.mem (by omega) hr hk⟩
    | cons x l =>
      refine (rbyte_ok h2.rd (h3 x (by simp))).mono ?_
      rintro e w' ⟨rfl, hr, hk⟩
      exact ⟨rfl, RsP.took h2 hr hk (fun y hy => h3 y (by simp [hy])) h4⟩

theorem rfixed_s {w : World} {b : Nat} {F : List Nat} {s : RS} (h : Rs w b F s) (size : Int) :
    Calls Try.prog 28 #[.pointer (some ⟨b, 0, none⟩), .int .i64 size] w fun e w' => e = .returned (.int .u64 ((rFixed s size).2 : Nat)) ∧ RsP w b F (rFixed s size).1 w' := by
  have h0 := h
  rcases h with ⟨h1, h2, _, _, rfl⟩ | ⟨h1, h3, h4, lv, bv, hs, D, h2, rfl⟩
  · refine (rfixed_fault h2 h1 size).mono ?_
    rintro e w' ⟨rfl, hk⟩
    rw [rFixed, if_pos h1]
    exact ⟨rfl, RsP.same h0 hk⟩
  · rw [rFixed, if_neg (by simpa using h1)]
    by_cases ha : size < 1 ∨ 8 < size
    · rw [if_pos ha]
      refine (rfixed_err h2.rd h3 size 2 (Or.inl ⟨ha, rfl⟩)).mono ?_
      rintro e w' ⟨rfl, hr, hk⟩
      exact ⟨rfl, RsP.err h0.mem (by omega) hr hk⟩
    · rw [if_neg ha]
      by_cases hl : (s.left.length : Int) < size
      · rw [if_pos hl]
        refine (rfixed_err h2.rd h3 size 10 (Or.inr ⟨by omega, by omega, hl, rfl⟩)).mono ?_
        rintro e w' ⟨rfl, hr, hk⟩
        exact ⟨rfl, RsP.err h0.mem (by omega) hr hk⟩
      · rw [if_neg hl]
        obtain ⟨n, rfl⟩ := Int.eq_ofNat_of_zero_le (show 0 ≤ size by omega)
        refine (rfixed_ok h2.rd h3 n (by omega) (by omega) (by omega)).mono ?_
        rintro e w' ⟨rfl, hr, hk⟩
        exact ⟨rfl, RsP.took h2 hr hk (fun y hy => h3 y (List.mem_of_mem_drop hy)) h4⟩

theorem rnum_s {w : World} {b : Nat} {F : List Nat} {s : RS} (h : Rs w b F s) :
    Calls Try.prog 39 #[.pointer (some ⟨b, 0, none⟩)] w fun e w' => e = .returned (.int .u64 ((rNum s).2 : Nat)) ∧ RsP w b F (rNum s).1 w' := by
  have h0 := h
  rcases h with ⟨h1, h2, _, _, rfl⟩ | ⟨h1, h3, h4, lv, bv, hs, D, h2, rfl⟩
  · refine (rnum_fault h2 h1).mono ?_
    rintro e w' ⟨rfl, hk⟩
    rw [rNum, if_pos h1]
    exact ⟨rfl, RsP.same h0 hk⟩
  · rw [rNum, if_neg (by simpa using h1)]
    cases hr : readNum 0 0 s.left with
    | inl c =>
      refine (rnum_err h2.rd h3 hr).mono ?_
      rintro e w' ⟨rfl, g1, hk⟩
      exact ⟨rfl, RsP.err h0.mem (by rcases readNum_code _ _ _ hr with rfl | rfl <;> omega) g1 hk⟩
    | inr p =>
      obtain ⟨n, r⟩ := p
      refine (rnum_ok h2.rd h3 hr).mono ?_
      rintro e w' ⟨rfl, g1, hk⟩
      exact ⟨rfl, RsP.took h2 g1 hk (readNum_lt _ 0 0 (by omega) (by simp) h3 hr).2.1 h4⟩

theorem rint_s {w : World} {b : Nat} {F : List Nat} {s : RS} (h : Rs w b F s) :
    Calls Try.prog 43 #[.pointer (some ⟨b, 0, none⟩)] w fun e w' => e = .returned (.int .i64 (rInt s).2) ∧ RsP w b F (rInt s).1 w' := by
  have h0 := h
  unfold rInt
  rcases h with ⟨h1, h2, _, _, rfl⟩ | ⟨h1, h3, h4, lv, bv, hs, D, h2, rfl⟩
  · refine (rint_fault h2 h1).mono ?_
    rintro e w' ⟨rfl, hk⟩
    rw [rNum, if_pos h1]
    exact ⟨ret_int (show (0 : Int) = unfoldN 0 by decide), RsP.same h0 hk⟩
  · rw [rNum, if_neg (by simpa using h1)]
    cases hr : readNum 0 0 s.left with
    | inl c =>
      refine (rint_err h2.rd h3 hr).mono ?_
      rintro e w' ⟨rfl, g1, hk⟩
      exact ⟨ret_int (show (0 : Int) = unfoldN 0 by decide), RsP.err h0.mem (by rcases readNum_code _ _ _ hr with rfl | rfl <;> omega) g1 hk⟩
    | inr p =>
      obtain ⟨n, r⟩ := p
      refine (rint_ok h2.rd h3 hr).mono ?_
      rintro e w' ⟨rfl, g1, hk⟩
      exact ⟨rfl, RsP.took h2 g1 hk (readNum_lt _ 0 0 (by omega) (by simp) h3 hr).2.1 h4⟩

theorem eight (l : List Nat) (h : ¬ l.length < 8) : ∃ x0 x1 x2 x3 x4 x5 x6 x7 rest, l = x0 :: x1 :: x2 :: x3 :: x4 :: x5 :: x6 :: x7 :: rest := by
  rcases l with _ | ⟨x0, _ | ⟨x1, _ | ⟨x2, _ | ⟨x3, _ | ⟨x4, _ | ⟨x5, _ | ⟨x6, _ | ⟨x7, rest⟩⟩⟩⟩⟩⟩⟩⟩
  all_goals first | exact ⟨_, _, _, _, _, _, _, _, _, rfl⟩ | (simp at h)

theorem rreal_s {w : World} {b : Nat} {F : List Nat} {s : RS} (h : Rs w b F s) :
    Calls Try.prog 44 #[.pointer (some ⟨b, 0, none⟩)] w fun e w' => e = .returned (.float .f64 (rReal s).2) ∧ RsP w b F (rReal s).1 w' := by
  have h0 := h
  rcases h with ⟨h1, h2, _, _, rfl⟩ | ⟨h1, h3, h4, lv, bv, hs, D, h2, rfl⟩
  · refine (rreal_fault h2 h1).mono ?_
    rintro e w' ⟨rfl, hk⟩
    rw [rReal, if_pos h1]
    exact ⟨rfl, RsP.same h0 hk⟩
  · rw [rReal, if_neg (by simpa using h1)]
    by_cases hl : s.left.length < 8
    · rw [if_pos hl]
      refine (rreal_err h2.rd hl).mono ?_
      rintro e w' ⟨rfl, g1, hk⟩
      exact ⟨rfl, RsP.err h0.mem (by omega) g1 hk⟩
    · rw [if_neg hl]
      obtain ⟨fa, l, bh⟩ := s
      simp only at h1 h2 h3 h4 hl ⊢
      obtain ⟨x0, x1, x2, x3, x4, x5, x6, x7, rest, rfl⟩ := eight l hl
      · skip
        have hx : ∀ x ∈ [x0, x1, x2, x3, x4, x5, x6, x7], x < 256 := fun x hx => h3 x (by
          rw [show x0 :: x1 :: x2 :: x3 :: x4 :: x5 :: x6 :: x7 :: rest = [x0, x1, x2, x3, x4, x5, x6, x7] ++ rest from rfl]
          exact List.mem_append_left _ hx)
        have et : List.take 8 (x0 :: x1 :: x2 :: x3 :: x4 :: x5 :: x6 :: x7 :: rest) = [x0, x1, x2, x3, x4, x5, x6, x7] := rfl
        have ed : List.drop 8 (x0 :: x1 :: x2 :: x3 :: x4 :: x5 :: x6 :: x7 :: rest) = rest := rfl
        rw [et, ed]
        by_cases ho : nanB (of8 [x0, x1, x2, x3, x4, x5, x6, x7]) = true ∧ of8 [x0, x1, x2, x3, x4, x5, x6, x7] ≠ oneNaN
        · rw [if_pos ho]
          refine (rreal_odd h2.rd hx _ rfl ho.1 ho.2).mono ?_
          rintro e w' ⟨rfl, g1, hk⟩
          exact ⟨rfl, RsP.err h0.mem (by omega) g1 hk⟩
        · rw [if_neg ho]
          refine (rreal_ok h2.rd hx _ rfl ?_).mono ?_
          · cases hn : nanB (of8 [x0, x1, x2, x3, x4, x5, x6, x7])
            · exact Or.inl rfl
            · exact Or.inr ⟨rfl, Classical.byContradiction fun hne => ho ⟨hn, hne⟩⟩
          · rintro e w' ⟨rfl, g1, hk⟩
            exact ⟨rfl, RsP.took h2 g1 hk (fun x hx => h3 x (by
              rw [show x0 :: x1 :: x2 :: x3 :: x4 :: x5 :: x6 :: x7 :: rest = [x0, x1, x2, x3, x4, x5, x6, x7] ++ rest from rfl]
              exact List.mem_append_right _ hx)) h4⟩

/-- Bytes that a call answers: new memory. -/
def NewB (w : World) (bs : List Nat) (e : Ending) (w' : World) : Prop := ∃ a cap, e = .returned (.slice a bs.length cap) ∧ w'.ownsRow w.heap.size 5 1 (.slice a bs.length cap) bs.length (u8s bs)
theorem NewB.nil (w w' : World) : NewB w [] (.returned (.slice none 0 0)) w' := ⟨none, 0, rfl, rfl, Or.inl ⟨rfl, rfl⟩⟩

theorem rraw_s {w : World} {b : Nat} {F : List Nat} {s : RS} (h : Rs w b F s) (n : Int) (hn9 : n ≤ 9223372036854775807) :
    Calls Try.prog 23 #[.pointer (some ⟨b, 0, none⟩), .int .i64 n] w fun e w' => NewB w (rRaw s n).2 e w' ∧ RsP w b F (rRaw s n).1 w' := by
  have h0 := h
  rcases h with ⟨h1, h2, _, _, rfl⟩ | ⟨h1, h3, h4, lv, bv, hs, D, h2, rfl⟩
  · refine (rraw_fault h2 h1 n).mono ?_
    rintro e w' ⟨rfl, hk⟩
    rw [rRaw, if_pos h1]
    exact ⟨NewB.nil _ _, RsP.same h0 hk⟩
  · rw [rRaw, if_neg (by simpa using h1)]
    by_cases ha : n < 0
    · rw [if_pos ha]
      refine (rraw_err h2.rd n hn9 2 (Or.inl ⟨ha, rfl⟩)).mono ?_
      rintro e w' ⟨rfl, g1, hk⟩
      exact ⟨NewB.nil _ _, RsP.err h0.mem (by omega) g1 hk⟩
    · rw [if_neg ha]
      by_cases hl : (s.left.length : Int) < n
      · rw [if_pos hl]
        refine (rraw_err h2.rd n hn9 10 (Or.inr ⟨hl, rfl⟩)).mono ?_
        rintro e w' ⟨rfl, g1, hk⟩
        exact ⟨NewB.nil _ _, RsP.err h0.mem (by omega) g1 hk⟩
      · rw [if_neg hl]
        obtain ⟨m, rfl⟩ := Int.eq_ofNat_of_zero_le (show 0 ≤ n by omega)
        have htl : (s.left.take m).length = m := by simp; omega
        refine (rraw_ok h2.rd m (by omega)).mono ?_
        rintro e w' ⟨a, cap, rfl, ho, hr, hk⟩
        refine ⟨⟨a, cap, ?_, ?_⟩, RsP.took h2 hr hk (fun y hy => h3 y (List.mem_of_mem_drop hy)) h4⟩
        · show Ending.returned (.slice a m cap) = .returned (.slice a (s.left.take m).length cap)
          rw [htl]
        · show w'.ownsRow w.heap.size 5 1 (.slice a (s.left.take m).length cap) (s.left.take m).length (u8s (s.left.take m))
          rw [htl] at ho ⊢
          exact ho

theorem rtext_s {w : World} {b : Nat} {F : List Nat} {s : RS} (h : Rs w b F s) (most : Int) (hm9 : most ≤ 9223372036854775807) :
    Calls Try.prog 36 #[.pointer (some ⟨b, 0, none⟩), .int .i64 most] w fun e w' => NewB w (rText s most).2 e w' ∧ RsP w b F (rText s most).1 w' := by
  have h0 := h
  rcases h with ⟨h1, h2, _, _, rfl⟩ | ⟨h1, h3, h4, lv, bv, hs, D, h2, rfl⟩
  · refine (rtext_fault h2 h1 most).mono ?_
    rintro e w' ⟨rfl, hk⟩
    rw [rText, if_pos h1]
    exact ⟨NewB.nil _ _, RsP.same h0 hk⟩
  · rw [rText, if_neg (by simpa using h1)]
    cases hr : readNum 0 0 s.left with
    | inl c =>
      refine (rtext_err h2.rd h3 most hm9 c (Or.inl hr)).mono ?_
      rintro e w' ⟨rfl, g1, hk⟩
      exact ⟨NewB.nil _ _, RsP.err h0.mem (by rcases readNum_code _ _ _ hr with rfl | rfl <;> omega) g1 hk⟩
    | inr p =>
      obtain ⟨n, r⟩ := p
      simp only
      by_cases ha : most.toNat < n
      · rw [if_pos ha]
        refine (rtext_err h2.rd h3 most hm9 11 (Or.inr ⟨n, r, hr, Or.inl ⟨ha, rfl⟩⟩)).mono ?_
        rintro e w' ⟨rfl, g1, hk⟩
        exact ⟨NewB.nil _ _, RsP.err h0.mem (by omega) g1 hk⟩
      · rw [if_neg ha]
        by_cases hl : r.length < n
        · rw [if_pos hl]
          refine (rtext_err h2.rd h3 most hm9 10 (Or.inr ⟨n, r, hr, Or.inr ⟨by omega, hl, rfl⟩⟩)).mono ?_
          rintro e w' ⟨rfl, g1, hk⟩
          exact ⟨NewB.nil _ _, RsP.err h0.mem (by omega) g1 hk⟩
        · rw [if_neg hl]
          have htl : (r.take n).length = n := by simp; omega
          refine (rtext_ok h2.rd h3 n most hm9 hr (by omega) (by omega)).mono ?_
          rintro e w' ⟨a, cap, rfl, ho, hrd, hk⟩
          refine ⟨⟨a, cap, ?_, ?_⟩, RsP.took h2 hrd hk (fun y hy => (readNum_lt _ 0 0 (by omega) (by simp) h3 hr).2.1 y (List.mem_of_mem_drop hy)) h4⟩
          · show Ending.returned (.slice a n cap) = .returned (.slice a (r.take n).length cap)
            rw [htl]
          · show w'.ownsRow w.heap.size 5 1 (.slice a (r.take n).length cap) (r.take n).length (u8s (r.take n))
            rw [htl] at ho ⊢
            exact ho

theorem renter_s {w : World} {b : Nat} {F : List Nat} {s : RS} (h : Rs w b F s) :
    Calls Try.prog 21 #[.pointer (some ⟨b, 0, none⟩)] w fun e w' => e = .returned (.int .i64 ((rEnter s).2 : Nat)) ∧ RsP w b F (rEnter s).1 w' := by
  have h0 := h
  rcases h with ⟨h1, h2, _, _, rfl⟩ | ⟨h1, h3, h4, lv, bv, hs, D, h2, rfl⟩
  · refine (renter_fault h2 h1).mono ?_
    rintro e w' ⟨rfl, hk⟩
    rw [rEnter, if_pos h1]
    exact ⟨rfl, RsP.same h0 hk⟩
  · rw [rEnter, if_neg (by simpa using h1)]
    have h16 := h2.h16
    by_cases ha : s.behind.length = 16
    · rw [if_pos ha]
      refine (renter_err h2 h3 11 (Or.inl ⟨ha, rfl⟩)).mono ?_
      rintro e w' ⟨rfl, g1, hk⟩
      exact ⟨rfl, RsP.err h0.mem (by omega) g1 hk⟩
    · rw [if_neg ha]
      cases hr : readNum 0 0 s.left with
      | inl c =>
        refine (renter_err h2 h3 c (Or.inr ⟨by omega, Or.inl hr⟩)).mono ?_
        rintro e w' ⟨rfl, g1, hk⟩
        exact ⟨rfl, RsP.err h0.mem (by rcases readNum_code _ _ _ hr with rfl | rfl <;> omega) g1 hk⟩
      | inr p =>
        obtain ⟨n, r⟩ := p
        simp only
        by_cases hl : r.length < n
        · rw [if_pos hl]
          refine (renter_err h2 h3 10 (Or.inr ⟨by omega, Or.inr ⟨n, r, hr, hl, rfl⟩⟩)).mono ?_
          rintro e w' ⟨rfl, g1, hk⟩
          exact ⟨rfl, RsP.err h0.mem (by omega) g1 hk⟩
        · rw [if_neg hl]
          have hlt := readNum_lt _ 0 0 (by omega) (by simp) h3 hr
          have hbl := h2.rd.bl
          refine (renter_ok h2 h3 (by omega) n hr (by omega) (by omega)).mono ?_
          rintro e w' ⟨rfl, ⟨lv', bv', hs', g1, g2⟩, hk⟩
          refine ⟨rfl, RsP.ok h2 ⟨lv', bv', hs', g1, hk, fun x hx => ?_⟩ (fun y hy => hlt.2.1 y (List.mem_of_mem_take hy)) (fun q hq x hx => ?_)⟩
          · simp only [rfoot, List.mem_cons, Option.mem_toList] at hx ⊢
            rcases hx with rfl | hx
            · exact Or.inl (Or.inl rfl)
            · rcases g2 with g2 | g2
              · rw [g2] at hx; exact Or.inl (Or.inr hx)
              · exact Or.inr (g2 x hx)
          · simp at hq
            rcases hq with hq | rfl
            · exact h4 q hq x hx
            · exact hlt.2.1 x (List.mem_of_mem_drop hx)

theorem rleave_s {w : World} {b : Nat} {F : List Nat} {s : RS} (h : Rs w b F s) :
    Calls Try.prog 22 #[.pointer (some ⟨b, 0, none⟩)] w fun e w' => e = .returned (.tuple #[]) ∧ RsP w b F (rLeave s) w' := by
  have h0 := h
  rcases h with ⟨h1, h2, _, _, rfl⟩ | ⟨h1, h3, h4, lv, bv, hs, D, h2, rfl⟩
  · refine (rleave_fault h2 h1).mono ?_
    rintro e w' ⟨rfl, hk⟩
    rw [rLeave, if_pos h1]
    exact ⟨rfl, RsP.same h0 hk⟩
  · rw [rLeave, if_neg (by simpa using h1)]
    by_cases ha : s.behind = []
    · rw [if_pos ha]
      refine (rleave_err h2 2 (Or.inl ⟨ha, rfl⟩)).mono ?_
      rintro e w' ⟨rfl, g1, hk⟩
      exact ⟨rfl, RsP.err h0.mem (by omega) g1 hk⟩
    · rw [if_neg ha]
      by_cases hl : s.left ≠ []
      · rw [if_pos hl]
        refine (rleave_err h2 12 (Or.inr ⟨ha, hl, rfl⟩)).mono ?_
        rintro e w' ⟨rfl, g1, hk⟩
        exact ⟨rfl, RsP.err h0.mem (by omega) g1 hk⟩
      · rw [if_neg hl]
        have hl' : s.left = [] := Classical.byContradiction hl
        rw [hl'] at h2
        have hpos := List.length_pos_iff.2 ha
        refine (rleave_ok h2 hpos).mono ?_
        rintro e w' ⟨rfl, ⟨lv', bv', hs', g1, g2⟩, hk⟩
        refine ⟨rfl, RsP.ok h2 ⟨lv', bv', hs', g1, hk.mono (fun x hx => by simp at hx; subst hx; exact Or.inl (by simp [rfoot])), fun x hx => ?_⟩ (fun y hy => ?_) (fun q hq => h4 q (List.dropLast_subset _ hq))⟩
        · simp only [rfoot, g2] at hx ⊢
          exact Or.inl hx
        · have hm : s.behind.getD (s.behind.length - 1) [] ∈ s.behind := by
            rw [List.getD, List.getElem?_eq_getElem (by omega), Option.getD_some]
            exact List.getElem_mem _
          exact h4 _ hm y hy

theorem rrest_s {w : World} {b : Nat} {F : List Nat} {s : RS} (h : Rs w b F s) :
    Calls Try.prog 12 #[.pointer (some ⟨b, 0, none⟩)] w fun e w' => e = .returned (.int .i64 (rRest s : Nat)) ∧ w = w' := by
  rcases h with ⟨h1, h2, _, _, rfl⟩ | ⟨h1, h3, h4, lv, bv, hs, D, h2, rfl⟩
  · rw [rRest, if_pos h1]; exact rest_fault h2 h1
  · rw [rRest, if_neg (by simpa using h1)]; exact rest_ok h2.rd

theorem rdone_s {w : World} {b : Nat} {F : List Nat} {s : RS} (h : Rs w b F s) :
    Calls Try.prog 14 #[.pointer (some ⟨b, 0, none⟩)] w fun e w' => e = .returned (.int .i64 (rDone s : Nat)) ∧ w = w' := by
  rcases h with ⟨h1, h2, _, _, rfl⟩ | ⟨h1, h3, h4, lv, bv, hs, D, h2, rfl⟩
  · rw [rDone, if_pos h1]; exact rdone_fault h2 h1
  · rw [rDone, if_neg (by simpa using h1)]; exact rdone_f h2 _ rfl

theorem read_s {w : World} {x : Value} {bs : List Nat} (h : Sees w x bs) (hl : bs.length ≤ 140737488355328) (hb : ∀ x ∈ bs, x < 256) :
    Calls Try.prog 9 #[x] w fun e w' => ∃ b F, e = .returned (.pointer (some ⟨b, 0, none⟩)) ∧ Rs w' b F ⟨0, bs, []⟩ ∧ (∀ x ∈ F, w.heap.size ≤ x) ∧ Kept [] w w' := by
  refine (read_any h hl).mono ?_
  rintro e w' ⟨b, lv, rfl, hr, hb', hl', hk⟩
  refine ⟨b, _, rfl, Or.inr ⟨rfl, hb, by simp, lv, nilS, [], lv.ownBlock, Rf.new hr, rfl⟩, fun x hx => ?_, hk⟩
  simp only [rfoot, nilS, Value.ownBlock, List.mem_append, List.mem_cons, Option.mem_toList, Option.toList_none, List.not_mem_nil, or_false] at hx
  rcases hx with hx | rfl
  · exact hl' x hx
  · exact hb'
end Go.Proofs.Ytiabhgkndejigab
