/- Rows of things, purely: balanced rows; what a writer makes of them; a reader's way through it. -/
import Derived.Test.YtiabhgkndejigabThingT
namespace Go.Proofs.Ytiabhgkndejigab
open Go.RowKit

/-- A balanced row, frames within frames, d deep at most, and its bytes. -/
inductive Bal : Nat → List Th → List Nat → Prop
  | nil (d : Nat) : Bal d [] []
  | leaf {d : Nat} {t : Th} {ts : List Th} {bs : List Nat} (hk : t.k < 7) (h : Bal d ts bs) : Bal d (t :: ts) (t.bytes ++ bs)
  | node {d : Nat} {o c : Th} {inner ts : List Th} {ib bs : List Nat} (ho : o.k = 7) (hc : c.k = 8) (hi : Bal d inner ib) (h : Bal (d + 1) ts bs) : Bal (d + 1) (o :: (inner ++ c :: ts)) (form ib.length ++ (ib ++ bs))

def sumT (ts : List Th) : Nat := (ts.map fun t => t.p.length + 10).sum
theorem sumT_cons (t : Th) (ts : List Th) : sumT (t :: ts) = t.p.length + 10 + sumT ts := by simp [sumT]
theorem sumT_append (a b : List Th) : sumT (a ++ b) = sumT a + sumT b := by simp [sumT]

theorem bytes_len (t : Th) (ok : t.ok) (hp : t.p.length < 18446744073709551616) : t.bytes.length ≤ t.p.length + 10 := by
  have hn := ok.n
  have hf := fold_lt t.i ok.i1 ok.i2
  have h1 := form_le10 t.n hn
  have h2 := form_le10 (fold t.i) hf
  have h3 := form_le10 t.p.length hp
  have h4 := le_len t.n (1 + rnd t.i 8)
  have h5 := rnd_lt t.i 8 (by omega)
  unfold Th.bytes
  split <;> simp [be8] <;> omega

theorem bytes_lt (t : Th) (ok : t.ok) : ∀ x ∈ t.bytes, x < 256 := by
  intro x hx
  unfold Th.bytes at hx
  split at hx
  · simp at hx; have := rnd_lt t.i 256 (by omega); omega
  · exact le_lt _ _ x hx
  · exact form_byte _ x hx
  · exact form_byte _ x hx
  · exact be8_lt _ (canon_lt t.n ok.n) x hx
  · exact ok.p x hx
  · rcases List.mem_append.1 hx with h | h
    · exact form_byte _ x h
    · exact ok.p x h
  · cases hx

theorem Bal.len {d : Nat} {ts : List Th} {bs : List Nat} (h : Bal d ts bs) (ok : ∀ t ∈ ts, t.ok) (hs : sumT ts < 18446744073709551616) : bs.length ≤ sumT ts := by
  induction h with
  | nil => simp [sumT]
  | @leaf d t ts bs hk h ih =>
    rw [sumT_cons] at hs ⊢
    have h1 := bytes_len t (ok t (by simp)) (by omega)
    have h2 := ih (fun u hu => ok u (by simp [hu])) (by omega)
    simp; omega
  | @node d o c inner ts ib bs ho hc hi h ih1 ih2 =>
    rw [sumT_cons, sumT_append, sumT_cons] at hs ⊢
    have h1 := ih1 (fun u hu => ok u (by simp [hu])) (by omega)
    have h2 := ih2 (fun u hu => ok u (by simp [hu])) (by omega)
    have h3 := form_le10 ib.length (by omega)
    simp; omega

theorem Bal.lt {d : Nat} {ts : List Th} {bs : List Nat} (h : Bal d ts bs) (ok : ∀ t ∈ ts, t.ok) : ∀ x ∈ bs, x < 256 := by
  induction h with
  | nil => intro x hx; cases hx
  | @leaf d t ts bs hk h ih =>
    intro x hx
    rcases List.mem_append.1 hx with h | h
    · exact bytes_lt t (ok t (by simp)) x h
    · exact ih (fun u hu => ok u (by simp [hu])) x h
  | @node d o c inner ts ib bs ho hc hi h ih1 ih2 =>
    intro x hx
    rcases List.mem_append.1 hx with h | h
    · exact form_byte _ x h
    · rcases List.mem_append.1 h with h | h
      · exact ih1 (fun u hu => ok u (by simp [hu])) x h
      · exact ih2 (fun u hu => ok u (by simp [hu])) x h

/-- What a writer makes of a row. -/
def runW (s : WS) : List Th → WS
  | [] => s
  | t :: ts => runW (t.lay s) ts
theorem runW_append (s : WS) (a b : List Th) : runW s (a ++ b) = runW (runW s a) b := by
  induction a generalizing s with
  | nil => rfl
  | cons t a ih => exact ih _

theorem lay_leaf (t : Th) (s : WS) (hk : t.k < 7) : t.lay s = wLay s t.bytes := by unfold Th.lay; rw [if_neg (by omega), if_neg (by omega)]

theorem lay_fault (t : Th) (s : WS) (h : s.fault ≠ 0) : t.lay s = s := by
  unfold Th.lay wOpen wClose wLay
  simp [h]
theorem run_fault (s : WS) (ts : List Th) (h : s.fault ≠ 0) : runW s ts = s := by
  induction ts with
  | nil => rfl
  | cons t ts ih => rw [runW, lay_fault t s h]; exact ih

/-- With room enough: the bytes, and no fault; else no room. -/
theorem Bal.run {d : Nat} {ts : List Th} {bs : List Nat} (h : Bal d ts bs) : ∀ (room : Nat) (bs0 sts : List Nat), sts.length + d ≤ 16 → bs0.length ≤ room →
    (bs0.length + bs.length ≤ room → runW ⟨room, bs0, sts, 0⟩ ts = ⟨room, bs0 ++ bs, sts, 0⟩) ∧ (room < bs0.length + bs.length → runW ⟨room, bs0, sts, 0⟩ ts = failWS 13) := by
  induction h with
  | nil => intro room bs0 sts h1 h2; exact ⟨fun _ => by simp [runW], fun h => by simp at h; omega⟩
  | @leaf d t ts bs hk h ih =>
    intro room bs0 sts h1 h2
    rw [runW, lay_leaf t _ hk]
    unfold wLay
    simp only [ne_eq, not_true_eq_false, if_false, List.length_append]
    by_cases hr : bs0.length + t.bytes.length ≤ room
    · rw [if_pos hr]
      obtain ⟨i1, i2⟩ := ih room (bs0 ++ t.bytes) sts h1 (by simp; omega)
      simp only [List.length_append] at i1 i2
      exact ⟨fun hx => by rw [i1 (by omega), List.append_assoc], fun hx => i2 (by omega)⟩
    · rw [if_neg hr]
      exact ⟨fun hx => by omega, fun _ => run_fault _ _ (by simp [failWS])⟩
  | @node d o c inner ts ib bs ho hc hi h ih1 ih2 =>
    intro room bs0 sts h1 h2
    have e1 : o.lay ⟨room, bs0, sts, 0⟩ = ⟨room, bs0, sts ++ [bs0.length], 0⟩ := by
      unfold Th.lay wOpen
      rw [if_pos ho]
      simp only [ne_eq, not_true_eq_false, if_false]
      rw [if_neg (by omega)]
    rw [runW, e1, runW_append]
    obtain ⟨i1, i2⟩ := ih1 room bs0 (sts ++ [bs0.length]) (by simp; omega) h2
    simp only [List.length_append]
    by_cases hr : bs0.length + ib.length ≤ room
    · rw [i1 hr, runW]
      have e2 : c.lay ⟨room, bs0 ++ ib, sts ++ [bs0.length], 0⟩ = if bs0.length + ib.length + (form ib.length).length ≤ room then ⟨room, bs0 ++ form ib.length ++ ib, sts, 0⟩ else failWS 13 := by
        unfold Th.lay wClose
        rw [if_neg (by omega), if_pos hc]
        simp
      rw [e2]
      by_cases hr2 : bs0.length + ib.length + (form ib.length).length ≤ room
      · rw [if_pos hr2]
        obtain ⟨j1, j2⟩ := ih2 room (bs0 ++ form ib.length ++ ib) sts h1 (by simp; omega)
        simp only [List.length_append] at j1 j2
        exact ⟨fun hx => by rw [j1 (by omega)]; simp, fun hx => j2 (by omega)⟩
      · rw [if_neg hr2]
        exact ⟨fun hx => by omega, fun _ => run_fault _ _ (by simp [failWS])⟩
    · rw [i2 (by omega)]
      rw [run_fault _ _ (by simp [failWS])]
      exact ⟨fun hx => by omega, fun _ => rfl⟩

/-- A reader's way through a row. -/
inductive RWay : List Th → List Nat → List (List Nat) → List Nat → List (List Nat) → Prop
  | nil (l : List Nat) (bh : List (List Nat)) : RWay [] l bh l bh
  | cons {t : Th} {ts : List Th} {l l1 l2 : List Nat} {bh bh1 bh2 : List (List Nat)} (hs : RStep t l bh l1 bh1) (h : RWay ts l1 bh1 l2 bh2) : RWay (t :: ts) l bh l2 bh2
theorem RWay.append {a b : List Th} {l l1 l2 : List Nat} {bh bh1 bh2 : List (List Nat)} (h1 : RWay a l bh l1 bh1) (h2 : RWay b l1 bh1 l2 bh2) : RWay (a ++ b) l bh l2 bh2 := by
  induction h1 with
  | nil => exact h2
  | cons hs _ ih => exact .cons hs (ih h2)

theorem Bal.way {d : Nat} {ts : List Th} {bs : List Nat} (h : Bal d ts bs) : ∀ (rest : List Nat) (bh : List (List Nat)), bh.length + d ≤ 16 → RWay ts (bs ++ rest) bh rest bh := by
  induction h with
  | nil => intro rest bh _; exact .nil _ _
  | @leaf d t ts bs hk h ih =>
    intro rest bh hb
    exact .cons (l1 := bs ++ rest) (Or.inl ⟨hk, by simp, rfl⟩) (ih rest bh hb)
  | @node d o c inner ts ib bs ho hc hi h ih1 ih2 =>
    intro rest bh hb
    refine .cons (l1 := ib) (bh1 := bh ++ [bs ++ rest]) (Or.inr (Or.inl ⟨ho, by omega, bs ++ rest, by simp, rfl⟩)) ?_
    have i1 := ih1 [] (bh ++ [bs ++ rest]) (by simp; omega)
    rw [List.append_nil] at i1
    refine RWay.append i1 ?_
    exact .cons (Or.inr (Or.inr ⟨hc, rfl, rfl⟩)) (ih2 rest bh hb)

/-- A row that goes from the depth d to the depth 0, never below 0 and never above 16. -/
inductive Path : Nat → List Th → Prop
  | nil : Path 0 []
  | leaf {d : Nat} {t : Th} {ts : List Th} (hk : t.k < 7) (h : Path d ts) : Path d (t :: ts)
  | open {d : Nat} {t : Th} {ts : List Th} (hk : t.k = 7) (hd : d < 16) (h : Path (d + 1) ts) : Path d (t :: ts)
  | close {d : Nat} {t : Th} {ts : List Th} (hk : t.k = 8) (h : Path d ts) : Path (d + 1) (t :: ts)

theorem Path.bal (n : Nat) : ∀ (ts : List Th) (d : Nat), ts.length ≤ n → d ≤ 16 → Path d ts →
    (d = 0 → ∃ bs, Bal 16 ts bs) ∧ (0 < d → ∃ inner c rest ib, ts = inner ++ c :: rest ∧ c.k = 8 ∧ Bal (16 - d) inner ib ∧ Path (d - 1) rest) := by
  induction n with
  | zero =>
    intro ts d hn _ h
    cases ts with
    | nil => cases h; exact ⟨fun _ => ⟨[], .nil _⟩, fun h => by omega⟩
    | cons t ts => simp at hn
  | succ n ih =>
    intro ts d hn hd h
    cases h with
    | nil => exact ⟨fun _ => ⟨[], .nil _⟩, fun h => by omega⟩
    | @leaf _ t ts hk h =>
      simp at hn
      obtain ⟨i1, i2⟩ := ih ts d hn hd h
      refine ⟨fun h0 => ?_, fun h0 => ?_⟩
      · obtain ⟨bs, hb⟩ := i1 h0; exact ⟨_, .leaf hk hb⟩
      · obtain ⟨inner, c, rest, ib, rfl, h2, h3, h4⟩ := i2 h0
        exact ⟨t :: inner, c, rest, _, rfl, h2, .leaf hk h3, h4⟩
    | @«open» _ t ts hk hd' h =>
      simp at hn
      obtain ⟨inner, c, rest, ib, e, h2, h3, h4⟩ := (ih ts (d + 1) hn (by omega) h).2 (by omega)
      subst e
      simp at hn h4
      obtain ⟨i1, i2⟩ := ih rest d (by omega) hd h4
      have e16 : 16 - d = 16 - (d + 1) + 1 := by omega
      refine ⟨fun h0 => ?_, fun h0 => ?_⟩
      · subst h0
        obtain ⟨bs, hb⟩ := i1 rfl
        exact ⟨_, .node hk h2 h3 hb⟩
      · obtain ⟨inner2, c2, rest2, ib2, rfl, g2, g3, g4⟩ := i2 h0
        refine ⟨t :: (inner ++ c :: inner2), c2, rest2, form ib.length ++ (ib ++ ib2), by simp, g2, ?_, g4⟩
        rw [e16] at g3 ⊢
        exact .node hk h2 h3 g3
    | @close d t ts hk h =>
      exact ⟨fun h0 => by omega, fun _ => ⟨[], t, ts, [], rfl, hk, .nil _, h⟩⟩

/-- The Close that 'closed' adds. -/
def shutT : Th := ⟨8, 0, 0, none, 0, []⟩
/-- closed. -/
def shut : Nat → List Th → List Th
  | d, [] => List.replicate d shutT
  | d, t :: ts => if t.k = 7 then (if d = 16 then shut d ts else t :: shut (d + 1) ts) else if t.k = 8 then (if d = 0 then shut d ts else t :: shut (d - 1) ts) else t :: shut d ts

theorem shut_path (ts : List Th) : ∀ d, d ≤ 16 → Path d (shut d ts) := by
  induction ts with
  | nil =>
    intro d hd
    rw [shut]
    clear hd
    induction d with
    | zero => exact .nil
    | succ d ih => rw [List.replicate_succ]; exact .close rfl ih
  | cons t ts ih =>
    intro d hd
    rw [shut]
    have hk := t.k_lt
    split
    · split
      · exact ih d hd
      · exact .open (by assumption) (by omega) (ih _ (by omega))
    · split
      · split
        · exact ih d hd
        · obtain ⟨e, rfl⟩ : ∃ e, d = e + 1 := ⟨d - 1, by omega⟩
          exact .close (by assumption) (ih _ (by omega))
      · exact .leaf (by omega) (ih d hd)

theorem shut_bal (ts : List Th) : ∃ bs, Bal 16 (shut 0 ts) bs := (Path.bal _ _ 0 (Nat.le_refl _) (by omega) (shut_path ts 0 (by omega))).1 rfl
theorem shut_mem (ts : List Th) : ∀ d, ∀ t ∈ shut d ts, t ∈ ts ∨ t = shutT := by
  induction ts with
  | nil => intro d t h; rw [shut] at h; exact Or.inr (List.eq_of_mem_replicate h)
  | cons u ts ih =>
    intro d t h
    rw [shut] at h
    split at h
    · split at h
      · rcases ih _ t h with h | h
        · exact Or.inl (by simp [h])
        · exact Or.inr h
      · rcases List.mem_cons.1 h with h | h
        · exact Or.inl (by simp [h])
        · rcases ih _ t h with h | h
          · exact Or.inl (by simp [h])
          · exact Or.inr h
    · split at h
      · split at h
        · rcases ih _ t h with h | h
          · exact Or.inl (by simp [h])
          · exact Or.inr h
        · rcases List.mem_cons.1 h with h | h
          · exact Or.inl (by simp [h])
          · rcases ih _ t h with h | h
            · exact Or.inl (by simp [h])
            · exact Or.inr h
      · rcases List.mem_cons.1 h with h | h
        · exact Or.inl (by simp [h])
        · rcases ih _ t h with h | h
          · exact Or.inl (by simp [h])
          · exact Or.inr h
theorem shut_sum (ts : List Th) : ∀ d, d ≤ 16 → sumT (shut d ts) ≤ sumT ts + 10 * d + 10 * ts.length := by
  induction ts with
  | nil =>
    intro d _
    rw [shut]
    have : ∀ e, sumT (List.replicate e shutT) ≤ 10 * e := by
      intro e
      induction e with
      | zero => simp [sumT]
      | succ e ih => rw [List.replicate_succ, sumT_cons]; simp only [shutT, List.length_nil] at ih ⊢; omega
    have := this d
    simp; omega
  | cons t ts ih =>
    intro d hd
    rw [shut, sumT_cons, List.length_cons]
    split
    · split
      · have := ih d hd; omega
      · rw [sumT_cons]; have := ih (d + 1) (by omega); omega
    · split
      · split
        · have := ih d hd; omega
        · rw [sumT_cons]; have := ih (d - 1) (by omega); omega
      · rw [sumT_cons]; have := ih d hd; omega
end Go.Proofs.Ytiabhgkndejigab
