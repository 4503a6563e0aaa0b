/- Texts laid one behind the other: ThingW ThingR ThingS ThingT Tree RowT Shut Awake PS PW XC. -/
import Derived.Test.YtfhfkpgfnlmfhaaGreatDoorPkR
import Derived.Test.YtfhfkpgfnlmfhaaGreatDoorPkS
import Derived.BigQuiet
import Derived.Laws.BitsAllLaws
/- A Thing goes into a writer. -/
namespace Go.Proofs.YtfhfkpgfnlmfhaaGreatDoor
open Go.RowKit

def Th.k (t : Th) : Nat := rnd t.kind 9
theorem Th.k_lt (t : Th) : t.k < 9 := rnd_lt _ _ (by omega)
/-- What a thing that is no Open and no Close is laid down as. -/
def Th.bytes (t : Th) : List Nat :=
  match t.k with
  | 0 => [rnd t.i 256]
  | 1 => le t.n (1 + rnd t.i 8)
  | 2 => form t.n
  | 3 => form (fold t.i)
  | 4 => be8 (canon t.n)
  | 5 => t.p
  | 6 => form t.p.length ++ t.p
  | _ => []
def Th.lay (t : Th) (s : WS) : WS := if t.k = 7 then wOpen s else if t.k = 8 then wClose s else wLay s t.bytes

end Go.Proofs.YtfhfkpgfnlmfhaaGreatDoor

/- A Thing comes back out of a reader. -/
namespace Go.Proofs.YtfhfkpgfnlmfhaaGreatDoor
open Go.RowKit

theorem leV_le (n k : Nat) : leV (le n k) = n % 256 ^ k := by
  induction k with
  | zero => simp [le, leV, Nat.mod_one]
  | succ k ih =>
    rw [le, leV_append, ih, le_len, leV, leV, Nat.pow_succ, Nat.mod_mul]
    simp

/-- Behind a call that takes what stands there. -/
def Took (w : World) (b : Nat) (lv bv : Value) (rest : List Nat) (w' : World) : Prop := (∃ lv', Rd w' b lv' bv rest ∧ lv'.ownBlock = lv.ownBlock) ∧ Kept [b] w w'

end Go.Proofs.YtfhfkpgfnlmfhaaGreatDoor

/- A Thing comes back out of a reader: real numbers, raw bytes, texts. -/
namespace Go.Proofs.YtfhfkpgfnlmfhaaGreatDoor
open Go.RowKit

theorem canon_cases (n : Nat) : (nanB n = false ∧ canon n = n) ∨ (nanB n = true ∧ canon n = oneNaN) := by
  unfold canon
  cases h : nanB n
  · left; exact ⟨rfl, by simp⟩
  · right; exact ⟨rfl, by simp⟩
theorem canon_lt (n : Nat) (hn : n < 18446744073709551616) : canon n < 18446744073709551616 := by
  rcases canon_cases n with ⟨_, h⟩ | ⟨_, h⟩ <;> rw [h]
  · exact hn
  · decide
theorem canon_nan (n : Nat) : nanB (canon n) = false ∨ (nanB (canon n) = true ∧ canon n = oneNaN) := by
  rcases canon_cases n with ⟨h1, h⟩ | ⟨_, h⟩ <;> rw [h]
  · exact Or.inl h1
  · exact Or.inr ⟨nan_one, rfl⟩

theorem Took.drewN {w w' : World} {b : Nat} {lv bv : Value} {rest : List Nat} (h : Took w b lv bv rest w') (m : Nat) : Took w b lv bv rest (w'.drewN m) := by
  obtain ⟨⟨lv', h1, h2⟩, h3⟩ := h
  exact ⟨⟨lv', h1.kept ((Kept.refl [] _).drewN m) (by simp) (by simp), h2⟩, h3.drewN m⟩

end Go.Proofs.YtfhfkpgfnlmfhaaGreatDoor

/- A Thing comes back out of a reader, whatever it is: frames, too. -/
namespace Go.Proofs.YtfhfkpgfnlmfhaaGreatDoor
open Go.RowKit

/-- The reader goes from l with bh behind its frames to l' with bh'. -/
def RStep (t : Th) (l : List Nat) (bh : List (List Nat)) (l' : List Nat) (bh' : List (List Nat)) : Prop :=
  (t.k < 7 ∧ l = t.bytes ++ l' ∧ bh' = bh) ∨ (t.k = 7 ∧ bh.length < 16 ∧ ∃ rest, l = form l'.length ++ (l' ++ rest) ∧ bh' = bh ++ [rest]) ∨ (t.k = 8 ∧ l = [] ∧ bh = bh' ++ [l'])

/-- Behind a call on the reader. -/
def RPost (w : World) (b : Nat) (bv : Value) (D : Option Nat) (l' : List Nat) (bh' : List (List Nat)) (w' : World) : Prop :=
  ∃ lv' bv' hs', Rf w' b lv' bv' hs' l' bh' D ∧ Kept (rfoot b bv) w w' ∧ ∀ x, x ∈ rfoot b bv' → x ∈ rfoot b bv ∨ w.heap.size ≤ x

theorem RPost.from {w W w' : World} {b : Nat} {bv : Value} {D : Option Nat} {l' : List Nat} {bh' : List (List Nat)} (k : Kept [] w W) (h : RPost W b bv D l' bh' w') : RPost w b bv D l' bh' w' := by
  obtain ⟨lv', bv', hs', h1, h2, h3⟩ := h
  refine ⟨lv', bv', hs', h1, (k.mono (by simp)).trans h2 (fun x hx => Or.inl hx), fun x hx => ?_⟩
  rcases h3 x hx with h | h
  · exact Or.inl h
  · right; have := k.size; omega

theorem Took.post {w w' : World} {b : Nat} {lv bv : Value} {hs : List Value} {l rest : List Nat} {bh : List (List Nat)} {D : Option Nat} (h : Rf w b lv bv hs l bh D) (ht : Took w b lv bv rest w') : RPost w b bv D rest bh w' := by
  obtain ⟨⟨lv', h1, h2⟩, h3⟩ := ht
  exact ⟨lv', bv, hs, h.step h1 h2 h3, h3.mono (fun x hx => by simp at hx; subst hx; exact Or.inl (by simp [rfoot])), fun x hx => Or.inl hx⟩

end Go.Proofs.YtfhfkpgfnlmfhaaGreatDoor

/- Rows of things, purely: balanced rows; what a writer makes of them; a reader's way through it. -/
namespace Go.Proofs.YtfhfkpgfnlmfhaaGreatDoor
open Go.RowKit

/-- A balanced row, frames within frames, d deep at most, and its bytes. -/
inductive Bal : Nat → List Th → List Nat → Prop
  | nil (d : Nat) : Bal d [] []
  | leaf {d : Nat} {t : Th} {ts : List Th} {bs : List Nat} (hk : t.k < 7) (h : Bal d ts bs) : Bal d (t :: ts) (t.bytes ++ bs)
  | node {d : Nat} {o c : Th} {inner ts : List Th} {ib bs : List Nat} (ho : o.k = 7) (hc : c.k = 8) (hi : Bal d inner ib) (h : Bal (d + 1) ts bs) : Bal (d + 1) (o :: (inner ++ c :: ts)) (form ib.length ++ (ib ++ bs))

def sumT (ts : List Th) : Nat := (ts.map fun t => t.p.length + 10).sum
theorem sumT_cons (t : Th) (ts : List Th) : sumT (t :: ts) = t.p.length + 10 + sumT ts := by simp [sumT]
theorem sumT_append (a b : List Th) : sumT (a ++ b) = sumT a + sumT b := by simp [sumT]

theorem bytes_len (t : Th) (ok : t.ok) (hp : t.p.length < 18446744073709551616) : t.bytes.length ≤ t.p.length + 10 := by
  have hn := ok.n
  have hf := fold_lt t.i ok.i1 ok.i2
  have h1 := form_le10 t.n hn
  have h2 := form_le10 (fold t.i) hf
  have h3 := form_le10 t.p.length hp
  have h4 := le_len t.n (1 + rnd t.i 8)
  have h5 := rnd_lt t.i 8 (by omega)
  unfold Th.bytes
  split <;> simp [be8] <;> omega

theorem bytes_lt (t : Th) (ok : t.ok) : ∀ x ∈ t.bytes, x < 256 := by
  intro x hx
  unfold Th.bytes at hx
  split at hx
  · simp at hx; have := rnd_lt t.i 256 (by omega); omega
  · exact le_lt _ _ x hx
  · exact form_byte _ x hx
  · exact form_byte _ x hx
  · exact be8_lt _ (canon_lt t.n ok.n) x hx
  · exact ok.p x hx
  · rcases List.mem_append.1 hx with h | h
    · exact form_byte _ x h
    · exact ok.p x h
  · cases hx

theorem Bal.len {d : Nat} {ts : List Th} {bs : List Nat} (h : Bal d ts bs) (ok : ∀ t ∈ ts, t.ok) (hs : sumT ts < 18446744073709551616) : bs.length ≤ sumT ts := by
  induction h with
  | nil => simp [sumT]
  | @leaf d t ts bs hk h ih =>
    rw [sumT_cons] at hs ⊢
    have h1 := bytes_len t (ok t (by simp)) (by omega)
    have h2 := ih (fun u hu => ok u (by simp [hu])) (by omega)
    simp; omega
  | @node d o c inner ts ib bs ho hc hi h ih1 ih2 =>
    rw [sumT_cons, sumT_append, sumT_cons] at hs ⊢
    have h1 := ih1 (fun u hu => ok u (by simp [hu])) (by omega)
    have h2 := ih2 (fun u hu => ok u (by simp [hu])) (by omega)
    have h3 := form_le10 ib.length (by omega)
    simp; omega

theorem Bal.lt {d : Nat} {ts : List Th} {bs : List Nat} (h : Bal d ts bs) (ok : ∀ t ∈ ts, t.ok) : ∀ x ∈ bs, x < 256 := by
  induction h with
  | nil => intro x hx; cases hx
  | @leaf d t ts bs hk h ih =>
    intro x hx
    rcases List.mem_append.1 hx with h | h
    · exact bytes_lt t (ok t (by simp)) x h
    · exact ih (fun u hu => ok u (by simp [hu])) x h
  | @node d o c inner ts ib bs ho hc hi h ih1 ih2 =>
    intro x hx
    rcases List.mem_append.1 hx with h | h
    · exact form_byte _ x h
    · rcases List.mem_append.1 h with h | h
      · exact ih1 (fun u hu => ok u (by simp [hu])) x h
      · exact ih2 (fun u hu => ok u (by simp [hu])) x h

/-- What a writer makes of a row. -/
def runW (s : WS) : List Th → WS
  | [] => s
  | t :: ts => runW (t.lay s) ts
theorem runW_append (s : WS) (a b : List Th) : runW s (a ++ b) = runW (runW s a) b := by
  induction a generalizing s with
  | nil => rfl
  | cons t a ih => exact ih _

theorem lay_leaf (t : Th) (s : WS) (hk : t.k < 7) : t.lay s = wLay s t.bytes := by unfold Th.lay; rw [if_neg (by omega), if_neg (by omega)]

theorem lay_fault (t : Th) (s : WS) (h : s.fault ≠ 0) : t.lay s = s := by
  unfold Th.lay wOpen wClose wLay
  simp [h]
theorem run_fault (s : WS) (ts : List Th) (h : s.fault ≠ 0) : runW s ts = s := by
  induction ts with
  | nil => rfl
  | cons t ts ih => rw [runW, lay_fault t s h]; exact ih

/-- With room enough: the bytes, and no fault; else no room. -/
theorem Bal.run {d : Nat} {ts : List Th} {bs : List Nat} (h : Bal d ts bs) : ∀ (room : Nat) (bs0 sts : List Nat), sts.length + d ≤ 16 → bs0.length ≤ room →
    (bs0.length + bs.length ≤ room → runW ⟨room, bs0, sts, 0⟩ ts = ⟨room, bs0 ++ bs, sts, 0⟩) ∧ (room < bs0.length + bs.length → runW ⟨room, bs0, sts, 0⟩ ts = failWS 13) := by
  induction h with
  | nil => intro room bs0 sts h1 h2; exact ⟨fun _ => by simp [runW], fun h => by simp at h; omega⟩
  | @leaf d t ts bs hk h ih =>
    intro room bs0 sts h1 h2
    rw [runW, lay_leaf t _ hk]
    unfold wLay
    simp only [ne_eq, not_true_eq_false, if_false, List.length_append]
    by_cases hr : bs0.length + t.bytes.length ≤ room
    · rw [if_pos hr]
      obtain ⟨i1, i2⟩ := ih room (bs0 ++ t.bytes) sts h1 (by simp; omega)
      simp only [List.length_append] at i1 i2
      exact ⟨fun hx => by rw [i1 (by omega), List.append_assoc], fun hx => i2 (by omega)⟩
    · rw [if_neg hr]
      exact ⟨fun hx => by omega, fun _ => run_fault _ _ (by simp [failWS])⟩
  | @node d o c inner ts ib bs ho hc hi h ih1 ih2 =>
    intro room bs0 sts h1 h2
    have e1 : o.lay ⟨room, bs0, sts, 0⟩ = ⟨room, bs0, sts ++ [bs0.length], 0⟩ := by
      unfold Th.lay wOpen
      rw [if_pos ho]
      simp only [ne_eq, not_true_eq_false, if_false]
      rw [if_neg (by omega)]
    rw [runW, e1, runW_append]
    obtain ⟨i1, i2⟩ := ih1 room bs0 (sts ++ [bs0.length]) (by simp; omega) h2
    simp only [List.length_append]
    by_cases hr : bs0.length + ib.length ≤ room
    · rw [i1 hr, runW]
      have e2 : c.lay ⟨room, bs0 ++ ib, sts ++ [bs0.length], 0⟩ = if bs0.length + ib.length + (form ib.length).length ≤ room then ⟨room, bs0 ++ form ib.length ++ ib, sts, 0⟩ else failWS 13 := by
        unfold Th.lay wClose
        rw [if_neg (by omega), if_pos hc]
        simp
      rw [e2]
      by_cases hr2 : bs0.length + ib.length + (form ib.length).length ≤ room
      · rw [if_pos hr2]
        obtain ⟨j1, j2⟩ := ih2 room (bs0 ++ form ib.length ++ ib) sts h1 (by simp; omega)
        simp only [List.length_append] at j1 j2
        exact ⟨fun hx => by rw [j1 (by omega)]; simp, fun hx => j2 (by omega)⟩
      · rw [if_neg hr2]
        exact ⟨fun hx => by omega, fun _ => run_fault _ _ (by simp [failWS])⟩
    · rw [i2 (by omega)]
      rw [run_fault _ _ (by simp [failWS])]
      exact ⟨fun hx => by omega, fun _ => rfl⟩

/-- A reader's way through a row. -/
inductive RWay : List Th → List Nat → List (List Nat) → List Nat → List (List Nat) → Prop
  | nil (l : List Nat) (bh : List (List Nat)) : RWay [] l bh l bh
  | cons {t : Th} {ts : List Th} {l l1 l2 : List Nat} {bh bh1 bh2 : List (List Nat)} (hs : RStep t l bh l1 bh1) (h : RWay ts l1 bh1 l2 bh2) : RWay (t :: ts) l bh l2 bh2
theorem RWay.append {a b : List Th} {l l1 l2 : List Nat} {bh bh1 bh2 : List (List Nat)} (h1 : RWay a l bh l1 bh1) (h2 : RWay b l1 bh1 l2 bh2) : RWay (a ++ b) l bh l2 bh2 := by
  induction h1 with
  | nil => exact h2
  | cons hs _ ih => exact .cons hs (ih h2)

theorem Bal.way {d : Nat} {ts : List Th} {bs : List Nat} (h : Bal d ts bs) : ∀ (rest : List Nat) (bh : List (List Nat)), bh.length + d ≤ 16 → RWay ts (bs ++ rest) bh rest bh := by
  induction h with
  | nil => intro rest bh _; exact .nil _ _
  | @leaf d t ts bs hk h ih =>
    intro rest bh hb
    exact .cons (l1 := bs ++ rest) (Or.inl ⟨hk, by simp, rfl⟩) (ih rest bh hb)
  | @node d o c inner ts ib bs ho hc hi h ih1 ih2 =>
    intro rest bh hb
    refine .cons (l1 := ib) (bh1 := bh ++ [bs ++ rest]) (Or.inr (Or.inl ⟨ho, by omega, bs ++ rest, by simp, rfl⟩)) ?_
    have i1 := ih1 [] (bh ++ [bs ++ rest]) (by simp; omega)
    rw [List.append_nil] at i1
    refine RWay.append i1 ?_
    exact .cons (Or.inr (Or.inr ⟨hc, rfl, rfl⟩)) (ih2 rest bh hb)

/-- A row that goes from the depth d to the depth 0, never below 0 and never above 16. -/
inductive Path : Nat → List Th → Prop
  | nil : Path 0 []
  | leaf {d : Nat} {t : Th} {ts : List Th} (hk : t.k < 7) (h : Path d ts) : Path d (t :: ts)
  | open {d : Nat} {t : Th} {ts : List Th} (hk : t.k = 7) (hd : d < 16) (h : Path (d + 1) ts) : Path d (t :: ts)
  | close {d : Nat} {t : Th} {ts : List Th} (hk : t.k = 8) (h : Path d ts) : Path (d + 1) (t :: ts)

theorem Path.bal (n : Nat) : ∀ (ts : List Th) (d : Nat), ts.length ≤ n → d ≤ 16 → Path d ts →
    (d = 0 → ∃ bs, Bal 16 ts bs) ∧ (0 < d → ∃ inner c rest ib, ts = inner ++ c :: rest ∧ c.k = 8 ∧ Bal (16 - d) inner ib ∧ Path (d - 1) rest) := by
  induction n with
  | zero =>
    intro ts d hn _ h
    cases ts with
    | nil => cases h; exact ⟨fun _ => ⟨[], .nil _⟩, fun h => by omega⟩
    | cons t ts => simp at hn
  | succ n ih =>
    intro ts d hn hd h
    cases h with
    | nil => exact ⟨fun _ => ⟨[], .nil _⟩, fun h => by omega⟩
    | @leaf _ t ts hk h =>
      simp at hn
      obtain ⟨i1, i2⟩ := ih ts d hn hd h
      refine ⟨fun h0 => ?_, fun h0 => ?_⟩
      · obtain ⟨bs, hb⟩ := i1 h0; exact ⟨_, .leaf hk hb⟩
      · obtain ⟨inner, c, rest, ib, rfl, h2, h3, h4⟩ := i2 h0
        exact ⟨t :: inner, c, rest, _, rfl, h2, .leaf hk h3, h4⟩
    | @«open» _ t ts hk hd' h =>
      simp at hn
      obtain ⟨inner, c, rest, ib, e, h2, h3, h4⟩ := (ih ts (d + 1) hn (by omega) h).2 (by omega)
      subst e
      simp at hn h4
      obtain ⟨i1, i2⟩ := ih rest d (by omega) hd h4
      have e16 : 16 - d = 16 - (d + 1) + 1 := by omega
      refine ⟨fun h0 => ?_, fun h0 => ?_⟩
      · subst h0
        obtain ⟨bs, hb⟩ := i1 rfl
        exact ⟨_, .node hk h2 h3 hb⟩
      · obtain ⟨inner2, c2, rest2, ib2, rfl, g2, g3, g4⟩ := i2 h0
        refine ⟨t :: (inner ++ c :: inner2), c2, rest2, form ib.length ++ (ib ++ ib2), by simp, g2, ?_, g4⟩
        rw [e16] at g3 ⊢
        exact .node hk h2 h3 g3
    | @close d t ts hk h =>
      exact ⟨fun h0 => by omega, fun _ => ⟨[], t, ts, [], rfl, hk, .nil _, h⟩⟩

/-- The Close that 'closed' adds. -/
def shutT : Th := ⟨8, 0, 0, none, 0, []⟩
/-- closed. -/
def shut : Nat → List Th → List Th
  | d, [] => List.replicate d shutT
  | d, t :: ts => if t.k = 7 then (if d = 16 then shut d ts else t :: shut (d + 1) ts) else if t.k = 8 then (if d = 0 then shut d ts else t :: shut (d - 1) ts) else t :: shut d ts

theorem shut_path (ts : List Th) : ∀ d, d ≤ 16 → Path d (shut d ts) := by
  induction ts with
  | nil =>
    intro d hd
    rw [shut]
    clear hd
    induction d with
    | zero => exact .nil
    | succ d ih => rw [List.replicate_succ]; exact .close rfl ih
  | cons t ts ih =>
    intro d hd
    rw [shut]
    have hk := t.k_lt
    split
    · split
      · exact ih d hd
      · exact .open (by assumption) (by omega) (ih _ (by omega))
    · split
      · split
        · exact ih d hd
        · obtain ⟨e, rfl⟩ : ∃ e, d = e + 1 := ⟨d - 1, by omega⟩
          exact .close (by assumption) (ih _ (by omega))
      · exact .leaf (by omega) (ih d hd)

theorem shut_bal (ts : List Th) : ∃ bs, Bal 16 (shut 0 ts) bs := (Path.bal _ _ 0 (Nat.le_refl _) (by omega) (shut_path ts 0 (by omega))).1 rfl
theorem shut_mem (ts : List Th) : ∀ d, ∀ t ∈ shut d ts, t ∈ ts ∨ t = shutT := by
  induction ts with
  | nil => intro d t h; rw [shut] at h; exact Or.inr (List.eq_of_mem_replicate h)
  | cons u ts ih =>
    intro d t h
    rw [shut] at h
    split at h
    · split at h
      · rcases ih _ t h with h | h
        · exact Or.inl (by simp [h])
        · exact Or.inr h
      · rcases List.mem_cons.1 h with h | h
        · exact Or.inl (by simp [h])
        · rcases ih _ t h with h | h
          · exact Or.inl (by simp [h])
          · exact Or.inr h
    · split at h
      · split at h
        · rcases ih _ t h with h | h
          · exact Or.inl (by simp [h])
          · exact Or.inr h
        · rcases List.mem_cons.1 h with h | h
          · exact Or.inl (by simp [h])
          · rcases ih _ t h with h | h
            · exact Or.inl (by simp [h])
            · exact Or.inr h
      · rcases List.mem_cons.1 h with h | h
        · exact Or.inl (by simp [h])
        · rcases ih _ t h with h | h
          · exact Or.inl (by simp [h])
          · exact Or.inr h
theorem shut_sum (ts : List Th) : ∀ d, d ≤ 16 → sumT (shut d ts) ≤ sumT ts + 10 * d + 10 * ts.length := by
  induction ts with
  | nil =>
    intro d _
    rw [shut]
    have : ∀ e, sumT (List.replicate e shutT) ≤ 10 * e := by
      intro e
      induction e with
      | zero => simp [sumT]
      | succ e ih => rw [List.replicate_succ, sumT_cons]; simp only [shutT, List.length_nil] at ih ⊢; omega
    have := this d
    simp; omega
  | cons t ts ih =>
    intro d hd
    rw [shut, sumT_cons, List.length_cons]
    split
    · split
      · have := ih d hd; omega
      · rw [sumT_cons]; have := ih (d + 1) (by omega); omega
    · split
      · split
        · have := ih d hd; omega
        · rw [sumT_cons]; have := ih (d - 1) (by omega); omega
      · rw [sumT_cons]; have := ih d hd; omega
end Go.Proofs.YtfhfkpgfnlmfhaaGreatDoor

/- A slice of things. -/
namespace Go.Proofs.YtfhfkpgfnlmfhaaGreatDoor
open Go.RowKit

/-- The slice v holds the things ts. -/
def RowT (w : World) (v : Value) (ts : List Th) : Prop :=
  (∃ a, v = .slice a 0 0 ∧ ts = []) ∨
  ∃ b off cap, v = .slice (some ⟨b, off, none⟩) ts.length cap ∧ ts.length ≤ cap ∧ cap ≤ maxLen ∧ b < w.heap.size ∧ ∀ j (h : j < ts.length),
    w.cell? ⟨b, off + j * 4, none⟩ = some (.int .i64 ts[j].kind) ∧ w.cell? ⟨b, off + j * 4 + 1, none⟩ = some (.int .u64 (ts[j].n : Int)) ∧ w.cell? ⟨b, off + j * 4 + 2, none⟩ = some (.int .i64 ts[j].i) ∧ w.cell? ⟨b, off + j * 4 + 3, none⟩ = some (.slice ts[j].pa ts[j].p.length ts[j].pc)

theorem RowT.kept {F : List Nat} {w w' : World} {v : Value} {ts : List Th} (h : RowT w v ts) (k : Kept F w w') (hn : ∀ x, v.ownBlock = some x → x ∉ F) : RowT w' v ts := by
  rcases h with h | ⟨b, off, cap, rfl, h1, h2, h3, h4⟩
  · exact Or.inl h
  · refine Or.inr ⟨b, off, cap, rfl, h1, h2, Nat.lt_of_lt_of_le h3 k.size, fun j hj => ?_⟩
    obtain ⟨a0, a1, a2, a3⟩ := h4 j hj
    have hb := hn b rfl
    exact ⟨(k.cell (p := ⟨b, _, none⟩) h3 hb).trans a0, (k.cell (p := ⟨b, _, none⟩) h3 hb).trans a1, (k.cell (p := ⟨b, _, none⟩) h3 hb).trans a2, (k.cell (p := ⟨b, _, none⟩) h3 hb).trans a3⟩

theorem RowT.len {w : World} {v : Value} {ts : List Th} (h : RowT w v ts) : ∃ a cap, v = .slice a ts.length cap := by
  rcases h with ⟨a, rfl, rfl⟩ | ⟨b, off, cap, rfl, _⟩
  · exact ⟨a, 0, rfl⟩
  · exact ⟨_, _, rfl⟩

def sum1 (ts : List Th) : Nat := (ts.map fun t => 1 + t.p.length).sum
theorem sum1_take (ts : List Th) (k : Nat) (h : k < ts.length) : sum1 (ts.take (k + 1)) = sum1 (ts.take k) + 1 + ts[k].p.length := by
  unfold sum1; rw [List.take_succ_eq_append_getElem h, List.map_append, List.sum_append]; simp; omega

/-- What is known of the things of a row. -/
def AllT (w : World) (ts : List Th) : Prop := ∀ t ∈ ts, t.ok ∧ Wide w t.pv t.p
theorem AllT.kept {w w' : World} {ts : List Th} (h : AllT w ts) (k : Kept [] w w') : AllT w' ts := fun t ht => ⟨(h t ht).1, (h t ht).2.kept k⟩

theorem runW_take (s : WS) (ts : List Th) (k : Nat) (h : k < ts.length) : runW s (ts.take (k + 1)) = ts[k].lay (runW s (ts.take k)) := by
  rw [List.take_succ_eq_append_getElem h, runW_append]; rfl

/-- What holds of every state of a writer. -/
def WInv (s : WS) (R : Nat) : Prop := (∀ x ∈ s.sts, x ≤ s.bs.length) ∧ s.bs.length ≤ s.room ∧ s.room ≤ R ∧ s.fault < 1000
theorem WInv.new (room : Nat) : WInv (newWS room) room := ⟨by simp [newWS], by simp [newWS], by simp [newWS], by simp [newWS]⟩
theorem WInv.fail (c R : Nat) (hc : c < 1000) : WInv (failWS c) R := ⟨by simp [failWS], by simp [failWS], by simp [failWS], by simpa [failWS] using hc⟩
theorem WInv.lay {s : WS} {R : Nat} (h : WInv s R) (t : Th) : WInv (t.lay s) R := by
  obtain ⟨h1, h2, h3, h4⟩ := h
  unfold Th.lay
  split
  · unfold wOpen
    split
    · exact ⟨h1, h2, h3, h4⟩
    · split
      · exact WInv.fail _ _ (by omega)
      · refine ⟨fun x hx => ?_, h2, h3, h4⟩
        simp at hx
        rcases hx with h | h
        · exact h1 x h
        · simp; omega
  · split
    · unfold wClose
      split
      · exact ⟨h1, h2, h3, h4⟩
      · split
        · exact WInv.fail _ _ (by omega)
        · rename_i st hst
          split
          · rename_i hr
            have hstm : st ∈ s.sts := List.mem_of_getLast? hst
            have := h1 st hstm
            refine ⟨fun x hx => ?_, ?_, h3, h4⟩
            · have := h1 x ((List.dropLast_sublist _).subset hx)
              simp; omega
            · simp; omega
          · exact WInv.fail _ _ (by omega)
    · unfold wLay
      split
      · exact ⟨h1, h2, h3, h4⟩
      · split
        · rename_i hr
          refine ⟨fun x hx => ?_, by simpa using hr, h3, h4⟩
          have := h1 x hx
          simp; omega
        · exact WInv.fail _ _ (by omega)
theorem WInv.run {s : WS} {R : Nat} (h : WInv s R) (ts : List Th) : WInv (runW s ts) R := by
  induction ts generalizing s with
  | nil => exact h
  | cons t ts ih => exact ih (h.lay t)

end Go.Proofs.YtfhfkpgfnlmfhaaGreatDoor

/- closed. -/
namespace Go.Proofs.YtfhfkpgfnlmfhaaGreatDoor
open Go.RowKit

def Th.cells (t : Th) : List Value := [.int .i64 t.kind, .int .u64 (t.n : Int), .int .i64 t.i, .slice t.pa t.p.length t.pc]
def cellsT (ts : List Th) : List Value := ts.flatMap Th.cells
theorem cellsT_append (a b : List Th) : cellsT (a ++ b) = cellsT a ++ cellsT b := by simp [cellsT]
theorem cells_one (t : Th) : ∀ u ∈ t.cells, u.oneCell' = true := by
  intro u hu; simp [Th.cells] at hu; rcases hu with rfl | rfl | rfl | rfl <;> rfl
end Go.Proofs.YtfhfkpgfnlmfhaaGreatDoor

/- awake; a reader that was just made; a row that the call owns. -/
namespace Go.Proofs.YtfhfkpgfnlmfhaaGreatDoor
open Go.RowKit

theorem cellsT_get (ts : List Th) : ∀ (j c : Nat) (h : j < ts.length), c < 4 → (cellsT ts)[j * 4 + c]? = ts[j].cells[c]? := by
  induction ts with
  | nil => intro j c h; simp at h
  | cons t ts ih =>
    intro j c h hc
    have e : cellsT (t :: ts) = t.cells ++ cellsT ts := by simp [cellsT]
    have hl : t.cells.length = 4 := rfl
    rw [e]
    cases j with
    | zero => rw [List.getElem?_append_left (by omega)]; simp
    | succ j =>
      rw [List.getElem?_append_right (by omega), hl, show (j + 1) * 4 + c - 4 = j * 4 + c by omega, ih j c (by simpa using h) hc]
      simp

/-- A reader that was just made. -/
theorem Rf.new {w : World} {b : Nat} {lv : Value} {l : List Nat} (h : Rd w b lv nilS l) : Rf w b lv nilS [] l [] lv.ownBlock := by
  refine ⟨h, ⟨rfl, Or.inl ⟨rfl, rfl⟩⟩, rfl, by simp, by simp, fun k hk => hk, by simp, ?_, ?_, ?_, ?_, by simp⟩
  · exact h.n1
  · intro k hk; simp [nilS, Value.ownBlock]
  · intro k hk; exact (rd_lt h).2 k hk
  · simp [nilS, Value.ownBlock]

theorem sees_new (w : World) (xs : List Nat) (t : TypeId) (hx : xs.length ≤ 1000) : Sees (w.alloc (.cells (u8s xs).toArray t)) (.slice (some ⟨w.heap.size, 0, none⟩) xs.length xs.length) xs := by
  refine Or.inr ⟨w.heap.size, 0, xs.length, rfl, Nat.le_refl _, by unfold maxLen; omega, by simp, fun j hj => ?_⟩
  rw [(Blk.new w (u8s xs).toArray t).cell (0 + j)]
  simp [u8s, List.getElem?_eq_getElem hj]

/-- A reader of the call's own. -/
def ROwn (w : World) (b : Nat) (l : List Nat) (bh : List (List Nat)) (w' : World) : Prop := ∃ lv bv hs D, Rf w' b lv bv hs l bh D ∧ Kept [] w w' ∧ ∀ x, x ∈ D.toList ++ rfoot b bv → w.heap.size ≤ x
theorem ROwn.new {w w' : World} {b : Nat} {lv : Value} {l : List Nat} (hb : w.heap.size ≤ b) (h : Rd w' b lv nilS l) (hl : ∀ k, lv.ownBlock = some k → w.heap.size ≤ k) (k : Kept [] w w') : ROwn w b l [] w' :=
  ⟨lv, nilS, [], lv.ownBlock, Rf.new h, k, fun x hx => by
    simp only [rfoot, nilS, Value.ownBlock, List.mem_append, List.mem_cons, Option.mem_toList, Option.toList_none, List.not_mem_nil, or_false] at hx
    rcases hx with hx | rfl
    · exact hl x hx
    · exact hb⟩
theorem ROwn.go {w W w' : World} {b : Nat} {lv bv : Value} {hs : List Value} {l l' : List Nat} {bh bh' : List (List Nat)} {D : Option Nat} (h : Rf W b lv bv hs l bh D ∧ Kept [] w W ∧ ∀ x, x ∈ D.toList ++ rfoot b bv → w.heap.size ≤ x) (hp : RPost W b bv D l' bh' w') : ROwn w b l' bh' w' := by
  obtain ⟨lv', bv', hs', g1, g2, g3⟩ := hp
  refine ⟨lv', bv', hs', D, g1, h.2.1.trans g2 (fun x hx => Or.inr (h.2.2 x (by simp only [List.mem_append]; exact Or.inr hx))), fun x hx => ?_⟩
  simp only [List.mem_append] at hx
  rcases hx with hx | hx
  · exact h.2.2 x (by simp only [List.mem_append]; exact Or.inl hx)
  · rcases g3 x hx with h' | h'
    · exact h.2.2 x (by simp only [List.mem_append]; exact Or.inr h')
    · have := h.2.1.size; omega
theorem ROwn.took {w W w' : World} {b : Nat} {lv bv : Value} {hs : List Value} {l l' : List Nat} {bh : List (List Nat)} {D : Option Nat} (h : Rf W b lv bv hs l bh D ∧ Kept [] w W ∧ ∀ x, x ∈ D.toList ++ rfoot b bv → w.heap.size ≤ x) (hr : ∃ lv', Rd w' b lv' bv l' ∧ lv'.ownBlock = lv.ownBlock) (hk : Kept [b] W w') : ROwn w b l' bh w' :=
  ROwn.go h (Took.post h.1 ⟨hr, hk⟩)

end Go.Proofs.YtfhfkpgfnlmfhaaGreatDoor

/- A reader's state as a function of the calls: every call, whatever its state. -/
namespace Go.Proofs.YtfhfkpgfnlmfhaaGreatDoor
open Go.RowKit

/-- A reader in plain words: its fault (0: none), what is left, what stands behind each frame that it is in (the outermost first). -/
structure RS where
  fault : Nat
  left : List Nat
  behind : List (List Nat)

def rF (c : Nat) : RS := ⟨c, [], []⟩
def rByte (s : RS) : RS × Nat := if s.fault ≠ 0 then (s, 0) else match s.left with
  | [] => (rF 10, 0)
  | x :: l => (⟨0, l, s.behind⟩, x)
def rFixed (s : RS) (size : Int) : RS × Nat := if s.fault ≠ 0 then (s, 0) else if size < 1 ∨ 8 < size then (rF 2, 0) else if (s.left.length : Int) < size then (rF 10, 0) else (⟨0, s.left.drop size.toNat, s.behind⟩, leV (s.left.take size.toNat))
def rNum (s : RS) : RS × Nat := if s.fault ≠ 0 then (s, 0) else match readNum 0 0 s.left with
  | .inl c => (rF c, 0)
  | .inr (n, r) => (⟨0, r, s.behind⟩, n)
def rInt (s : RS) : RS × Int := ((rNum s).1, unfoldN (rNum s).2)
def rReal (s : RS) : RS × Nat := if s.fault ≠ 0 then (s, 0) else if s.left.length < 8 then (rF 10, 0) else if nanB (of8 (s.left.take 8)) = true ∧ of8 (s.left.take 8) ≠ oneNaN then (rF 11, 0) else (⟨0, s.left.drop 8, s.behind⟩, of8 (s.left.take 8))
def rRaw (s : RS) (n : Int) : RS × List Nat := if s.fault ≠ 0 then (s, []) else if n < 0 then (rF 2, []) else if (s.left.length : Int) < n then (rF 10, []) else (⟨0, s.left.drop n.toNat, s.behind⟩, s.left.take n.toNat)
def rText (s : RS) (most : Int) : RS × List Nat := if s.fault ≠ 0 then (s, []) else match readNum 0 0 s.left with
  | .inl c => (rF c, [])
  | .inr (n, r) => if most.toNat < n then (rF 11, []) else if r.length < n then (rF 10, []) else (⟨0, r.drop n, s.behind⟩, r.take n)
def rEnter (s : RS) : RS × Nat := if s.fault ≠ 0 then (s, 0) else if s.behind.length = 16 then (rF 11, 0) else match readNum 0 0 s.left with
  | .inl c => (rF c, 0)
  | .inr (n, r) => if r.length < n then (rF 10, 0) else (⟨0, r.take n, s.behind ++ [r.drop n]⟩, n)
def rLeave (s : RS) : RS := if s.fault ≠ 0 then s else if s.behind = [] then rF 2 else if s.left ≠ [] then rF 12 else ⟨0, s.behind.getD (s.behind.length - 1) [], s.behind.dropLast⟩
def rRest (s : RS) : Nat := if s.fault ≠ 0 then 0 else s.left.length
def rDone (s : RS) : Nat := if s.fault ≠ 0 then s.fault else if s.left = [] ∧ s.behind = [] then 0 else 12

theorem readNum_code (l : List Nat) : ∀ (k acc : Nat) {c : Nat}, readNum k acc l = .inl c → c = 10 ∨ c = 11 := by
  induction l with
  | nil => intro k acc c h; simp [readNum] at h; exact Or.inl h.symm
  | cons x l ih =>
    intro k acc c h
    rw [readNum] at h
    split at h
    · cases h; exact Or.inr rfl
    · split at h
      · split at h
        · cases h; exact Or.inr rfl
        · cases h
      · exact ih _ _ h

/-- In w there is a reader at block b in the state s; F: its blocks. -/
def Rs (w : World) (b : Nat) (F : List Nat) (s : RS) : Prop :=
  (s.fault ≠ 0 ∧ RdF w b s.fault ∧ s.left = [] ∧ s.behind = [] ∧ F = [b]) ∨
  (s.fault = 0 ∧ (∀ x ∈ s.left, x < 256) ∧ (∀ r ∈ s.behind, ∀ x ∈ r, x < 256) ∧ ∃ lv bv hs D, Rf w b lv bv hs s.left s.behind D ∧ F = D.toList ++ rfoot b bv)
/-- Behind a call on the reader. -/
def RsP (w : World) (b : Nat) (F : List Nat) (s' : RS) (w' : World) : Prop := ∃ F', Rs w' b F' s' ∧ Kept F w w' ∧ ∀ x ∈ F', x ∈ F ∨ w.heap.size ≤ x

theorem Rs.lt {w : World} {b : Nat} {F : List Nat} {s : RS} (h : Rs w b F s) : ∀ x ∈ F, x < w.heap.size := by
  rcases h with ⟨_, h2, _, _, rfl⟩ | ⟨_, _, _, lv, bv, hs, D, h2, rfl⟩
  · intro x hx; simp at hx; subst hx; exact Blk.lt h2
  · exact h2.lts
theorem Rs.mem {w : World} {b : Nat} {F : List Nat} {s : RS} (h : Rs w b F s) : b ∈ F := by
  rcases h with ⟨_, h2, _, _, rfl⟩ | ⟨_, _, _, lv, bv, hs, D, h2, rfl⟩
  · simp
  · simp [rfoot]
theorem Rs.kept {G : List Nat} {w w' : World} {b : Nat} {F : List Nat} {s : RS} (h : Rs w b F s) (k : Kept G w w') (hF : ∀ x ∈ F, x ∉ G) : Rs w' b F s := by
  rcases h with ⟨h1, h2, h3, h4, rfl⟩ | ⟨h1, h3, h4, lv, bv, hs, D, h2, rfl⟩
  · exact Or.inl ⟨h1, Blk.kept h2 k (hF b (by simp)), h3, h4, rfl⟩
  · exact Or.inr ⟨h1, h3, h4, lv, bv, hs, D, h2.kept k hF, rfl⟩
theorem RsP.from {w W w' : World} {b : Nat} {F : List Nat} {s' : RS} (k : Kept [] w W) (h : RsP W b F s' w') : RsP w b F s' w' := by
  obtain ⟨F', h1, h2, h3⟩ := h
  refine ⟨F', h1, (k.mono (by simp)).trans h2 (fun x hx => Or.inl hx), fun x hx => ?_⟩
  rcases h3 x hx with h | h
  · exact Or.inl h
  · right; have := k.size; omega
theorem RsP.behind {w W w' : World} {b : Nat} {F : List Nat} {s' : RS} (h : RsP w b F s' W) (k : Kept [] W w') : RsP w b F s' w' := by
  obtain ⟨F', h1, h2, h3⟩ := h
  exact ⟨F', h1.kept k (by simp), h2.trans k (by simp), h3⟩
theorem RsP.same {w w' : World} {b : Nat} {F : List Nat} {s : RS} (h : Rs w b F s) (k : Kept [] w w') : RsP w b F s w' := ⟨F, h.kept k (by simp), k.mono (by simp), fun _ hx => Or.inl hx⟩
theorem RsP.err {w w' : World} {b c : Nat} {F : List Nat} (hb : b ∈ F) (hc : c ≠ 0) (h : RdF w' b c) (k : Kept [b] w w') : RsP w b F (rF c) w' :=
  ⟨[b], Or.inl ⟨hc, h, rfl, rfl, rfl⟩, k.mono (fun x hx => Or.inl (by simp at hx; subst hx; exact hb)), fun x hx => Or.inl (by simp at hx; subst hx; exact hb)⟩
theorem RsP.ok {w w' : World} {b : Nat} {lv bv : Value} {hs : List Value} {l l' : List Nat} {bh bh' : List (List Nat)} {D : Option Nat} (_h : Rf w b lv bv hs l bh D) (hp : RPost w b bv D l' bh' w') (h1 : ∀ x ∈ l', x < 256) (h2 : ∀ r ∈ bh', ∀ x ∈ r, x < 256) : RsP w b (D.toList ++ rfoot b bv) ⟨0, l', bh'⟩ w' := by
  obtain ⟨lv', bv', hs', g1, g2, g3⟩ := hp
  refine ⟨_, Or.inr ⟨rfl, h1, h2, lv', bv', hs', D, g1, rfl⟩, g2.mono (fun x hx => Or.inl (by simp [hx])), fun x hx => ?_⟩
  simp only [List.mem_append] at hx ⊢
  rcases hx with hx | hx
  · exact Or.inl (Or.inl hx)
  · rcases g3 x hx with h' | h'
    · exact Or.inl (Or.inr h')
    · exact Or.inr h'
theorem RsP.took {w w' : World} {b : Nat} {lv bv : Value} {hs : List Value} {l l' : List Nat} {bh : List (List Nat)} {D : Option Nat} (h : Rf w b lv bv hs l bh D) (hr : ∃ lv', Rd w' b lv' bv l' ∧ lv'.ownBlock = lv.ownBlock) (hk : Kept [b] w w') (h1 : ∀ x ∈ l', x < 256) (h2 : ∀ r ∈ bh, ∀ x ∈ r, x < 256) : RsP w b (D.toList ++ rfoot b bv) ⟨0, l', bh⟩ w' :=
  RsP.ok h (Took.post h ⟨hr, hk⟩) h1 h2

/-- Two objects whose blocks are apart stay apart. -/
theorem apart_go {w : World} {F F' G : List Nat} (hG : ∀ x ∈ G, x < w.heap.size) (hF : ∀ x ∈ F', x ∈ F ∨ w.heap.size ≤ x) (h : ∀ x ∈ F, x ∉ G) : ∀ x ∈ F', x ∉ G := by
  intro x hx hg
  rcases hF x hx with h1 | h1
  · exact h x h1 hg
  · have := hG x hg; omega

theorem rbyte_s {w : World} {b : Nat} {F : List Nat} {s : RS} (h : Rs w b F s) :
    Calls Tryz.prog 112 #[.pointer (some ⟨b, 0, none⟩)] w fun e w' => e = .returned (.int .i64 ((rByte s).2 : Nat)) ∧ RsP w b F (rByte s).1 w' := by
  have h0 := h
  rcases h with ⟨h1, h2, _, _, rfl⟩ | ⟨h1, h3, h4, lv, bv, hs, D, h2, rfl⟩
  · refine (rbyte_fault h2 h1).mono ?_
    rintro e w' ⟨rfl, hk⟩
    rw [rByte, if_pos h1]
    exact ⟨rfl, RsP.same h0 hk⟩
  · obtain ⟨fa, l, bh⟩ := s
    simp only at h1 h2 h3 h4
    subst h1
    cases l with
    | nil =>
      refine (rbyte_err h2.rd (by simp)).mono ?_
      rintro e w' ⟨rfl, hr, hk⟩
      exact ⟨rfl, RsP.err h0.mem (by omega) hr hk⟩
    | cons x l =>
      refine (rbyte_ok h2.rd (h3 x (by simp))).mono ?_
      rintro e w' ⟨rfl, hr, hk⟩
      exact ⟨rfl, RsP.took h2 hr hk (fun y hy => h3 y (by simp [hy])) h4⟩

theorem rfixed_s {w : World} {b : Nat} {F : List Nat} {s : RS} (h : Rs w b F s) (size : Int) :
    Calls Tryz.prog 14 #[.pointer (some ⟨b, 0, none⟩), .int .i64 size] w fun e w' => e = .returned (.int .u64 ((rFixed s size).2 : Nat)) ∧ RsP w b F (rFixed s size).1 w' := by
  have h0 := h
  rcases h with ⟨h1, h2, _, _, rfl⟩ | ⟨h1, h3, h4, lv, bv, hs, D, h2, rfl⟩
  · refine (rfixed_fault h2 h1 size).mono ?_
    rintro e w' ⟨rfl, hk⟩
    rw [rFixed, if_pos h1]
    exact ⟨rfl, RsP.same h0 hk⟩
  · rw [rFixed, if_neg (by simpa using h1)]
    by_cases ha : size < 1 ∨ 8 < size
    · rw [if_pos ha]
      refine (rfixed_err h2.rd h3 size 2 (Or.inl ⟨ha, rfl⟩)).mono ?_
      rintro e w' ⟨rfl, hr, hk⟩
      exact ⟨rfl, RsP.err h0.mem (by omega) hr hk⟩
    · rw [if_neg ha]
      by_cases hl : (s.left.length : Int) < size
      · rw [if_pos hl]
        refine (rfixed_err h2.rd h3 size 10 (Or.inr ⟨by omega, by omega, hl, rfl⟩)).mono ?_
        rintro e w' ⟨rfl, hr, hk⟩
        exact ⟨rfl, RsP.err h0.mem (by omega) hr hk⟩
      · rw [if_neg hl]
        obtain ⟨n, rfl⟩ := Int.eq_ofNat_of_zero_le (show 0 ≤ size by omega)
        refine (rfixed_ok h2.rd h3 n (by omega) (by omega) (by omega)).mono ?_
        rintro e w' ⟨rfl, hr, hk⟩
        exact ⟨rfl, RsP.took h2 hr hk (fun y hy => h3 y (List.mem_of_mem_drop hy)) h4⟩

theorem rnum_s {w : World} {b : Nat} {F : List Nat} {s : RS} (h : Rs w b F s) :
    Calls Tryz.prog 113 #[.pointer (some ⟨b, 0, none⟩)] w fun e w' => e = .returned (.int .u64 ((rNum s).2 : Nat)) ∧ RsP w b F (rNum s).1 w' := by
  have h0 := h
  rcases h with ⟨h1, h2, _, _, rfl⟩ | ⟨h1, h3, h4, lv, bv, hs, D, h2, rfl⟩
  · refine (rnum_fault h2 h1).mono ?_
    rintro e w' ⟨rfl, hk⟩
    rw [rNum, if_pos h1]
    exact ⟨rfl, RsP.same h0 hk⟩
  · rw [rNum, if_neg (by simpa using h1)]
    cases hr : readNum 0 0 s.left with
    | inl c =>
      refine (rnum_err h2.rd h3 hr).mono ?_
      rintro e w' ⟨rfl, g1, hk⟩
      exact ⟨rfl, RsP.err h0.mem (by rcases readNum_code _ _ _ hr with rfl | rfl <;> omega) g1 hk⟩
    | inr p =>
      obtain ⟨n, r⟩ := p
      refine (rnum_ok h2.rd h3 hr).mono ?_
      rintro e w' ⟨rfl, g1, hk⟩
      exact ⟨rfl, RsP.took h2 g1 hk (readNum_lt _ 0 0 (by omega) (by simp) h3 hr).2.1 h4⟩

theorem eight (l : List Nat) (h : ¬ l.length < 8) : ∃ x0 x1 x2 x3 x4 x5 x6 x7 rest, l = x0 :: x1 :: x2 :: x3 :: x4 :: x5 :: x6 :: x7 :: rest := by
  rcases l with _ | ⟨x0, _ | ⟨x1, _ | ⟨x2, _ | ⟨x3, _ | ⟨x4, _ | ⟨x5, _ | ⟨x6, _ | ⟨x7, rest⟩⟩⟩⟩⟩⟩⟩⟩
  all_goals first | exact ⟨_, _, _, _, _, _, _, _, _, rfl⟩ | (simp at h)

/-- Bytes that a call answers: new memory. -/
def NewB (w : World) (bs : List Nat) (e : Ending) (w' : World) : Prop := ∃ a cap, e = .returned (.slice a bs.length cap) ∧ w'.ownsRow w.heap.size 5 1 (.slice a bs.length cap) bs.length (u8s bs)
theorem NewB.nil (w w' : World) : NewB w [] (.returned (.slice none 0 0)) w' := ⟨none, 0, rfl, rfl, Or.inl ⟨rfl, rfl⟩⟩

theorem rtext_s {w : World} {b : Nat} {F : List Nat} {s : RS} (h : Rs w b F s) (most : Int) (hm9 : most ≤ 9223372036854775807) :
    Calls Tryz.prog 114 #[.pointer (some ⟨b, 0, none⟩), .int .i64 most] w fun e w' => NewB w (rText s most).2 e w' ∧ RsP w b F (rText s most).1 w' := by
  have h0 := h
  rcases h with ⟨h1, h2, _, _, rfl⟩ | ⟨h1, h3, h4, lv, bv, hs, D, h2, rfl⟩
  · refine (rtext_fault h2 h1 most).mono ?_
    rintro e w' ⟨rfl, hk⟩
    rw [rText, if_pos h1]
    exact ⟨NewB.nil _ _, RsP.same h0 hk⟩
  · rw [rText, if_neg (by simpa using h1)]
    cases hr : readNum 0 0 s.left with
    | inl c =>
      refine (rtext_err h2.rd h3 most hm9 c (Or.inl hr)).mono ?_
      rintro e w' ⟨rfl, g1, hk⟩
      exact ⟨NewB.nil _ _, RsP.err h0.mem (by rcases readNum_code _ _ _ hr with rfl | rfl <;> omega) g1 hk⟩
    | inr p =>
      obtain ⟨n, r⟩ := p
      simp only
      by_cases ha : most.toNat < n
      · rw [if_pos ha]
        refine (rtext_err h2.rd h3 most hm9 11 (Or.inr ⟨n, r, hr, Or.inl ⟨ha, rfl⟩⟩)).mono ?_
        rintro e w' ⟨rfl, g1, hk⟩
        exact ⟨NewB.nil _ _, RsP.err h0.mem (by omega) g1 hk⟩
      · rw [if_neg ha]
        by_cases hl : r.length < n
        · rw [if_pos hl]
          refine (rtext_err h2.rd h3 most hm9 10 (Or.inr ⟨n, r, hr, Or.inr ⟨by omega, hl, rfl⟩⟩)).mono ?_
          rintro e w' ⟨rfl, g1, hk⟩
          exact ⟨NewB.nil _ _, RsP.err h0.mem (by omega) g1 hk⟩
        · rw [if_neg hl]
          have htl : (r.take n).length = n := by simp; omega
          refine (rtext_ok h2.rd h3 n most hm9 hr (by omega) (by omega)).mono ?_
          rintro e w' ⟨a, cap, rfl, ho, hrd, hk⟩
          refine ⟨⟨a, cap, ?_, ?_⟩, RsP.took h2 hrd hk (fun y hy => (readNum_lt _ 0 0 (by omega) (by simp) h3 hr).2.1 y (List.mem_of_mem_drop hy)) h4⟩
          · show Ending.returned (.slice a n cap) = .returned (.slice a (r.take n).length cap)
            rw [htl]
          · show w'.ownsRow w.heap.size 5 1 (.slice a (r.take n).length cap) (r.take n).length (u8s (r.take n))
            rw [htl] at ho ⊢
            exact ho

theorem rdone_s {w : World} {b : Nat} {F : List Nat} {s : RS} (h : Rs w b F s) :
    Calls Tryz.prog 46 #[.pointer (some ⟨b, 0, none⟩)] w fun e w' => e = .returned (.int .i64 (rDone s : Nat)) ∧ w = w' := by
  rcases h with ⟨h1, h2, _, _, rfl⟩ | ⟨h1, h3, h4, lv, bv, hs, D, h2, rfl⟩
  · rw [rDone, if_pos h1]; exact rdone_fault h2 h1
  · rw [rDone, if_neg (by simpa using h1)]; exact rdone_f h2 _ rfl

theorem read_s {w : World} {x : Value} {bs : List Nat} (h : Sees w x bs) (hl : bs.length ≤ 140737488355328) (hb : ∀ x ∈ bs, x < 256) :
    Calls Tryz.prog 13 #[x] w fun e w' => ∃ b F, e = .returned (.pointer (some ⟨b, 0, none⟩)) ∧ Rs w' b F ⟨0, bs, []⟩ ∧ (∀ x ∈ F, w.heap.size ≤ x) ∧ Kept [] w w' := by
  refine (read_any h hl).mono ?_
  rintro e w' ⟨b, lv, rfl, hr, hb', hl', hk⟩
  refine ⟨b, _, rfl, Or.inr ⟨rfl, hb, by simp, lv, nilS, [], lv.ownBlock, Rf.new hr, rfl⟩, fun x hx => ?_, hk⟩
  simp only [rfoot, nilS, Value.ownBlock, List.mem_append, List.mem_cons, Option.mem_toList, Option.toList_none, List.not_mem_nil, or_false] at hx
  rcases hx with hx | rfl
  · exact hl' x hx
  · exact hb'
end Go.Proofs.YtfhfkpgfnlmfhaaGreatDoor

/- A writer with its blocks as one set: every call, whatever its state. -/
namespace Go.Proofs.YtfhfkpgfnlmfhaaGreatDoor
open Go.RowKit

end Go.Proofs.YtfhfkpgfnlmfhaaGreatDoor

/- The CRC of bytes. -/
namespace Go.Proofs.YtfhfkpgfnlmfhaaGreatDoor
open Go.RowKit
set_option linter.unusedVariables false

/-- one step of a register -/
def stp (v : Nat) : Nat := if v % 2 = 1 then (v / 2) ^^^ 2197175160 else v / 2
/-- many steps -/
def stps : Nat → Nat → Nat
  | 0, v => v
  | n + 1, v => stps n (stp v)

theorem stp_eq (v : Nat) : stp v = (v >>> 1) ^^^ (if v.testBit 0 then 2197175160 else 0) := by
  unfold stp
  have h : v.testBit 0 = decide (v % 2 = 1) := by simp [Nat.testBit_zero]
  rw [Nat.shiftRight_succ, Nat.shiftRight_zero]
  by_cases hv : v % 2 = 1 <;> simp [hv, h]

theorem stp_xor (a b : Nat) : stp (a ^^^ b) = stp a ^^^ stp b := by
  rw [stp_eq, stp_eq, stp_eq, Nat.testBit_xor, Nat.shiftRight_xor_distrib]
  cases a.testBit 0 <;> cases b.testBit 0 <;> simp
  · rw [Nat.xor_assoc]
  · rw [Nat.xor_assoc, Nat.xor_comm (b >>> 1), ← Nat.xor_assoc]
  · generalize a >>> 1 = x
    generalize b >>> 1 = y
    apply Nat.eq_of_testBit_eq
    intro i
    simp only [Nat.testBit_xor]
    cases x.testBit i <;> cases y.testBit i <;> cases (Nat.testBit 2197175160 i) <;> rfl

theorem stp_lt {v : Nat} (h : v < 4294967296) : stp v < 4294967296 := by
  unfold stp
  split
  · exact Nat.xor_lt_two_pow (n := 32) (by omega) (by omega)
  · omega

theorem stp_zero : stp 0 = 0 := by decide

theorem stps_xor (n : Nat) : ∀ a b : Nat, stps n (a ^^^ b) = stps n a ^^^ stps n b := by
  induction n with
  | zero => intro a b; rfl
  | succ n ih => intro a b; simp only [stps]; rw [stp_xor, ih]

theorem stps_zero (n : Nat) : stps n 0 = 0 := by
  induction n with
  | zero => rfl
  | succ n ih => simp only [stps]; rw [stp_zero, ih]

theorem stps_lt (n : Nat) : ∀ {v : Nat}, v < 4294967296 → stps n v < 4294967296 := by
  induction n with
  | zero => intro v h; exact h
  | succ n ih => intro v h; exact ih (stp_lt h)

theorem stps_add (m n : Nat) : ∀ v : Nat, stps (m + n) v = stps n (stps m v) := by
  induction m with
  | zero => intro v; simp [stps]
  | succ m ih => intro v; rw [Nat.succ_add]; simp only [stps]; rw [ih]

theorem stps_one (v : Nat) : stps 1 v = stp v := rfl

theorem stps_succ' (n v : Nat) : stps (n + 1) v = stp (stps n v) := by rw [stps_add]; rfl

theorem stps_comm (m n v : Nat) : stps m (stps n v) = stps n (stps m v) := by
  rw [← stps_add, ← stps_add, Nat.add_comm]

theorem stp_double (x : Nat) : stp (x * 2) = x := by
  unfold stp
  rw [if_neg (by omega)]
  omega
theorem stps4_high (x : Nat) : stps 4 (x * 16) = x := by
  have e : x * 16 = x * 2 * 2 * 2 * 2 := by omega
  rw [e]
  simp only [stps, stp_double]
theorem split16 (v : Nat) : v = (v / 16 * 16) ^^^ (v % 16) := by
  have h := Nat.div_add_mod v 16
  have hd : ∀ x y : Nat, y < 16 → x * 16 ^^^ y = x * 16 + y := by
    intro x y hy
    have h1 : x * 16 ^^^ y = x * 16 ||| y := by
      apply Nat.eq_of_testBit_eq
      intro i
      have e : x * 16 = 2 ^ 4 * x := by rw [Nat.mul_comm]
      rw [Nat.testBit_xor, Nat.testBit_or, e, Nat.testBit_two_pow_mul]
      by_cases hi : 4 ≤ i
      · have : y.testBit i = false := Nat.testBit_lt_two_pow (Nat.lt_of_lt_of_le (show y < 2 ^ 4 by omega) (Nat.pow_le_pow_right (by omega) hi))
        simp [this]
      · simp [hi]
    rw [h1]
    exact nat_join 4 (x * 16) y (by omega) (by omega)
  rw [hd _ _ (Nat.mod_lt _ (by omega))]
  omega
theorem stps4_eq (v : Nat) : stps 4 v = (v / 16) ^^^ stps 4 (v % 16) := by
  have h := congrArg (stps 4) (split16 v)
  rw [stps_xor, stps4_high] at h
  exact h

/-- the table that the program keeps: what four steps make of 0 to 15 -/
def four (i : Nat) : Nat := stps 4 i
/-- the table lies in its place -/
def Tab (w : World) : Prop := 0 < w.heap.size ∧ ∀ i, i < 16 → w.cell? ⟨0, i, none⟩ = some (.int .u32 (four i : Nat))
theorem Tab.kept {F : List Nat} {w w' : World} (h : Tab w) (hk : Kept F w w') (hn : 0 ∉ F) : Tab w' :=
  ⟨Nat.lt_of_lt_of_le h.1 hk.size, fun i hi => (hk.cell (p := ⟨0, i, none⟩) h.1 hn).trans (h.2 i hi)⟩

/-- all bits turned -/
def cpl (a : Nat) : Nat := a ^^^ 4294967295
theorem cpl_lt {a : Nat} (ha : a < 4294967296) : cpl a < 4294967296 := Nat.xor_lt_two_pow (n := 32) (by omega) (by omega)
theorem cpl_bits {a : Nat} (ha : a < 4294967296) : bits .xor .u32 IntKind.u32.max (a : Int) = (cpl a : Nat) := by
  have := u32_xor_nat 4294967295 a (by omega) ha
  rw [Nat.xor_comm] at this
  exact this
/-- a register takes a byte; bytes -/
def take1 (v b : Nat) : Nat := stps 8 (v ^^^ b)
def takes (v : Nat) (bs : List Nat) : Nat := bs.foldl take1 v
theorem take1_lt {v b : Nat} (hv : v < 4294967296) (hb : b < 256) : take1 v b < 4294967296 := stps_lt 8 (Nat.xor_lt_two_pow (n := 32) hv (by omega))
theorem takes_nil (v : Nat) : takes v [] = v := rfl
theorem takes_cons (v b : Nat) (bs : List Nat) : takes v (b :: bs) = takes (take1 v b) bs := rfl
theorem takes_append (v : Nat) (a b : List Nat) : takes v (a ++ b) = takes (takes v a) b := List.foldl_append ..
theorem takes_lt {v : Nat} (hv : v < 4294967296) (bs : List Nat) (h : ∀ b ∈ bs, b < 256) : takes v bs < 4294967296 := by
  induction bs generalizing v with
  | nil => rw [takes_nil]; exact hv
  | cons x bs ih =>
    rw [takes_cons]
    exact ih (take1_lt hv (h x (by simp))) (fun b hb => h b (by simp [hb]))
theorem takes_succ (v : Nat) (bs : List Nat) (k : Nat) (hk : k < bs.length) : takes v (bs.take (k + 1)) = take1 (takes v (bs.take k)) (bs.getD k 0) := by
  rw [List.take_add_one, takes_append, List.getElem?_eq_getElem hk, List.getD, List.getElem?_eq_getElem hk]
  rfl
/-- the sum grows -/
def grown (s : Nat) (bs : List Nat) : Nat := cpl (takes (cpl s) bs)

theorem and15 (v : Nat) (hv : v < 4294967296) : bits .and .u32 (v : Int) 15 = ((v % 16 : Nat) : Int) := by
  have := u32_and_nat v 15 hv (by omega)
  rw [nat_mask4] at this
  exact this


theorem getD_lt8 {bs : List Nat} (h : ∀ b ∈ bs, b < 256) {k : Nat} (hk : k < bs.length) : bs.getD k 0 < 256 := by
  rw [List.getD, List.getElem?_eq_getElem hk]
  exact h _ (List.getElem_mem hk)
set_option maxRecDepth 100000 in
set_option maxHeartbeats 400000 in
theorem grow_any {w : World} {v : Value} {bs : List Nat} (ht : Tab w) (hs : Wide w v bs) (hb : ∀ x ∈ bs, x < 256) (hml : bs.length ≤ 140737488355328) (s : Nat) (hsl : s < 4294967296) :
    Calls Tryz.prog 44 #[.int .u32 s, v] w fun e w' => e = .returned (.int .u32 (grown s bs : Nat)) ∧ w' = w := by
  obtain ⟨a, cap, rfl⟩ := wide_len hs
  have hcs := cpl_bits hsl
  have hcl := cpl_lt hsl
  have hsg : IntKind.u32.signed = false := rfl
  have HG : Hid (grown s bs = cpl (takes (cpl s) bs)) := rfl
  generalize cpl s = c at hcs hcl HG
  obtain ⟨L, hL⟩ : ∃ n, bs.length = n := ⟨_, rfl⟩
  rw [hL] at hml hs
  have HT := hide ht
  have H3 := hide hb
  have H4 := hide hs
  have HL := hide hL
  rw [hL]
  clear hb hs ht hL
  go_enter Tryz.func44, Tryz.ntmps44
  go_wp2_with fail
  go_loop [5, 12] (fun r i => ∃ k : Nat, k ≤ L ∧ i = .int .i64 k ∧ r = .int .u32 (takes c (bs.take k) : Nat)) (fun _ i => L - (intOf i).toNat)
  case atStart => exact ⟨0, by omega, rfl, rfl⟩
  case round =>
    obtain ⟨k, hk, rfl, rfl⟩ := hrel
    have hlt := takes_lt hcl (bs.take k) (fun b hb => unhide H3 b (List.mem_of_mem_take hb))
    by_cases hkl : k < L
    · obtain ⟨b, off, rfl, hc⟩ := (unhide H4).at k (by rw [unhide HL]; exact hkl)
      have HE : Hid (takes c (bs.take (k + 1)) = take1 (takes c (bs.take k)) (bs.getD k 0)) := takes_succ c bs k (by rw [unhide HL]; exact hkl)
      have hx : bs.getD k 0 < 256 := getD_lt8 (unhide H3) (by rw [unhide HL]; exact hkl)
      generalize bs.getD k 0 = x at hc HE hx
      generalize takes c (bs.take k) = r at hlt HE
      have e1 := u32_xor_nat r x hlt (by omega)
      have l1 : r ^^^ x < 4294967296 := Nat.xor_lt_two_pow (n := 32) hlt (by omega)
      have HE2 : Hid (takes c (bs.take (k + 1)) = stps 4 (stps 4 (r ^^^ x))) := (unhide HE).trans (stps_add 4 4 _)
      clear HE
      generalize r ^^^ x = y at e1 l1 HE2
      have hT := (unhide HT).2
      have a1 := and15 y l1
      have c1 := hT (y % 16) (Nat.mod_lt _ (by omega))
      have e2 := u32_xor_nat (y / 16) (four (y % 16)) (by omega) (stps_lt 4 (by omega))
      have q1 : y / 16 ^^^ four (y % 16) = stps 4 y := (stps4_eq y).symm
      have l2 := stps_lt 4 l1
      rw [q1] at e2
      generalize stps 4 y = z at e2 l2 HE2 q1
      generalize hf1 : four (y % 16) = f1 at c1 e2
      have a2 := and15 z l2
      have c2 := hT (z % 16) (Nat.mod_lt _ (by omega))
      have e3 := u32_xor_nat (z / 16) (four (z % 16)) (by omega) (stps_lt 4 (by omega))
      have q2 : z / 16 ^^^ four (z % 16) = stps 4 z := (stps4_eq z).symm
      rw [q2] at e3
      generalize stps 4 z = t at e3 HE2 q2
      generalize hf2 : four (z % 16) = f2 at c2 e3
      clear q1 q2 hf1 hf2 hT
      have m1 : y % 16 < 16 := Nat.mod_lt _ (by omega)
      have m2 : z % 16 < 16 := Nat.mod_lt _ (by omega)
      have e2' : bits .xor .u32 ((y : Int) / 16) (f1 : Int) = (z : Int) := by simpa using e2
      have e3' : bits .xor .u32 ((z : Int) / 16) (f2 : Int) = (t : Int) := by simpa using e3
      clear e2 e3
      go_wp2
      exact ⟨⟨k + 1, by omega, by simp, by rw [unhide HE2]⟩, by simp [intOf]; omega⟩
    · obtain rfl : k = L := by omega
      have hfull : bs.take k = bs := by rw [← unhide HL, List.take_length]
      rw [hfull] at hlt ⊢
      have e4 := cpl_bits hlt
      rw [← unhide HG] at e4
      generalize hgg : grown s bs = g at e4
      have HGG := hide hgg
      clear hgg
      generalize takes c bs = q at hlt e4
      go_wp2
      go_ret
      exact ⟨by rw [unhide HGG]; rfl, rfl⟩
/-- CRC of bytes -/
def crc (bs : List Nat) : Nat := grown 0 bs
theorem crc_lt {bs : List Nat} (h : ∀ b ∈ bs, b < 256) : crc bs < 4294967296 := cpl_lt (takes_lt (cpl_lt (by omega)) bs h)
set_option maxRecDepth 100000 in
set_option maxHeartbeats 400000 in
theorem crc_any {w : World} {v : Value} {bs : List Nat} (ht : Tab w) (hs : Wide w v bs) (hb : ∀ x ∈ bs, x < 256) (hml : bs.length ≤ 140737488355328) :
    Calls Tryz.prog 15 #[v] w fun e w' => e = .returned (.int .u32 (crc bs : Nat)) ∧ w' = w := by
  have HG : Hid (Calls Tryz.prog 44 #[.int .u32 0, v] w fun e w' => e = .returned (.int .u32 (crc bs : Nat)) ∧ w' = w) := grow_any ht hs hb hml 0 (by omega)
  clear hs ht hb
  generalize crc bs = g at HG
  go_enter Tryz.func15, Tryz.ntmps15
  go_wp2_with (first | (go_at_call 44; refine (unhide HG).mono ?_; rintro e w1 ⟨rfl, rfl⟩))
  go_ret
  exact ⟨rfl, rfl⟩
end Go.Proofs.YtfhfkpgfnlmfhaaGreatDoor
