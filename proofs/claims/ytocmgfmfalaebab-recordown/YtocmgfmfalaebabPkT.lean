/- Texts laid one behind the other: ThingW ThingR ThingS ThingT Tree RowT Shut Awake PS PW EQ EP EA EB EC ED EE EF EG EH EI EJ EN EK EL EM EO EW ER ES EU. -/
import Derived.Test.YtocmgfmfalaebabPkR
import Derived.Test.YtocmgfmfalaebabPkS
import Derived.Test.YtocmgfmfalaebabPkF
/- A Thing goes into a writer. -/
namespace Go.Proofs.Ytocmgfmfalaebab
open Go.RowKit

def Th.k (t : Th) : Nat := rnd t.kind 9
theorem Th.k_lt (t : Th) : t.k < 9 := rnd_lt _ _ (by omega)
/-- What a thing that is no Open and no Close is laid down as. -/
def Th.bytes (t : Th) : List Nat :=
  match t.k with
  | 0 => [rnd t.i 256]
  | 1 => le t.n (1 + rnd t.i 8)
  | 2 => form t.n
  | 3 => form (fold t.i)
  | 4 => be8 (canon t.n)
  | 5 => t.p
  | 6 => form t.p.length ++ t.p
  | _ => []
def Th.lay (t : Th) (s : WS) : WS := if t.k = 7 then wOpen s else if t.k = 8 then wClose s else wLay s t.bytes

end Go.Proofs.Ytocmgfmfalaebab

/- A Thing comes back out of a reader. -/
namespace Go.Proofs.Ytocmgfmfalaebab
open Go.RowKit

theorem leV_le (n k : Nat) : leV (le n k) = n % 256 ^ k := by
  induction k with
  | zero => simp [le, leV, Nat.mod_one]
  | succ k ih =>
    rw [le, leV_append, ih, le_len, leV, leV, Nat.pow_succ, Nat.mod_mul]
    simp

/-- Behind a call that takes what stands there. -/
def Took (w : World) (b : Nat) (lv bv : Value) (rest : List Nat) (w' : World) : Prop := (∃ lv', Rd w' b lv' bv rest ∧ lv'.ownBlock = lv.ownBlock) ∧ Kept [b] w w'

end Go.Proofs.Ytocmgfmfalaebab

/- A Thing comes back out of a reader: real numbers, raw bytes, texts. -/
namespace Go.Proofs.Ytocmgfmfalaebab
open Go.RowKit

theorem canon_cases (n : Nat) : (nanB n = false ∧ canon n = n) ∨ (nanB n = true ∧ canon n = oneNaN) := by
  unfold canon
  cases h : nanB n
  · left; exact ⟨rfl, by simp⟩
  · right; exact ⟨rfl, by simp⟩
theorem canon_lt (n : Nat) (hn : n < 18446744073709551616) : canon n < 18446744073709551616 := by
  rcases canon_cases n with ⟨_, h⟩ | ⟨_, h⟩ <;> rw [h]
  · exact hn
  · decide
theorem canon_nan (n : Nat) : nanB (canon n) = false ∨ (nanB (canon n) = true ∧ canon n = oneNaN) := by
  rcases canon_cases n with ⟨h1, h⟩ | ⟨_, h⟩ <;> rw [h]
  · exact Or.inl h1
  · exact Or.inr ⟨nan_one, rfl⟩

theorem Took.drewN {w w' : World} {b : Nat} {lv bv : Value} {rest : List Nat} (h : Took w b lv bv rest w') (m : Nat) : Took w b lv bv rest (w'.drewN m) := by
  obtain ⟨⟨lv', h1, h2⟩, h3⟩ := h
  exact ⟨⟨lv', h1.kept ((Kept.refl [] _).drewN m) (by simp) (by simp), h2⟩, h3.drewN m⟩

end Go.Proofs.Ytocmgfmfalaebab

/- A Thing comes back out of a reader, whatever it is: frames, too. -/
namespace Go.Proofs.Ytocmgfmfalaebab
open Go.RowKit

/-- The reader goes from l with bh behind its frames to l' with bh'. -/
def RStep (t : Th) (l : List Nat) (bh : List (List Nat)) (l' : List Nat) (bh' : List (List Nat)) : Prop :=
  (t.k < 7 ∧ l = t.bytes ++ l' ∧ bh' = bh) ∨ (t.k = 7 ∧ bh.length < 16 ∧ ∃ rest, l = form l'.length ++ (l' ++ rest) ∧ bh' = bh ++ [rest]) ∨ (t.k = 8 ∧ l = [] ∧ bh = bh' ++ [l'])

/-- Behind a call on the reader. -/
def RPost (w : World) (b : Nat) (bv : Value) (D : Option Nat) (l' : List Nat) (bh' : List (List Nat)) (w' : World) : Prop :=
  ∃ lv' bv' hs', Rf w' b lv' bv' hs' l' bh' D ∧ Kept (rfoot b bv) w w' ∧ ∀ x, x ∈ rfoot b bv' → x ∈ rfoot b bv ∨ w.heap.size ≤ x

theorem RPost.from {w W w' : World} {b : Nat} {bv : Value} {D : Option Nat} {l' : List Nat} {bh' : List (List Nat)} (k : Kept [] w W) (h : RPost W b bv D l' bh' w') : RPost w b bv D l' bh' w' := by
  obtain ⟨lv', bv', hs', h1, h2, h3⟩ := h
  refine ⟨lv', bv', hs', h1, (k.mono (by simp)).trans h2 (fun x hx => Or.inl hx), fun x hx => ?_⟩
  rcases h3 x hx with h | h
  · exact Or.inl h
  · right; have := k.size; omega

theorem Took.post {w w' : World} {b : Nat} {lv bv : Value} {hs : List Value} {l rest : List Nat} {bh : List (List Nat)} {D : Option Nat} (h : Rf w b lv bv hs l bh D) (ht : Took w b lv bv rest w') : RPost w b bv D rest bh w' := by
  obtain ⟨⟨lv', h1, h2⟩, h3⟩ := ht
  exact ⟨lv', bv, hs, h.step h1 h2 h3, h3.mono (fun x hx => by simp at hx; subst hx; exact Or.inl (by simp [rfoot])), fun x hx => Or.inl hx⟩

end Go.Proofs.Ytocmgfmfalaebab

/- Rows of things, purely: balanced rows; what a writer makes of them; a reader's way through it. -/
namespace Go.Proofs.Ytocmgfmfalaebab
open Go.RowKit

/-- A balanced row, frames within frames, d deep at most, and its bytes. -/
inductive Bal : Nat → List Th → List Nat → Prop
  | nil (d : Nat) : Bal d [] []
  | leaf {d : Nat} {t : Th} {ts : List Th} {bs : List Nat} (hk : t.k < 7) (h : Bal d ts bs) : Bal d (t :: ts) (t.bytes ++ bs)
  | node {d : Nat} {o c : Th} {inner ts : List Th} {ib bs : List Nat} (ho : o.k = 7) (hc : c.k = 8) (hi : Bal d inner ib) (h : Bal (d + 1) ts bs) : Bal (d + 1) (o :: (inner ++ c :: ts)) (form ib.length ++ (ib ++ bs))

def sumT (ts : List Th) : Nat := (ts.map fun t => t.p.length + 10).sum
theorem sumT_cons (t : Th) (ts : List Th) : sumT (t :: ts) = t.p.length + 10 + sumT ts := by simp [sumT]
theorem sumT_append (a b : List Th) : sumT (a ++ b) = sumT a + sumT b := by simp [sumT]

theorem bytes_len (t : Th) (ok : t.ok) (hp : t.p.length < 18446744073709551616) : t.bytes.length ≤ t.p.length + 10 := by
  have hn := ok.n
  have hf := fold_lt t.i ok.i1 ok.i2
  have h1 := form_le10 t.n hn
  have h2 := form_le10 (fold t.i) hf
  have h3 := form_le10 t.p.length hp
  have h4 := le_len t.n (1 + rnd t.i 8)
  have h5 := rnd_lt t.i 8 (by omega)
  unfold Th.bytes
  split <;> simp [be8] <;> omega

theorem bytes_lt (t : Th) (ok : t.ok) : ∀ x ∈ t.bytes, x < 256 := by
  intro x hx
  unfold Th.bytes at hx
  split at hx
  · simp at hx; have := rnd_lt t.i 256 (by omega); omega
  · exact le_lt _ _ x hx
  · exact form_byte _ x hx
  · exact form_byte _ x hx
  · exact be8_lt _ (canon_lt t.n ok.n) x hx
  · exact ok.p x hx
  · rcases List.mem_append.1 hx with h | h
    · exact form_byte _ x h
    · exact ok.p x h
  · cases hx

theorem Bal.len {d : Nat} {ts : List Th} {bs : List Nat} (h : Bal d ts bs) (ok : ∀ t ∈ ts, t.ok) (hs : sumT ts < 18446744073709551616) : bs.length ≤ sumT ts := by
  induction h with
  | nil => simp [sumT]
  | @leaf d t ts bs hk h ih =>
    rw [sumT_cons] at hs ⊢
    have h1 := bytes_len t (ok t (by simp)) (by omega)
    have h2 := ih (fun u hu => ok u (by simp [hu])) (by omega)
    simp; omega
  | @node d o c inner ts ib bs ho hc hi h ih1 ih2 =>
    rw [sumT_cons, sumT_append, sumT_cons] at hs ⊢
    have h1 := ih1 (fun u hu => ok u (by simp [hu])) (by omega)
    have h2 := ih2 (fun u hu => ok u (by simp [hu])) (by omega)
    have h3 := form_le10 ib.length (by omega)
    simp; omega

theorem Bal.lt {d : Nat} {ts : List Th} {bs : List Nat} (h : Bal d ts bs) (ok : ∀ t ∈ ts, t.ok) : ∀ x ∈ bs, x < 256 := by
  induction h with
  | nil => intro x hx; cases hx
  | @leaf d t ts bs hk h ih =>
    intro x hx
    rcases List.mem_append.1 hx with h | h
    · exact bytes_lt t (ok t (by simp)) x h
    · exact ih (fun u hu => ok u (by simp [hu])) x h
  | @node d o c inner ts ib bs ho hc hi h ih1 ih2 =>
    intro x hx
    rcases List.mem_append.1 hx with h | h
    · exact form_byte _ x h
    · rcases List.mem_append.1 h with h | h
      · exact ih1 (fun u hu => ok u (by simp [hu])) x h
      · exact ih2 (fun u hu => ok u (by simp [hu])) x h

/-- What a writer makes of a row. -/
def runW (s : WS) : List Th → WS
  | [] => s
  | t :: ts => runW (t.lay s) ts
theorem runW_append (s : WS) (a b : List Th) : runW s (a ++ b) = runW (runW s a) b := by
  induction a generalizing s with
  | nil => rfl
  | cons t a ih => exact ih _

theorem lay_leaf (t : Th) (s : WS) (hk : t.k < 7) : t.lay s = wLay s t.bytes := by unfold Th.lay; rw [if_neg (by omega), if_neg (by omega)]

theorem lay_fault (t : Th) (s : WS) (h : s.fault ≠ 0) : t.lay s = s := by
  unfold Th.lay wOpen wClose wLay
  simp [h]
theorem run_fault (s : WS) (ts : List Th) (h : s.fault ≠ 0) : runW s ts = s := by
  induction ts with
  | nil => rfl
  | cons t ts ih => rw [runW, lay_fault t s h]; exact ih

/-- With room enough: the bytes, and no fault; else no room. -/
theorem Bal.run {d : Nat} {ts : List Th} {bs : List Nat} (h : Bal d ts bs) : ∀ (room : Nat) (bs0 sts : List Nat), sts.length + d ≤ 16 → bs0.length ≤ room →
    (bs0.length + bs.length ≤ room → runW ⟨room, bs0, sts, 0⟩ ts = ⟨room, bs0 ++ bs, sts, 0⟩) ∧ (room < bs0.length + bs.length → runW ⟨room, bs0, sts, 0⟩ ts = failWS 13) := by
  induction h with
  | nil => intro room bs0 sts h1 h2; exact ⟨fun _ => by simp [runW], fun h => by simp at h; omega⟩
  | @leaf d t ts bs hk h ih =>
    intro room bs0 sts h1 h2
    rw [runW, lay_leaf t _ hk]
    unfold wLay
    simp only [ne_eq, not_true_eq_false, if_false, List.length_append]
    by_cases hr : bs0.length + t.bytes.length ≤ room
    · rw [if_pos hr]
      obtain ⟨i1, i2⟩ := ih room (bs0 ++ t.bytes) sts h1 (by simp; omega)
      simp only [List.length_append] at i1 i2
      exact ⟨fun hx => by rw [i1 (by omega), List.append_assoc], fun hx => i2 (by omega)⟩
    · rw [if_neg hr]
      exact ⟨fun hx => by omega, fun _ => run_fault _ _ (by simp [failWS])⟩
  | @node d o c inner ts ib bs ho hc hi h ih1 ih2 =>
    intro room bs0 sts h1 h2
    have e1 : o.lay ⟨room, bs0, sts, 0⟩ = ⟨room, bs0, sts ++ [bs0.length], 0⟩ := by
      unfold Th.lay wOpen
      rw [if_pos ho]
      simp only [ne_eq, not_true_eq_false, if_false]
      rw [if_neg (by omega)]
    rw [runW, e1, runW_append]
    obtain ⟨i1, i2⟩ := ih1 room bs0 (sts ++ [bs0.length]) (by simp; omega) h2
    simp only [List.length_append]
    by_cases hr : bs0.length + ib.length ≤ room
    · rw [i1 hr, runW]
      have e2 : c.lay ⟨room, bs0 ++ ib, sts ++ [bs0.length], 0⟩ = if bs0.length + ib.length + (form ib.length).length ≤ room then ⟨room, bs0 ++ form ib.length ++ ib, sts, 0⟩ else failWS 13 := by
        unfold Th.lay wClose
        rw [if_neg (by omega), if_pos hc]
        simp
      rw [e2]
      by_cases hr2 : bs0.length + ib.length + (form ib.length).length ≤ room
      · rw [if_pos hr2]
        obtain ⟨j1, j2⟩ := ih2 room (bs0 ++ form ib.length ++ ib) sts h1 (by simp; omega)
        simp only [List.length_append] at j1 j2
        exact ⟨fun hx => by rw [j1 (by omega)]; simp, fun hx => j2 (by omega)⟩
      · rw [if_neg hr2]
        exact ⟨fun hx => by omega, fun _ => run_fault _ _ (by simp [failWS])⟩
    · rw [i2 (by omega)]
      rw [run_fault _ _ (by simp [failWS])]
      exact ⟨fun hx => by omega, fun _ => rfl⟩

/-- A reader's way through a row. -/
inductive RWay : List Th → List Nat → List (List Nat) → List Nat → List (List Nat) → Prop
  | nil (l : List Nat) (bh : List (List Nat)) : RWay [] l bh l bh
  | cons {t : Th} {ts : List Th} {l l1 l2 : List Nat} {bh bh1 bh2 : List (List Nat)} (hs : RStep t l bh l1 bh1) (h : RWay ts l1 bh1 l2 bh2) : RWay (t :: ts) l bh l2 bh2
theorem RWay.append {a b : List Th} {l l1 l2 : List Nat} {bh bh1 bh2 : List (List Nat)} (h1 : RWay a l bh l1 bh1) (h2 : RWay b l1 bh1 l2 bh2) : RWay (a ++ b) l bh l2 bh2 := by
  induction h1 with
  | nil => exact h2
  | cons hs _ ih => exact .cons hs (ih h2)

theorem Bal.way {d : Nat} {ts : List Th} {bs : List Nat} (h : Bal d ts bs) : ∀ (rest : List Nat) (bh : List (List Nat)), bh.length + d ≤ 16 → RWay ts (bs ++ rest) bh rest bh := by
  induction h with
  | nil => intro rest bh _; exact .nil _ _
  | @leaf d t ts bs hk h ih =>
    intro rest bh hb
    exact .cons (l1 := bs ++ rest) (Or.inl ⟨hk, by simp, rfl⟩) (ih rest bh hb)
  | @node d o c inner ts ib bs ho hc hi h ih1 ih2 =>
    intro rest bh hb
    refine .cons (l1 := ib) (bh1 := bh ++ [bs ++ rest]) (Or.inr (Or.inl ⟨ho, by omega, bs ++ rest, by simp, rfl⟩)) ?_
    have i1 := ih1 [] (bh ++ [bs ++ rest]) (by simp; omega)
    rw [List.append_nil] at i1
    refine RWay.append i1 ?_
    exact .cons (Or.inr (Or.inr ⟨hc, rfl, rfl⟩)) (ih2 rest bh hb)

/-- A row that goes from the depth d to the depth 0, never below 0 and never above 16. -/
inductive Path : Nat → List Th → Prop
  | nil : Path 0 []
  | leaf {d : Nat} {t : Th} {ts : List Th} (hk : t.k < 7) (h : Path d ts) : Path d (t :: ts)
  | open {d : Nat} {t : Th} {ts : List Th} (hk : t.k = 7) (hd : d < 16) (h : Path (d + 1) ts) : Path d (t :: ts)
  | close {d : Nat} {t : Th} {ts : List Th} (hk : t.k = 8) (h : Path d ts) : Path (d + 1) (t :: ts)

theorem Path.bal (n : Nat) : ∀ (ts : List Th) (d : Nat), ts.length ≤ n → d ≤ 16 → Path d ts →
    (d = 0 → ∃ bs, Bal 16 ts bs) ∧ (0 < d → ∃ inner c rest ib, ts = inner ++ c :: rest ∧ c.k = 8 ∧ Bal (16 - d) inner ib ∧ Path (d - 1) rest) := by
  induction n with
  | zero =>
    intro ts d hn _ h
    cases ts with
    | nil => cases h; exact ⟨fun _ => ⟨[], .nil _⟩, fun h => by omega⟩
    | cons t ts => simp at hn
  | succ n ih =>
    intro ts d hn hd h
    cases h with
    | nil => exact ⟨fun _ => ⟨[], .nil _⟩, fun h => by omega⟩
    | @leaf _ t ts hk h =>
      simp at hn
      obtain ⟨i1, i2⟩ := ih ts d hn hd h
      refine ⟨fun h0 => ?_, fun h0 => ?_⟩
      · obtain ⟨bs, hb⟩ := i1 h0; exact ⟨_, .leaf hk hb⟩
      · obtain ⟨inner, c, rest, ib, rfl, h2, h3, h4⟩ := i2 h0
        exact ⟨t :: inner, c, rest, _, rfl, h2, .leaf hk h3, h4⟩
    | @«open» _ t ts hk hd' h =>
      simp at hn
      obtain ⟨inner, c, rest, ib, e, h2, h3, h4⟩ := (ih ts (d + 1) hn (by omega) h).2 (by omega)
      subst e
      simp at hn h4
      obtain ⟨i1, i2⟩ := ih rest d (by omega) hd h4
      have e16 : 16 - d = 16 - (d + 1) + 1 := by omega
      refine ⟨fun h0 => ?_, fun h0 => ?_⟩
      · subst h0
        obtain ⟨bs, hb⟩ := i1 rfl
        exact ⟨_, .node hk h2 h3 hb⟩
      · obtain ⟨inner2, c2, rest2, ib2, rfl, g2, g3, g4⟩ := i2 h0
        refine ⟨t :: (inner ++ c :: inner2), c2, rest2, form ib.length ++ (ib ++ ib2), by simp, g2, ?_, g4⟩
        rw [e16] at g3 ⊢
        exact .node hk h2 h3 g3
    | @close d t ts hk h =>
      exact ⟨fun h0 => by omega, fun _ => ⟨[], t, ts, [], rfl, hk, .nil _, h⟩⟩

/-- The Close that 'closed' adds. -/
def shutT : Th := ⟨8, 0, 0, none, 0, []⟩
/-- closed. -/
def shut : Nat → List Th → List Th
  | d, [] => List.replicate d shutT
  | d, t :: ts => if t.k = 7 then (if d = 16 then shut d ts else t :: shut (d + 1) ts) else if t.k = 8 then (if d = 0 then shut d ts else t :: shut (d - 1) ts) else t :: shut d ts

theorem shut_path (ts : List Th) : ∀ d, d ≤ 16 → Path d (shut d ts) := by
  induction ts with
  | nil =>
    intro d hd
    rw [shut]
    clear hd
    induction d with
    | zero => exact .nil
    | succ d ih => rw [List.replicate_succ]; exact .close rfl ih
  | cons t ts ih =>
    intro d hd
    rw [shut]
    have hk := t.k_lt
    split
    · split
      · exact ih d hd
      · exact .open (by assumption) (by omega) (ih _ (by omega))
    · split
      · split
        · exact ih d hd
        · obtain ⟨e, rfl⟩ : ∃ e, d = e + 1 := ⟨d - 1, by omega⟩
          exact .close (by assumption) (ih _ (by omega))
      · exact .leaf (by omega) (ih d hd)

theorem shut_bal (ts : List Th) : ∃ bs, Bal 16 (shut 0 ts) bs := (Path.bal _ _ 0 (Nat.le_refl _) (by omega) (shut_path ts 0 (by omega))).1 rfl
theorem shut_mem (ts : List Th) : ∀ d, ∀ t ∈ shut d ts, t ∈ ts ∨ t = shutT := by
  induction ts with
  | nil => intro d t h; rw [shut] at h; exact Or.inr (List.eq_of_mem_replicate h)
  | cons u ts ih =>
    intro d t h
    rw [shut] at h
    split at h
    · split at h
      · rcases ih _ t h with h | h
        · exact Or.inl (by simp [h])
        · exact Or.inr h
      · rcases List.mem_cons.1 h with h | h
        · exact Or.inl (by simp [h])
        · rcases ih _ t h with h | h
          · exact Or.inl (by simp [h])
          · exact Or.inr h
    · split at h
      · split at h
        · rcases ih _ t h with h | h
          · exact Or.inl (by simp [h])
          · exact Or.inr h
        · rcases List.mem_cons.1 h with h | h
          · exact Or.inl (by simp [h])
          · rcases ih _ t h with h | h
            · exact Or.inl (by simp [h])
            · exact Or.inr h
      · rcases List.mem_cons.1 h with h | h
        · exact Or.inl (by simp [h])
        · rcases ih _ t h with h | h
          · exact Or.inl (by simp [h])
          · exact Or.inr h
theorem shut_sum (ts : List Th) : ∀ d, d ≤ 16 → sumT (shut d ts) ≤ sumT ts + 10 * d + 10 * ts.length := by
  induction ts with
  | nil =>
    intro d _
    rw [shut]
    have : ∀ e, sumT (List.replicate e shutT) ≤ 10 * e := by
      intro e
      induction e with
      | zero => simp [sumT]
      | succ e ih => rw [List.replicate_succ, sumT_cons]; simp only [shutT, List.length_nil] at ih ⊢; omega
    have := this d
    simp; omega
  | cons t ts ih =>
    intro d hd
    rw [shut, sumT_cons, List.length_cons]
    split
    · split
      · have := ih d hd; omega
      · rw [sumT_cons]; have := ih (d + 1) (by omega); omega
    · split
      · split
        · have := ih d hd; omega
        · rw [sumT_cons]; have := ih (d - 1) (by omega); omega
      · rw [sumT_cons]; have := ih d hd; omega
end Go.Proofs.Ytocmgfmfalaebab

/- A slice of things. -/
namespace Go.Proofs.Ytocmgfmfalaebab
open Go.RowKit

/-- The slice v holds the things ts. -/
def RowT (w : World) (v : Value) (ts : List Th) : Prop :=
  (∃ a, v = .slice a 0 0 ∧ ts = []) ∨
  ∃ b off cap, v = .slice (some ⟨b, off, none⟩) ts.length cap ∧ ts.length ≤ cap ∧ cap ≤ maxLen ∧ b < w.heap.size ∧ ∀ j (h : j < ts.length),
    w.cell? ⟨b, off + j * 4, none⟩ = some (.int .i64 ts[j].kind) ∧ w.cell? ⟨b, off + j * 4 + 1, none⟩ = some (.int .u64 (ts[j].n : Int)) ∧ w.cell? ⟨b, off + j * 4 + 2, none⟩ = some (.int .i64 ts[j].i) ∧ w.cell? ⟨b, off + j * 4 + 3, none⟩ = some (.slice ts[j].pa ts[j].p.length ts[j].pc)

theorem RowT.kept {F : List Nat} {w w' : World} {v : Value} {ts : List Th} (h : RowT w v ts) (k : Kept F w w') (hn : ∀ x, v.ownBlock = some x → x ∉ F) : RowT w' v ts := by
  rcases h with h | ⟨b, off, cap, rfl, h1, h2, h3, h4⟩
  · exact Or.inl h
  · refine Or.inr ⟨b, off, cap, rfl, h1, h2, Nat.lt_of_lt_of_le h3 k.size, fun j hj => ?_⟩
    obtain ⟨a0, a1, a2, a3⟩ := h4 j hj
    have hb := hn b rfl
    exact ⟨(k.cell (p := ⟨b, _, none⟩) h3 hb).trans a0, (k.cell (p := ⟨b, _, none⟩) h3 hb).trans a1, (k.cell (p := ⟨b, _, none⟩) h3 hb).trans a2, (k.cell (p := ⟨b, _, none⟩) h3 hb).trans a3⟩

theorem RowT.len {w : World} {v : Value} {ts : List Th} (h : RowT w v ts) : ∃ a cap, v = .slice a ts.length cap := by
  rcases h with ⟨a, rfl, rfl⟩ | ⟨b, off, cap, rfl, _⟩
  · exact ⟨a, 0, rfl⟩
  · exact ⟨_, _, rfl⟩

def sum1 (ts : List Th) : Nat := (ts.map fun t => 1 + t.p.length).sum
theorem sum1_take (ts : List Th) (k : Nat) (h : k < ts.length) : sum1 (ts.take (k + 1)) = sum1 (ts.take k) + 1 + ts[k].p.length := by
  unfold sum1; rw [List.take_succ_eq_append_getElem h, List.map_append, List.sum_append]; simp; omega

/-- What is known of the things of a row. -/
def AllT (w : World) (ts : List Th) : Prop := ∀ t ∈ ts, t.ok ∧ Wide w t.pv t.p
theorem AllT.kept {w w' : World} {ts : List Th} (h : AllT w ts) (k : Kept [] w w') : AllT w' ts := fun t ht => ⟨(h t ht).1, (h t ht).2.kept k⟩

theorem runW_take (s : WS) (ts : List Th) (k : Nat) (h : k < ts.length) : runW s (ts.take (k + 1)) = ts[k].lay (runW s (ts.take k)) := by
  rw [List.take_succ_eq_append_getElem h, runW_append]; rfl

/-- What holds of every state of a writer. -/
def WInv (s : WS) (R : Nat) : Prop := (∀ x ∈ s.sts, x ≤ s.bs.length) ∧ s.bs.length ≤ s.room ∧ s.room ≤ R ∧ s.fault < 1000
theorem WInv.new (room : Nat) : WInv (newWS room) room := ⟨by simp [newWS], by simp [newWS], by simp [newWS], by simp [newWS]⟩
theorem WInv.fail (c R : Nat) (hc : c < 1000) : WInv (failWS c) R := ⟨by simp [failWS], by simp [failWS], by simp [failWS], by simpa [failWS] using hc⟩
theorem WInv.lay {s : WS} {R : Nat} (h : WInv s R) (t : Th) : WInv (t.lay s) R := by
  obtain ⟨h1, h2, h3, h4⟩ := h
  unfold Th.lay
  split
  · unfold wOpen
    split
    · exact ⟨h1, h2, h3, h4⟩
    · split
      · exact WInv.fail _ _ (by omega)
      · refine ⟨fun x hx => ?_, h2, h3, h4⟩
        simp at hx
        rcases hx with h | h
        · exact h1 x h
        · simp; omega
  · split
    · unfold wClose
      split
      · exact ⟨h1, h2, h3, h4⟩
      · split
        · exact WInv.fail _ _ (by omega)
        · rename_i st hst
          split
          · rename_i hr
            have hstm : st ∈ s.sts := List.mem_of_getLast? hst
            have := h1 st hstm
            refine ⟨fun x hx => ?_, ?_, h3, h4⟩
            · have := h1 x ((List.dropLast_sublist _).subset hx)
              simp; omega
            · simp; omega
          · exact WInv.fail _ _ (by omega)
    · unfold wLay
      split
      · exact ⟨h1, h2, h3, h4⟩
      · split
        · rename_i hr
          refine ⟨fun x hx => ?_, by simpa using hr, h3, h4⟩
          have := h1 x hx
          simp; omega
        · exact WInv.fail _ _ (by omega)
theorem WInv.run {s : WS} {R : Nat} (h : WInv s R) (ts : List Th) : WInv (runW s ts) R := by
  induction ts generalizing s with
  | nil => exact h
  | cons t ts ih => exact ih (h.lay t)

set_option maxRecDepth 100000 in
set_option maxHeartbeats 400000 in
theorem new_int (room : Nat) (ri : Int) (hri : ri = (room : Int) ∨ (ri = -1 ∧ room = 0)) (hr : room < 9223372036854775808) (w : World) :
    Calls Try.prog 25 #[.int .i64 ri] w fun e w' => ∃ b, e = .returned (.pointer (some ⟨b, 0, none⟩)) ∧ w.heap.size ≤ b ∧ Wr w' b (newWS room) nilS nilS ∧ Kept [] w w' := by
  rcases hri with rfl | ⟨rfl, rfl⟩
  · exact new_any room w hr
  · go_enter Try.func25, Try.ntmps25
    go_wp2
    go_ret
    exact ⟨w.heap.size, rfl, Nat.le_refl _, ⟨Blk.new _ _ _, World.ownsRow_nil _ _ _ _, World.ownsRow_nil _ _ _ _, by simp [nilS, Value.ownBlock], by simp [nilS, Value.ownBlock], by simp [nilS, Value.ownBlock], hr, by simp [newWS], by simp [newWS], by simp [newWS]⟩, (Kept.refl _ _).alloc _⟩

end Go.Proofs.Ytocmgfmfalaebab

/- closed. -/
namespace Go.Proofs.Ytocmgfmfalaebab
open Go.RowKit

def Th.cells (t : Th) : List Value := [.int .i64 t.kind, .int .u64 (t.n : Int), .int .i64 t.i, .slice t.pa t.p.length t.pc]
def cellsT (ts : List Th) : List Value := ts.flatMap Th.cells
theorem cellsT_append (a b : List Th) : cellsT (a ++ b) = cellsT a ++ cellsT b := by simp [cellsT]
theorem cells_one (t : Th) : ∀ u ∈ t.cells, u.oneCell' = true := by
  intro u hu; simp [Th.cells] at hu; rcases hu with rfl | rfl | rfl | rfl <;> rfl
end Go.Proofs.Ytocmgfmfalaebab

/- awake; a reader that was just made; a row that the call owns. -/
namespace Go.Proofs.Ytocmgfmfalaebab
open Go.RowKit

theorem cellsT_get (ts : List Th) : ∀ (j c : Nat) (h : j < ts.length), c < 4 → (cellsT ts)[j * 4 + c]? = ts[j].cells[c]? := by
  induction ts with
  | nil => intro j c h; simp at h
  | cons t ts ih =>
    intro j c h hc
    have e : cellsT (t :: ts) = t.cells ++ cellsT ts := by simp [cellsT]
    have hl : t.cells.length = 4 := rfl
    rw [e]
    cases j with
    | zero => rw [List.getElem?_append_left (by omega)]; simp
    | succ j =>
      rw [List.getElem?_append_right (by omega), hl, show (j + 1) * 4 + c - 4 = j * 4 + c by omega, ih j c (by simpa using h) hc]
      simp

/-- A reader that was just made. -/
theorem Rf.new {w : World} {b : Nat} {lv : Value} {l : List Nat} (h : Rd w b lv nilS l) : Rf w b lv nilS [] l [] lv.ownBlock := by
  refine ⟨h, ⟨rfl, Or.inl ⟨rfl, rfl⟩⟩, rfl, by simp, by simp, fun k hk => hk, by simp, ?_, ?_, ?_, ?_, by simp⟩
  · exact h.n1
  · intro k hk; simp [nilS, Value.ownBlock]
  · intro k hk; exact (rd_lt h).2 k hk
  · simp [nilS, Value.ownBlock]

theorem sees_new (w : World) (xs : List Nat) (t : TypeId) (hx : xs.length ≤ 1000) : Sees (w.alloc (.cells (u8s xs).toArray t)) (.slice (some ⟨w.heap.size, 0, none⟩) xs.length xs.length) xs := by
  refine Or.inr ⟨w.heap.size, 0, xs.length, rfl, Nat.le_refl _, by unfold maxLen; omega, by simp, fun j hj => ?_⟩
  rw [(Blk.new w (u8s xs).toArray t).cell (0 + j)]
  simp [u8s, List.getElem?_eq_getElem hj]

/-- A writer of the call's own. -/
def WOwn (w : World) (b : Nat) (s : WS) (w' : World) : Prop := ∃ v sv, Wr w' b s v sv ∧ Kept [] w w' ∧ ∀ x, x ∈ foot b v sv → w.heap.size ≤ x
theorem WOwn.new {w w' : World} {b room : Nat} (hb : w.heap.size ≤ b) (h : Wr w' b (newWS room) nilS nilS) (k : Kept [] w w') : WOwn w b (newWS room) w' :=
  ⟨nilS, nilS, h, k, fun x hx => by simp [foot, nilS, Value.ownBlock] at hx; omega⟩
theorem WOwn.go {w W w' : World} {b : Nat} {s s' : WS} {v sv : Value} (h : Wr W b s v sv ∧ Kept [] w W ∧ ∀ x, x ∈ foot b v sv → w.heap.size ≤ x) (hp : WPost W b v sv s' w') : WOwn w b s' w' := by
  obtain ⟨v', sv', g1, g2, g3⟩ := hp
  refine ⟨v', sv', g1, h.2.1.trans g2 (fun x hx => Or.inr (h.2.2 x hx)), fun x hx => ?_⟩
  rcases g3 x hx with h' | h'
  · exact h.2.2 x h'
  · have := h.2.1.size; omega
/-- A reader of the call's own. -/
def ROwn (w : World) (b : Nat) (l : List Nat) (bh : List (List Nat)) (w' : World) : Prop := ∃ lv bv hs D, Rf w' b lv bv hs l bh D ∧ Kept [] w w' ∧ ∀ x, x ∈ D.toList ++ rfoot b bv → w.heap.size ≤ x
theorem ROwn.new {w w' : World} {b : Nat} {lv : Value} {l : List Nat} (hb : w.heap.size ≤ b) (h : Rd w' b lv nilS l) (hl : ∀ k, lv.ownBlock = some k → w.heap.size ≤ k) (k : Kept [] w w') : ROwn w b l [] w' :=
  ⟨lv, nilS, [], lv.ownBlock, Rf.new h, k, fun x hx => by
    simp only [rfoot, nilS, Value.ownBlock, List.mem_append, List.mem_cons, Option.mem_toList, Option.toList_none, List.not_mem_nil, or_false] at hx
    rcases hx with hx | rfl
    · exact hl x hx
    · exact hb⟩
theorem ROwn.go {w W w' : World} {b : Nat} {lv bv : Value} {hs : List Value} {l l' : List Nat} {bh bh' : List (List Nat)} {D : Option Nat} (h : Rf W b lv bv hs l bh D ∧ Kept [] w W ∧ ∀ x, x ∈ D.toList ++ rfoot b bv → w.heap.size ≤ x) (hp : RPost W b bv D l' bh' w') : ROwn w b l' bh' w' := by
  obtain ⟨lv', bv', hs', g1, g2, g3⟩ := hp
  refine ⟨lv', bv', hs', D, g1, h.2.1.trans g2 (fun x hx => Or.inr (h.2.2 x (by simp only [List.mem_append]; exact Or.inr hx))), fun x hx => ?_⟩
  simp only [List.mem_append] at hx
  rcases hx with hx | hx
  · exact h.2.2 x (by simp only [List.mem_append]; exact Or.inl hx)
  · rcases g3 x hx with h' | h'
    · exact h.2.2 x (by simp only [List.mem_append]; exact Or.inr h')
    · have := h.2.1.size; omega
theorem ROwn.took {w W w' : World} {b : Nat} {lv bv : Value} {hs : List Value} {l l' : List Nat} {bh : List (List Nat)} {D : Option Nat} (h : Rf W b lv bv hs l bh D ∧ Kept [] w W ∧ ∀ x, x ∈ D.toList ++ rfoot b bv → w.heap.size ≤ x) (hr : ∃ lv', Rd w' b lv' bv l' ∧ lv'.ownBlock = lv.ownBlock) (hk : Kept [b] W w') : ROwn w b l' bh w' :=
  ROwn.go h (Took.post h.1 ⟨hr, hk⟩)

end Go.Proofs.Ytocmgfmfalaebab

/- A reader's state as a function of the calls: every call, whatever its state. -/
namespace Go.Proofs.Ytocmgfmfalaebab
open Go.RowKit

/-- A reader in plain words: its fault (0: none), what is left, what stands behind each frame that it is in (the outermost first). -/
structure RS where
  fault : Nat
  left : List Nat
  behind : List (List Nat)

def rF (c : Nat) : RS := ⟨c, [], []⟩
def rByte (s : RS) : RS × Nat := if s.fault ≠ 0 then (s, 0) else match s.left with
  | [] => (rF 10, 0)
  | x :: l => (⟨0, l, s.behind⟩, x)
def rFixed (s : RS) (size : Int) : RS × Nat := if s.fault ≠ 0 then (s, 0) else if size < 1 ∨ 8 < size then (rF 2, 0) else if (s.left.length : Int) < size then (rF 10, 0) else (⟨0, s.left.drop size.toNat, s.behind⟩, leV (s.left.take size.toNat))
def rNum (s : RS) : RS × Nat := if s.fault ≠ 0 then (s, 0) else match readNum 0 0 s.left with
  | .inl c => (rF c, 0)
  | .inr (n, r) => (⟨0, r, s.behind⟩, n)
def rInt (s : RS) : RS × Int := ((rNum s).1, unfoldN (rNum s).2)
def rReal (s : RS) : RS × Nat := if s.fault ≠ 0 then (s, 0) else if s.left.length < 8 then (rF 10, 0) else if nanB (of8 (s.left.take 8)) = true ∧ of8 (s.left.take 8) ≠ oneNaN then (rF 11, 0) else (⟨0, s.left.drop 8, s.behind⟩, of8 (s.left.take 8))
def rRaw (s : RS) (n : Int) : RS × List Nat := if s.fault ≠ 0 then (s, []) else if n < 0 then (rF 2, []) else if (s.left.length : Int) < n then (rF 10, []) else (⟨0, s.left.drop n.toNat, s.behind⟩, s.left.take n.toNat)
def rText (s : RS) (most : Int) : RS × List Nat := if s.fault ≠ 0 then (s, []) else match readNum 0 0 s.left with
  | .inl c => (rF c, [])
  | .inr (n, r) => if most.toNat < n then (rF 11, []) else if r.length < n then (rF 10, []) else (⟨0, r.drop n, s.behind⟩, r.take n)
def rEnter (s : RS) : RS × Nat := if s.fault ≠ 0 then (s, 0) else if s.behind.length = 16 then (rF 11, 0) else match readNum 0 0 s.left with
  | .inl c => (rF c, 0)
  | .inr (n, r) => if r.length < n then (rF 10, 0) else (⟨0, r.take n, s.behind ++ [r.drop n]⟩, n)
def rLeave (s : RS) : RS := if s.fault ≠ 0 then s else if s.behind = [] then rF 2 else if s.left ≠ [] then rF 12 else ⟨0, s.behind.getD (s.behind.length - 1) [], s.behind.dropLast⟩
def rRest (s : RS) : Nat := if s.fault ≠ 0 then 0 else s.left.length
def rDone (s : RS) : Nat := if s.fault ≠ 0 then s.fault else if s.left = [] ∧ s.behind = [] then 0 else 12

theorem readNum_code (l : List Nat) : ∀ (k acc : Nat) {c : Nat}, readNum k acc l = .inl c → c = 10 ∨ c = 11 := by
  induction l with
  | nil => intro k acc c h; simp [readNum] at h; exact Or.inl h.symm
  | cons x l ih =>
    intro k acc c h
    rw [readNum] at h
    split at h
    · cases h; exact Or.inr rfl
    · split at h
      · split at h
        · cases h; exact Or.inr rfl
        · cases h
      · exact ih _ _ h

/-- In w there is a reader at block b in the state s; F: its blocks. -/
def Rs (w : World) (b : Nat) (F : List Nat) (s : RS) : Prop :=
  (s.fault ≠ 0 ∧ RdF w b s.fault ∧ s.left = [] ∧ s.behind = [] ∧ F = [b]) ∨
  (s.fault = 0 ∧ (∀ x ∈ s.left, x < 256) ∧ (∀ r ∈ s.behind, ∀ x ∈ r, x < 256) ∧ ∃ lv bv hs D, Rf w b lv bv hs s.left s.behind D ∧ F = D.toList ++ rfoot b bv)
/-- Behind a call on the reader. -/
def RsP (w : World) (b : Nat) (F : List Nat) (s' : RS) (w' : World) : Prop := ∃ F', Rs w' b F' s' ∧ Kept F w w' ∧ ∀ x ∈ F', x ∈ F ∨ w.heap.size ≤ x

theorem Rs.lt {w : World} {b : Nat} {F : List Nat} {s : RS} (h : Rs w b F s) : ∀ x ∈ F, x < w.heap.size := by
  rcases h with ⟨_, h2, _, _, rfl⟩ | ⟨_, _, _, lv, bv, hs, D, h2, rfl⟩
  · intro x hx; simp at hx; subst hx; exact Blk.lt h2
  · exact h2.lts
theorem Rs.mem {w : World} {b : Nat} {F : List Nat} {s : RS} (h : Rs w b F s) : b ∈ F := by
  rcases h with ⟨_, h2, _, _, rfl⟩ | ⟨_, _, _, lv, bv, hs, D, h2, rfl⟩
  · simp
  · simp [rfoot]
theorem Rs.kept {G : List Nat} {w w' : World} {b : Nat} {F : List Nat} {s : RS} (h : Rs w b F s) (k : Kept G w w') (hF : ∀ x ∈ F, x ∉ G) : Rs w' b F s := by
  rcases h with ⟨h1, h2, h3, h4, rfl⟩ | ⟨h1, h3, h4, lv, bv, hs, D, h2, rfl⟩
  · exact Or.inl ⟨h1, Blk.kept h2 k (hF b (by simp)), h3, h4, rfl⟩
  · exact Or.inr ⟨h1, h3, h4, lv, bv, hs, D, h2.kept k hF, rfl⟩
theorem RsP.from {w W w' : World} {b : Nat} {F : List Nat} {s' : RS} (k : Kept [] w W) (h : RsP W b F s' w') : RsP w b F s' w' := by
  obtain ⟨F', h1, h2, h3⟩ := h
  refine ⟨F', h1, (k.mono (by simp)).trans h2 (fun x hx => Or.inl hx), fun x hx => ?_⟩
  rcases h3 x hx with h | h
  · exact Or.inl h
  · right; have := k.size; omega
theorem RsP.behind {w W w' : World} {b : Nat} {F : List Nat} {s' : RS} (h : RsP w b F s' W) (k : Kept [] W w') : RsP w b F s' w' := by
  obtain ⟨F', h1, h2, h3⟩ := h
  exact ⟨F', h1.kept k (by simp), h2.trans k (by simp), h3⟩
theorem RsP.same {w w' : World} {b : Nat} {F : List Nat} {s : RS} (h : Rs w b F s) (k : Kept [] w w') : RsP w b F s w' := ⟨F, h.kept k (by simp), k.mono (by simp), fun _ hx => Or.inl hx⟩
theorem RsP.err {w w' : World} {b c : Nat} {F : List Nat} (hb : b ∈ F) (hc : c ≠ 0) (h : RdF w' b c) (k : Kept [b] w w') : RsP w b F (rF c) w' :=
  ⟨[b], Or.inl ⟨hc, h, rfl, rfl, rfl⟩, k.mono (fun x hx => Or.inl (by simp at hx; subst hx; exact hb)), fun x hx => Or.inl (by simp at hx; subst hx; exact hb)⟩
theorem RsP.ok {w w' : World} {b : Nat} {lv bv : Value} {hs : List Value} {l l' : List Nat} {bh bh' : List (List Nat)} {D : Option Nat} (_h : Rf w b lv bv hs l bh D) (hp : RPost w b bv D l' bh' w') (h1 : ∀ x ∈ l', x < 256) (h2 : ∀ r ∈ bh', ∀ x ∈ r, x < 256) : RsP w b (D.toList ++ rfoot b bv) ⟨0, l', bh'⟩ w' := by
  obtain ⟨lv', bv', hs', g1, g2, g3⟩ := hp
  refine ⟨_, Or.inr ⟨rfl, h1, h2, lv', bv', hs', D, g1, rfl⟩, g2.mono (fun x hx => Or.inl (by simp [hx])), fun x hx => ?_⟩
  simp only [List.mem_append] at hx ⊢
  rcases hx with hx | hx
  · exact Or.inl (Or.inl hx)
  · rcases g3 x hx with h' | h'
    · exact Or.inl (Or.inr h')
    · exact Or.inr h'
theorem RsP.took {w w' : World} {b : Nat} {lv bv : Value} {hs : List Value} {l l' : List Nat} {bh : List (List Nat)} {D : Option Nat} (h : Rf w b lv bv hs l bh D) (hr : ∃ lv', Rd w' b lv' bv l' ∧ lv'.ownBlock = lv.ownBlock) (hk : Kept [b] w w') (h1 : ∀ x ∈ l', x < 256) (h2 : ∀ r ∈ bh, ∀ x ∈ r, x < 256) : RsP w b (D.toList ++ rfoot b bv) ⟨0, l', bh⟩ w' :=
  RsP.ok h (Took.post h ⟨hr, hk⟩) h1 h2

/-- Two objects whose blocks are apart stay apart. -/
theorem apart_go {w : World} {F F' G : List Nat} (hG : ∀ x ∈ G, x < w.heap.size) (hF : ∀ x ∈ F', x ∈ F ∨ w.heap.size ≤ x) (h : ∀ x ∈ F, x ∉ G) : ∀ x ∈ F', x ∉ G := by
  intro x hx hg
  rcases hF x hx with h1 | h1
  · exact h x h1 hg
  · have := hG x hg; omega

theorem rbyte_s {w : World} {b : Nat} {F : List Nat} {s : RS} (h : Rs w b F s) :
    Calls Try.prog 20 #[.pointer (some ⟨b, 0, none⟩)] w fun e w' => e = .returned (.int .i64 ((rByte s).2 : Nat)) ∧ RsP w b F (rByte s).1 w' := by
  have h0 := h
  rcases h with ⟨h1, h2, _, _, rfl⟩ | ⟨h1, h3, h4, lv, bv, hs, D, h2, rfl⟩
  · refine (rbyte_fault h2 h1).mono ?_
    rintro e w' ⟨rfl, hk⟩
    rw [rByte, if_pos h1]
    exact ⟨rfl, RsP.same h0 hk⟩
  · obtain ⟨fa, l, bh⟩ := s
    simp only at h1 h2 h3 h4
    subst h1
    cases l with
    | nil =>
      refine (rbyte_err h2.rd (by simp)).mono ?_
      rintro e w' ⟨rfl, hr, hk⟩
      exact ⟨rfl, RsP.err h0.mem (by omega) hr hk⟩
    | cons x l =>
      refine (rbyte_ok h2.rd (h3 x (by simp))).mono ?_
      rintro e w' ⟨rfl, hr, hk⟩
      exact ⟨rfl, RsP.took h2 hr hk (fun y hy => h3 y (by simp [hy])) h4⟩

theorem rnum_s {w : World} {b : Nat} {F : List Nat} {s : RS} (h : Rs w b F s) :
    Calls Try.prog 54 #[.pointer (some ⟨b, 0, none⟩)] w fun e w' => e = .returned (.int .u64 ((rNum s).2 : Nat)) ∧ RsP w b F (rNum s).1 w' := by
  have h0 := h
  rcases h with ⟨h1, h2, _, _, rfl⟩ | ⟨h1, h3, h4, lv, bv, hs, D, h2, rfl⟩
  · refine (rnum_fault h2 h1).mono ?_
    rintro e w' ⟨rfl, hk⟩
    rw [rNum, if_pos h1]
    exact ⟨rfl, RsP.same h0 hk⟩
  · rw [rNum, if_neg (by simpa using h1)]
    cases hr : readNum 0 0 s.left with
    | inl c =>
      refine (rnum_err h2.rd h3 hr).mono ?_
      rintro e w' ⟨rfl, g1, hk⟩
      exact ⟨rfl, RsP.err h0.mem (by rcases readNum_code _ _ _ hr with rfl | rfl <;> omega) g1 hk⟩
    | inr p =>
      obtain ⟨n, r⟩ := p
      refine (rnum_ok h2.rd h3 hr).mono ?_
      rintro e w' ⟨rfl, g1, hk⟩
      exact ⟨rfl, RsP.took h2 g1 hk (readNum_lt _ 0 0 (by omega) (by simp) h3 hr).2.1 h4⟩

theorem eight (l : List Nat) (h : ¬ l.length < 8) : ∃ x0 x1 x2 x3 x4 x5 x6 x7 rest, l = x0 :: x1 :: x2 :: x3 :: x4 :: x5 :: x6 :: x7 :: rest := by
  rcases l with _ | ⟨x0, _ | ⟨x1, _ | ⟨x2, _ | ⟨x3, _ | ⟨x4, _ | ⟨x5, _ | ⟨x6, _ | ⟨x7, rest⟩⟩⟩⟩⟩⟩⟩⟩
  all_goals first | exact ⟨_, _, _, _, _, _, _, _, _, rfl⟩ | (simp at h)

/-- Bytes that a call answers: new memory. -/
def NewB (w : World) (bs : List Nat) (e : Ending) (w' : World) : Prop := ∃ a cap, e = .returned (.slice a bs.length cap) ∧ w'.ownsRow w.heap.size 5 1 (.slice a bs.length cap) bs.length (u8s bs)
theorem NewB.nil (w w' : World) : NewB w [] (.returned (.slice none 0 0)) w' := ⟨none, 0, rfl, rfl, Or.inl ⟨rfl, rfl⟩⟩

theorem rtext_s {w : World} {b : Nat} {F : List Nat} {s : RS} (h : Rs w b F s) (most : Int) (hm9 : most ≤ 9223372036854775807) :
    Calls Try.prog 67 #[.pointer (some ⟨b, 0, none⟩), .int .i64 most] w fun e w' => NewB w (rText s most).2 e w' ∧ RsP w b F (rText s most).1 w' := by
  have h0 := h
  rcases h with ⟨h1, h2, _, _, rfl⟩ | ⟨h1, h3, h4, lv, bv, hs, D, h2, rfl⟩
  · refine (rtext_fault h2 h1 most).mono ?_
    rintro e w' ⟨rfl, hk⟩
    rw [rText, if_pos h1]
    exact ⟨NewB.nil _ _, RsP.same h0 hk⟩
  · rw [rText, if_neg (by simpa using h1)]
    cases hr : readNum 0 0 s.left with
    | inl c =>
      refine (rtext_err h2.rd h3 most hm9 c (Or.inl hr)).mono ?_
      rintro e w' ⟨rfl, g1, hk⟩
      exact ⟨NewB.nil _ _, RsP.err h0.mem (by rcases readNum_code _ _ _ hr with rfl | rfl <;> omega) g1 hk⟩
    | inr p =>
      obtain ⟨n, r⟩ := p
      simp only
      by_cases ha : most.toNat < n
      · rw [if_pos ha]
        refine (rtext_err h2.rd h3 most hm9 11 (Or.inr ⟨n, r, hr, Or.inl ⟨ha, rfl⟩⟩)).mono ?_
        rintro e w' ⟨rfl, g1, hk⟩
        exact ⟨NewB.nil _ _, RsP.err h0.mem (by omega) g1 hk⟩
      · rw [if_neg ha]
        by_cases hl : r.length < n
        · rw [if_pos hl]
          refine (rtext_err h2.rd h3 most hm9 10 (Or.inr ⟨n, r, hr, Or.inr ⟨by omega, hl, rfl⟩⟩)).mono ?_
          rintro e w' ⟨rfl, g1, hk⟩
          exact ⟨NewB.nil _ _, RsP.err h0.mem (by omega) g1 hk⟩
        · rw [if_neg hl]
          have htl : (r.take n).length = n := by simp; omega
          refine (rtext_ok h2.rd h3 n most hm9 hr (by omega) (by omega)).mono ?_
          rintro e w' ⟨a, cap, rfl, ho, hrd, hk⟩
          refine ⟨⟨a, cap, ?_, ?_⟩, RsP.took h2 hrd hk (fun y hy => (readNum_lt _ 0 0 (by omega) (by simp) h3 hr).2.1 y (List.mem_of_mem_drop hy)) h4⟩
          · show Ending.returned (.slice a n cap) = .returned (.slice a (r.take n).length cap)
            rw [htl]
          · show w'.ownsRow w.heap.size 5 1 (.slice a (r.take n).length cap) (r.take n).length (u8s (r.take n))
            rw [htl] at ho ⊢
            exact ho

theorem rdone_s {w : World} {b : Nat} {F : List Nat} {s : RS} (h : Rs w b F s) :
    Calls Try.prog 21 #[.pointer (some ⟨b, 0, none⟩)] w fun e w' => e = .returned (.int .i64 (rDone s : Nat)) ∧ w = w' := by
  rcases h with ⟨h1, h2, _, _, rfl⟩ | ⟨h1, h3, h4, lv, bv, hs, D, h2, rfl⟩
  · rw [rDone, if_pos h1]; exact rdone_fault h2 h1
  · rw [rDone, if_neg (by simpa using h1)]; exact rdone_f h2 _ rfl

theorem read_s {w : World} {x : Value} {bs : List Nat} (h : Sees w x bs) (hl : bs.length ≤ 140737488355328) (hb : ∀ x ∈ bs, x < 256) :
    Calls Try.prog 19 #[x] w fun e w' => ∃ b F, e = .returned (.pointer (some ⟨b, 0, none⟩)) ∧ Rs w' b F ⟨0, bs, []⟩ ∧ (∀ x ∈ F, w.heap.size ≤ x) ∧ Kept [] w w' := by
  refine (read_any h hl).mono ?_
  rintro e w' ⟨b, lv, rfl, hr, hb', hl', hk⟩
  refine ⟨b, _, rfl, Or.inr ⟨rfl, hb, by simp, lv, nilS, [], lv.ownBlock, Rf.new hr, rfl⟩, fun x hx => ?_, hk⟩
  simp only [rfoot, nilS, Value.ownBlock, List.mem_append, List.mem_cons, Option.mem_toList, Option.toList_none, List.not_mem_nil, or_false] at hx
  rcases hx with hx | rfl
  · exact hl' x hx
  · exact hb'
end Go.Proofs.Ytocmgfmfalaebab

/- A writer with its blocks as one set: every call, whatever its state. -/
namespace Go.Proofs.Ytocmgfmfalaebab
open Go.RowKit

/-- In w there is a writer at block b in the state s; F: its blocks. -/
def Ws (w : World) (b : Nat) (F : List Nat) (s : WS) : Prop := ∃ v sv, Wr w b s v sv ∧ F = foot b v sv
def WsP (w : World) (b : Nat) (F : List Nat) (s' : WS) (w' : World) : Prop := ∃ F', Ws w' b F' s' ∧ Kept F w w' ∧ ∀ x ∈ F', x ∈ F ∨ w.heap.size ≤ x

theorem WsP.of {w w' : World} {b : Nat} {v sv : Value} {s' : WS} (h : WPost w b v sv s' w') : WsP w b (foot b v sv) s' w' := by
  obtain ⟨v', sv', h1, h2, h3⟩ := h
  exact ⟨_, ⟨v', sv', h1, rfl⟩, h2, h3⟩
theorem Ws.lt {w : World} {b : Nat} {F : List Nat} {s : WS} (h : Ws w b F s) : ∀ x ∈ F, x < w.heap.size := by
  obtain ⟨v, sv, h1, rfl⟩ := h; exact foot_lt h1
theorem Ws.mem {w : World} {b : Nat} {F : List Nat} {s : WS} (h : Ws w b F s) : b ∈ F := by
  obtain ⟨v, sv, h1, rfl⟩ := h; simp [foot]
theorem Ws.kept {G : List Nat} {w w' : World} {b : Nat} {F : List Nat} {s : WS} (h : Ws w b F s) (k : Kept G w w') (hF : ∀ x ∈ F, x ∉ G) : Ws w' b F s := by
  obtain ⟨v, sv, h1, rfl⟩ := h; exact ⟨v, sv, h1.kept k hF, rfl⟩
theorem WsP.from {w W w' : World} {b : Nat} {F : List Nat} {s' : WS} (k : Kept [] w W) (h : WsP W b F s' w') : WsP w b F s' w' := by
  obtain ⟨F', h1, h2, h3⟩ := h
  refine ⟨F', h1, (k.mono (by simp)).trans h2 (fun x hx => Or.inl hx), fun x hx => ?_⟩
  rcases h3 x hx with h | h
  · exact Or.inl h
  · right; have := k.size; omega

theorem wdone_okS {w : World} {b : Nat} {F : List Nat} {s : WS} (h : Ws w b F s) (hf : s.fault = 0) (hs : s.sts = []) :
    Calls Try.prog 18 #[.pointer (some ⟨b, 0, none⟩)] w fun e w' => ∃ a cap, e = .returned (.tuple #[.slice a s.bs.length cap, .int .i64 0]) ∧ w'.ownsRow w.heap.size 5 1 (.slice a s.bs.length cap) s.bs.length (u8s s.bs) ∧ Kept [] w w' := by
  obtain ⟨v, sv, h1, rfl⟩ := h
  exact wdone_ok h1 hf hs
theorem wdone_faultS {w : World} {b : Nat} {F : List Nat} {s : WS} (h : Ws w b F s) (hf : s.fault ≠ 0) :
    Calls Try.prog 18 #[.pointer (some ⟨b, 0, none⟩)] w fun e w' => e = .returned (.tuple #[.slice none 0 0, .int .i64 (s.fault : Int)]) ∧ ∃ m, w' = w.drewN m := by
  obtain ⟨v, sv, h1, rfl⟩ := h
  exact wdone_fault h1 hf

set_option maxRecDepth 100000 in
set_option maxHeartbeats 400000 in
theorem wlen_fault {w : World} {b : Nat} {F : List Nat} {s : WS} (h : Ws w b F s) (hf : s.fault ≠ 0) :
    Calls Try.prog 22 #[.pointer (some ⟨b, 0, none⟩)] w fun e w' => e = .returned (.int .i64 0) ∧ w = w' := by
  obtain ⟨v, sv, h1, rfl⟩ := h
  have HH := hide h1
  clear h1
  go_enter Try.func22, Try.ntmps22
  go_wp2_with (first | (go_at_call 31; refine (fails_yes (unhide HH) hf).mono ?_; rintro e w' ⟨rfl, rfl⟩))
  go_ret
  exact ⟨rfl, rfl⟩

theorem wbyte_outS {w : World} {b : Nat} {F : List Nat} {s : WS} (h : Ws w b F s) (n : Int) (hn : n < 0 ∨ 255 < n) :
    Calls Try.prog 26 #[.pointer (some ⟨b, 0, none⟩), .int .i64 n] w fun e w' => e = .returned (.tuple #[]) ∧ WsP w b F (wFail s 2) w' := by
  obtain ⟨v, sv, h1, rfl⟩ := h
  refine (wbyte_out h1 n hn).mono ?_
  rintro e w' ⟨rfl, hp⟩
  exact ⟨rfl, WsP.of hp⟩
theorem new_s (room : Nat) (w : World) (hr : room < 9223372036854775808) :
    Calls Try.prog 25 #[.int .i64 room] w fun e w' => ∃ b, e = .returned (.pointer (some ⟨b, 0, none⟩)) ∧ Ws w' b [b] (newWS room) ∧ w.heap.size ≤ b ∧ Kept [] w w' := by
  refine (new_any room w hr).mono ?_
  rintro e w' ⟨b, rfl, h2, h1, h3⟩
  exact ⟨b, rfl, ⟨nilS, nilS, h1, rfl⟩, h2, h3⟩
end Go.Proofs.Ytocmgfmfalaebab

/- A reader that is in no frame: its blocks stay within what they were. -/
namespace Go.Proofs.Ytocmgfmfalaebab
open Go.RowKit

def RsQ (w : World) (b : Nat) (F : List Nat) (s' : RS) (w' : World) : Prop := ∃ F', Rs w' b F' s' ∧ Kept F w w' ∧ ∀ x ∈ F', x ∈ F
theorem RsQ.from {w W w' : World} {b : Nat} {F : List Nat} {s' : RS} (k : Kept [] w W) (h : RsQ W b F s' w') : RsQ w b F s' w' := by
  obtain ⟨F', h1, h2, h3⟩ := h
  exact ⟨F', h1, (k.mono (by simp)).trans h2 (fun x hx => Or.inl hx), h3⟩
theorem RsQ.same {w w' : World} {b : Nat} {F : List Nat} {s : RS} (h : Rs w b F s) (k : Kept [] w w') : RsQ w b F s w' := ⟨F, h.kept k (by simp), k.mono (by simp), fun _ hx => hx⟩
theorem RsQ.err {w w' : World} {b c : Nat} {F : List Nat} (hb : b ∈ F) (hc : c ≠ 0) (h : RdF w' b c) (k : Kept [b] w w') : RsQ w b F (rF c) w' :=
  ⟨[b], Or.inl ⟨hc, h, rfl, rfl, rfl⟩, k.mono (fun x hx => Or.inl (by simp at hx; subst hx; exact hb)), fun x hx => by simp at hx; subst hx; exact hb⟩
theorem RsQ.took {w w' : World} {b : Nat} {lv bv : Value} {hs : List Value} {l l' : List Nat} {bh : List (List Nat)} {D : Option Nat} (h : Rf w b lv bv hs l bh D) (hr : ∃ lv', Rd w' b lv' bv l' ∧ lv'.ownBlock = lv.ownBlock) (hk : Kept [b] w w') (h1 : ∀ x ∈ l', x < 256) (h2 : ∀ r ∈ bh, ∀ x ∈ r, x < 256) : RsQ w b (D.toList ++ rfoot b bv) ⟨0, l', bh⟩ w' := by
  obtain ⟨lv', r1, r2⟩ := hr
  exact ⟨_, Or.inr ⟨rfl, h1, h2, lv', bv, hs, D, h.step r1 r2 hk, rfl⟩, hk.mono (fun x hx => Or.inl (by simp at hx; subst hx; simp [rfoot])), fun _ hx => hx⟩

theorem rbyte_q {w : World} {b : Nat} {F : List Nat} {s : RS} (h : Rs w b F s) :
    Calls Try.prog 20 #[.pointer (some ⟨b, 0, none⟩)] w fun e w' => e = .returned (.int .i64 ((rByte s).2 : Nat)) ∧ RsQ w b F (rByte s).1 w' := by
  have h0 := h
  rcases h with ⟨h1, h2, _, _, rfl⟩ | ⟨h1, h3, h4, lv, bv, hs, D, h2, rfl⟩
  · refine (rbyte_fault h2 h1).mono ?_
    rintro e w' ⟨rfl, hk⟩
    rw [rByte, if_pos h1]
    exact ⟨rfl, RsQ.same h0 hk⟩
  · obtain ⟨fa, l, bh⟩ := s
    simp only at h1 h2 h3 h4
    subst h1
    cases l with
    | nil =>
      refine (rbyte_err h2.rd (by simp)).mono ?_
      rintro e w' ⟨rfl, hr, hk⟩
      exact ⟨rfl, RsQ.err h0.mem (by omega) hr hk⟩
    | cons x l =>
      refine (rbyte_ok h2.rd (h3 x (by simp))).mono ?_
      rintro e w' ⟨rfl, hr, hk⟩
      exact ⟨rfl, RsQ.took h2 hr hk (fun y hy => h3 y (by simp [hy])) h4⟩

theorem rnum_q {w : World} {b : Nat} {F : List Nat} {s : RS} (h : Rs w b F s) :
    Calls Try.prog 54 #[.pointer (some ⟨b, 0, none⟩)] w fun e w' => e = .returned (.int .u64 ((rNum s).2 : Nat)) ∧ RsQ w b F (rNum s).1 w' := by
  have h0 := h
  rcases h with ⟨h1, h2, _, _, rfl⟩ | ⟨h1, h3, h4, lv, bv, hs, D, h2, rfl⟩
  · refine (rnum_fault h2 h1).mono ?_
    rintro e w' ⟨rfl, hk⟩
    rw [rNum, if_pos h1]
    exact ⟨rfl, RsQ.same h0 hk⟩
  · rw [rNum, if_neg (by simpa using h1)]
    cases hr : readNum 0 0 s.left with
    | inl c =>
      refine (rnum_err h2.rd h3 hr).mono ?_
      rintro e w' ⟨rfl, g1, hk⟩
      exact ⟨rfl, RsQ.err h0.mem (by rcases readNum_code _ _ _ hr with rfl | rfl <;> omega) g1 hk⟩
    | inr p =>
      obtain ⟨n, r⟩ := p
      refine (rnum_ok h2.rd h3 hr).mono ?_
      rintro e w' ⟨rfl, g1, hk⟩
      exact ⟨rfl, RsQ.took h2 g1 hk (readNum_lt _ 0 0 (by omega) (by simp) h3 hr).2.1 h4⟩

theorem rtext_q {w : World} {b : Nat} {F : List Nat} {s : RS} (h : Rs w b F s) (most : Int) (hm9 : most ≤ 9223372036854775807) :
    Calls Try.prog 67 #[.pointer (some ⟨b, 0, none⟩), .int .i64 most] w fun e w' => NewB w (rText s most).2 e w' ∧ RsQ w b F (rText s most).1 w' := by
  have h0 := h
  rcases h with ⟨h1, h2, _, _, rfl⟩ | ⟨h1, h3, h4, lv, bv, hs, D, h2, rfl⟩
  · refine (rtext_fault h2 h1 most).mono ?_
    rintro e w' ⟨rfl, hk⟩
    rw [rText, if_pos h1]
    exact ⟨NewB.nil _ _, RsQ.same h0 hk⟩
  · rw [rText, if_neg (by simpa using h1)]
    cases hr : readNum 0 0 s.left with
    | inl c =>
      refine (rtext_err h2.rd h3 most hm9 c (Or.inl hr)).mono ?_
      rintro e w' ⟨rfl, g1, hk⟩
      exact ⟨NewB.nil _ _, RsQ.err h0.mem (by rcases readNum_code _ _ _ hr with rfl | rfl <;> omega) g1 hk⟩
    | inr p =>
      obtain ⟨n, r⟩ := p
      simp only
      by_cases ha : most.toNat < n
      · rw [if_pos ha]
        refine (rtext_err h2.rd h3 most hm9 11 (Or.inr ⟨n, r, hr, Or.inl ⟨ha, rfl⟩⟩)).mono ?_
        rintro e w' ⟨rfl, g1, hk⟩
        exact ⟨NewB.nil _ _, RsQ.err h0.mem (by omega) g1 hk⟩
      · rw [if_neg ha]
        by_cases hl : r.length < n
        · rw [if_pos hl]
          refine (rtext_err h2.rd h3 most hm9 10 (Or.inr ⟨n, r, hr, Or.inr ⟨by omega, hl, rfl⟩⟩)).mono ?_
          rintro e w' ⟨rfl, g1, hk⟩
          exact ⟨NewB.nil _ _, RsQ.err h0.mem (by omega) g1 hk⟩
        · rw [if_neg hl]
          have htl : (r.take n).length = n := by simp; omega
          refine (rtext_ok h2.rd h3 n most hm9 hr (by omega) (by omega)).mono ?_
          rintro e w' ⟨a, cap, rfl, ho, hrd, hk⟩
          refine ⟨⟨a, cap, ?_, ?_⟩, RsQ.took h2 hrd hk (fun y hy => (readNum_lt _ 0 0 (by omega) (by simp) h3 hr).2.1 y (List.mem_of_mem_drop hy)) h4⟩
          · show Ending.returned (.slice a n cap) = .returned (.slice a (r.take n).length cap)
            rw [htl]
          · show w'.ownsRow w.heap.size 5 1 (.slice a (r.take n).length cap) (r.take n).length (u8s (r.take n))
            rw [htl] at ho ⊢
            exact ho
end Go.Proofs.Ytocmgfmfalaebab

/- A record in plain words; which ones are sound; its form. -/
namespace Go.Proofs.Ytocmgfmfalaebab
open Go.RowKit

structure Pl where
  kind : Int
  shard : Int
  epoch : Int
  peer : Int
  client : Int
  seq : Int
  okind : Int
  key : List Nat
  val : List Nat
  rev : Int
  copy : List Nat
/-- Where its three lists lie. -/
structure Lo where
  ka : Option Addr
  kc : Nat
  va : Option Addr
  vc : Nat
  ca : Option Addr
  cc : Nat
def opc (p : Pl) (l : Lo) : Array Value := #[.int .i64 p.okind, .slice l.ka p.key.length l.kc, .slice l.va p.val.length l.vc, .int .i64 p.rev]
def rcc (p : Pl) (l : Lo) : Array Value := #[.int .i64 p.kind, .int .i64 p.shard, .int .i64 p.epoch, .int .i64 p.peer, .int .i64 p.client, .int .i64 p.seq, .int .i64 p.okind, .slice l.ka p.key.length l.kc, .slice l.va p.val.length l.vc, .int .i64 p.rev, .slice l.ca p.copy.length l.cc]

/-- Is an op right? -/
def rgt (k : Int) (kl vl : Nat) (rev : Int) : Bool :=
  if k = 1 ∨ k = 3 then decide (1 ≤ kl ∧ kl ≤ 64 ∧ vl = 0 ∧ rev = 0)
  else if k = 2 then decide (1 ≤ kl ∧ kl ≤ 64 ∧ vl ≤ 256 ∧ rev = 0)
  else if k = 4 then decide (1 ≤ kl ∧ kl ≤ 64 ∧ vl ≤ 256 ∧ 0 ≤ rev ∧ rev ≤ 1099511627776)
  else if k = 5 then decide (kl ≤ 65 ∧ vl = 0 ∧ rev = 0)
  else false
/-- Is it a write that is right? -/
def wrt (k : Int) (kl vl : Nat) (rev : Int) : Bool := decide (k ≠ 1 ∧ k ≠ 5) && rgt k kl vl rev
/-- Nothing in it. -/
def blo (k : Int) (kl vl : Nat) (rev : Int) : Bool := decide (k = 0 ∧ kl = 0 ∧ vl = 0 ∧ rev = 0)
def blank (p : Pl) : Bool := decide (p.epoch = 0 ∧ p.peer = 0 ∧ p.client = 0 ∧ p.seq = 0) && blo p.okind p.key.length p.val.length p.rev && decide (p.copy.length = 0)

/-- The fields: a number at its place, from lo to hi; an op; a copy. -/
inductive Fk where
  | num (o : Nat) (lo hi : Int)
  | op
  | copy
def sh : Fk := .num 1 0 63
def ep : Fk := .num 2 1 1073741824
def pe : Fk := .num 3 0 7
def cl : Fk := .num 4 0 15
def sq : Fk := .num 5 1 1073741824
def rowOf (k : Int) : List Fk := if k = 1 then [sh, cl, sq, .op] else if k = 2 then [sh, pe] else if k = 4 then [sh, ep, pe, .copy] else if 3 ≤ k ∧ k ≤ 8 then [sh] else []
def getN (p : Pl) : Nat → Int
  | 1 => p.shard
  | 2 => p.epoch
  | 3 => p.peer
  | 4 => p.client
  | _ => p.seq
def setN (p : Pl) (n : Int) : Nat → Pl
  | 1 => { p with shard := n }
  | 2 => { p with epoch := n }
  | 3 => { p with peer := n }
  | 4 => { p with client := n }
  | _ => { p with seq := n }
def okF (p : Pl) : Fk → Bool
  | .num o lo hi => decide (lo ≤ getN p o ∧ getN p o ≤ hi)
  | .op => wrt p.okind p.key.length p.val.length p.rev
  | .copy => decide (p.copy.length ≤ 262144)
def wipeF (p : Pl) : Fk → Pl
  | .num o _ _ => setN p 0 o
  | .op => { p with okind := 0, key := [], val := [], rev := 0 }
  | .copy => { p with copy := [] }
def nilOp (l : Lo) : Lo := { l with ka := none, kc := 0, va := none, vc := 0 }
def nilCopy (l : Lo) : Lo := { l with ca := none, cc := 0 }
def wipeL (l : Lo) : Fk → Lo
  | .num _ _ _ => l
  | .op => nilOp l
  | .copy => nilCopy l
def formO (p : Pl) : List Nat := [p.okind.toNat] ++ (form p.key.length ++ p.key) ++ (if p.okind = 2 ∨ p.okind = 4 then form p.val.length ++ p.val else []) ++ (if p.okind = 4 then form p.rev.toNat else [])
def encF (p : Pl) : Fk → List Nat
  | .num o _ _ => form (getN p o).toNat
  | .op => formO p
  | .copy => form p.copy.length ++ p.copy
def sndL (p : Pl) : List Fk → Pl → Bool
  | [], r => blank r
  | k :: ks, r => okF p k && sndL p ks (wipeF r k)
/-- Is it sound? -/
def snd (p : Pl) : Bool := decide (rowOf p.kind ≠ []) && sndL p (rowOf p.kind) p
def encL (p : Pl) (ks : List Fk) : List Nat := ks.flatMap (encF p)
/-- Its form. -/
def enc (p : Pl) : List Nat := [p.kind.toNat] ++ encL p (rowOf p.kind)
/-- Its number out of a reader's. -/
def toI (n : Nat) : Int := wrap64 (n : Int)
def takO (s : RS) (p : Pl) : RS × Pl :=
  let a := rByte s
  let b := rText a.1 64
  let c := if a.2 = 2 ∨ a.2 = 4 then rText b.1 256 else (b.1, [])
  let d := if a.2 = 4 then ((rNum c.1).1, toI (rNum c.1).2) else (c.1, 0)
  (d.1, { p with okind := a.2, key := b.2, val := c.2, rev := d.2 })
def takF (s : RS) (p : Pl) : Fk → RS × Pl
  | .num o _ _ => ((rNum s).1, setN p (toI (rNum s).2) o)
  | .op => takO s p
  | .copy => ((rText s 262144).1, { p with copy := (rText s 262144).2 })
def takL : List Fk → RS → Pl → RS × Pl
  | [], s, p => (s, p)
  | k :: ks, s, p => takL ks (takF s p k).1 (takF s p k).2
def zeroP : Pl := ⟨0, 0, 0, 0, 0, 0, 0, [], [], 0, []⟩
def decB (bs : List Nat) : RS × Pl := let a := rByte ⟨0, bs, []⟩; takL (rowOf a.2) a.1 { zeroP with kind := a.2 }
/-- The record that the bytes are the form of. -/
def dec (bs : List Nat) : Option Pl := if rDone (decB bs).1 = 0 ∧ snd (decB bs).2 = true then some (decB bs).2 else none
end Go.Proofs.Ytocmgfmfalaebab

/- The fields of a record: where a field lies; a number's four functions. -/
namespace Go.Proofs.Ytocmgfmfalaebab
open Go.RowKit

theorem ret_bool {a b : Bool} (h : a = b) : Ending.returned (.bool a) = Ending.returned (.bool b) := by rw [h]
theorem Kept.step {a b c : World} (h : Kept [] a b) (k : Kept [] b c) : Kept [] a c := h.trans k (fun _ hx => by cases hx)

/-- g answers where the field at o of a record lies. -/
structure Acc (g o : Nat) : Prop where
  en : ∀ (a : Array Value) (w : World), (callFunc g a).run Try.prog w = .ok (.enter g a) w
  at_ : ∀ (w : World) (b : Nat), Calls Try.prog g #[.pointer (some ⟨b, 0, none⟩)] w fun e w' => e = .returned (.pointer (some ⟨b, o, none⟩)) ∧ w' = w

set_option maxRecDepth 100000 in
theorem acc1 : Acc 33 1 := ⟨fun _ _ => by kernel_rfl, fun w b => by
  go_enter Try.func33, Try.ntmps33
  go_wp2
  go_ret
  exact ⟨rfl, rfl⟩⟩
set_option maxRecDepth 100000 in
theorem acc2 : Acc 34 2 := ⟨fun _ _ => by kernel_rfl, fun w b => by
  go_enter Try.func34, Try.ntmps34
  go_wp2
  go_ret
  exact ⟨rfl, rfl⟩⟩
set_option maxRecDepth 100000 in
theorem acc3 : Acc 35 3 := ⟨fun _ _ => by kernel_rfl, fun w b => by
  go_enter Try.func35, Try.ntmps35
  go_wp2
  go_ret
  exact ⟨rfl, rfl⟩⟩
set_option maxRecDepth 100000 in
theorem acc4 : Acc 36 4 := ⟨fun _ _ => by kernel_rfl, fun w b => by
  go_enter Try.func36, Try.ntmps36
  go_wp2
  go_ret
  exact ⟨rfl, rfl⟩⟩
set_option maxRecDepth 100000 in
theorem acc5 : Acc 37 5 := ⟨fun _ _ => by kernel_rfl, fun w b => by
  go_enter Try.func37, Try.ntmps37
  go_wp2
  go_ret
  exact ⟨rfl, rfl⟩⟩
set_option maxRecDepth 100000 in
theorem acc6 : Acc 39 6 := ⟨fun _ _ => by kernel_rfl, fun w b => by
  go_enter Try.func39, Try.ntmps39
  go_wp2
  go_ret
  exact ⟨rfl, rfl⟩⟩
set_option maxRecDepth 100000 in
theorem acc7 : Acc 41 10 := ⟨fun _ _ => by kernel_rfl, fun w b => by
  go_enter Try.func41, Try.ntmps41
  go_wp2
  go_ret
  exact ⟨rfl, rfl⟩⟩

/-- a function as a value -/
def fv (g : Nat) : Value := .func (.func g) #[] #[]
def ptr (b : Nat) : Value := .pointer (some ⟨b, 0, none⟩)

set_option maxRecDepth 100000 in
set_option maxHeartbeats 400000 in
theorem num1_any {w : World} {g o b p q s : Nat} {n lo hi : Int} (ha : Acc g o) (hn : w.cell? ⟨b, o, none⟩ = some (.int .i64 n)) (hp : w.cell? ⟨p, 0, none⟩ = some (fv g)) (hq : w.cell? ⟨q, 0, none⟩ = some (.int .i64 lo)) (hs : w.cell? ⟨s, 0, none⟩ = some (.int .i64 hi)) :
    Calls Try.prog 50 #[ptr b, ptr p, ptr q, ptr s] w fun e w' => e = .returned (.bool (decide (lo ≤ n ∧ n ≤ hi))) ∧ Kept [] w w' := by
  have hen := ha.en
  have HA := hide ha.at_
  unfold ptr fv at *
  clear ha
  by_cases h1 : lo ≤ n
  · have hd : decide (lo ≤ n) = true := decide_eq_true h1
    go_enter Try.func50, Try.ntmps50
    go_wp2_with fail
    go_quiet (refine Calls.quiet_of_same (unhide HA _ _))
    go_wp2
    go_ret
    refine ⟨ret_bool ?_, (Kept.refl _ _).drewN _⟩
    simp; omega
  · have hd : decide (lo ≤ n) = false := decide_eq_false h1
    go_enter Try.func50, Try.ntmps50
    go_wp2_with fail
    go_quiet (refine Calls.quiet_of_same (unhide HA _ _))
    go_wp2
    go_ret
    refine ⟨ret_bool ?_, (Kept.refl _ _).drewN _⟩
    simp; omega
end Go.Proofs.Ytocmgfmfalaebab

/- The small questions of ops and records. -/
namespace Go.Proofs.Ytocmgfmfalaebab
open Go.RowKit

def ov (k : Int) (ka : Option Addr) (kl kc : Nat) (va : Option Addr) (vl vc : Nat) (rev : Int) : Value := .agg #[.int .i64 k, .slice ka kl kc, .slice va vl vc, .int .i64 rev]
theorem box4 {W : World} {b : Nat} {x y z u : Value} {t : TypeId} (h : Blk W b #[x, y, z, u] t) : W.cell? ⟨b, 0, none⟩ = some x ∧ W.cell? ⟨b, 1, none⟩ = some y ∧ W.cell? ⟨b, 2, none⟩ = some z ∧ W.cell? ⟨b, 3, none⟩ = some u := ⟨h.cell 0, h.cell 1, h.cell 2, h.cell 3⟩
theorem box11 {W : World} {b : Nat} {x0 x1 x2 x3 x4 x5 x6 x7 x8 x9 x10 : Value} {t : TypeId} (h : Blk W b #[x0, x1, x2, x3, x4, x5, x6, x7, x8, x9, x10] t) : W.cell? ⟨b, 0, none⟩ = some x0 ∧ W.cell? ⟨b, 1, none⟩ = some x1 ∧ W.cell? ⟨b, 2, none⟩ = some x2 ∧ W.cell? ⟨b, 3, none⟩ = some x3 ∧ W.cell? ⟨b, 4, none⟩ = some x4 ∧ W.cell? ⟨b, 5, none⟩ = some x5 ∧ W.cell? ⟨b, 6, none⟩ = some x6 ∧ W.cell? ⟨b, 7, none⟩ = some x7 ∧ W.cell? ⟨b, 8, none⟩ = some x8 ∧ W.cell? ⟨b, 9, none⟩ = some x9 ∧ W.cell? ⟨b, 10, none⟩ = some x10 := ⟨h.cell 0, h.cell 1, h.cell 2, h.cell 3, h.cell 4, h.cell 5, h.cell 6, h.cell 7, h.cell 8, h.cell 9, h.cell 10⟩

set_option maxRecDepth 100000 in
theorem isKey_any (w : World) (a : Option Addr) (n c : Nat) : Calls Try.prog 80 #[.slice a n c] w fun e w' => e = .returned (.bool (decide (1 ≤ n ∧ n ≤ 64))) ∧ w' = w := by
  go_enter Try.func80, Try.ntmps80
  go_wp2_with fail
  all_goals
    go_ret
    refine ⟨ret_bool ?_, rfl⟩
    rw [Bool.eq_iff_iff]
    simp
    omega
set_option maxRecDepth 100000 in
theorem isValue_any (w : World) (a : Option Addr) (n c : Nat) : Calls Try.prog 81 #[.slice a n c] w fun e w' => e = .returned (.bool (decide (n ≤ 256))) ∧ w' = w := by
  go_enter Try.func81, Try.ntmps81
  go_wp2_with fail
  all_goals
    go_ret
    refine ⟨ret_bool ?_, rfl⟩
    rw [Bool.eq_iff_iff]
    simp
    try omega
set_option maxRecDepth 100000 in
theorem hasValue_any (w : World) (k : Int) (ka : Option Addr) (kl kc : Nat) (va : Option Addr) (vl vc : Nat) (rev : Int) : Calls Try.prog 75 #[ov k ka kl kc va vl vc rev] w fun e w' => e = .returned (.bool (decide (k = 2 ∨ k = 4))) ∧ Kept [] w w' := by
  unfold ov
  go_enter Try.func75, Try.ntmps75
  go_wp2_with fail
  all_goals
    go_ret
    refine ⟨ret_bool ?_, (Kept.refl _ _).alloc _⟩
    rw [Bool.eq_iff_iff]
    simp
    try omega
set_option maxRecDepth 100000 in
theorem hasRev_any (w : World) (k : Int) (ka : Option Addr) (kl kc : Nat) (va : Option Addr) (vl vc : Nat) (rev : Int) : Calls Try.prog 76 #[ov k ka kl kc va vl vc rev] w fun e w' => e = .returned (.bool (decide (k = 4))) ∧ Kept [] w w' := by
  unfold ov
  go_enter Try.func76, Try.ntmps76
  go_wp2_with fail
  all_goals
    go_ret
    refine ⟨ret_bool ?_, (Kept.refl _ _).alloc _⟩
    rw [Bool.eq_iff_iff]
    simp
    try omega
set_option maxRecDepth 100000 in
theorem isBlankOp_any (w : World) (k : Int) (ka : Option Addr) (kl kc : Nat) (va : Option Addr) (vl vc : Nat) (rev : Int) : Calls Try.prog 42 #[ov k ka kl kc va vl vc rev] w fun e w' => e = .returned (.bool (blo k kl vl rev)) ∧ Kept [] w w' := by
  unfold ov
  go_enter Try.func42, Try.ntmps42
  go_wp2_with fail
  all_goals
    go_ret
    refine ⟨ret_bool ?_, (Kept.refl _ _).alloc _⟩
    rw [Bool.eq_iff_iff]
    simp [blo]
    try omega
set_option maxRecDepth 100000 in
theorem right_any (w : World) (k : Int) (ka : Option Addr) (kl kc : Nat) (va : Option Addr) (vl vc : Nat) (rev : Int) : Calls Try.prog 74 #[ov k ka kl kc va vl vc rev] w fun e w' => e = .returned (.bool (rgt k kl vl rev)) ∧ Kept [] w w' := by
  have HK := fun W => isKey_any W ka kl kc
  have HV := fun W => isValue_any W va vl vc
  unfold ov
  go_enter Try.func74, Try.ntmps74
  go_wp2_with (first
    | (go_at_call 80; refine (HK _).mono ?_; rintro e w3 ⟨rfl, hq⟩; have hq2 := hq.symm; subst hq2)
    | (go_at_call 81; refine (HV _).mono ?_; rintro e w3 ⟨rfl, hq⟩; have hq2 := hq.symm; subst hq2))
  all_goals
    go_ret
    refine ⟨ret_bool ?_, (Kept.refl _ _).alloc _⟩
    rw [Bool.eq_iff_iff]
    simp_all [rgt]
    try omega
set_option maxRecDepth 100000 in
theorem isWrite_any (w : World) (k : Int) (ka : Option Addr) (kl kc : Nat) (va : Option Addr) (vl vc : Nat) (rev : Int) : Calls Try.prog 57 #[ov k ka kl kc va vl vc rev] w fun e w' => e = .returned (.bool (wrt k kl vl rev)) ∧ Kept [] w w' := by
  have HR := fun W => right_any W k ka kl kc va vl vc rev
  unfold ov at *
  go_enter Try.func57, Try.ntmps57
  go_wp2_with (first
    | (go_at_call 74; refine (HR _).mono ?_; rintro e w3 ⟨rfl, hk⟩))
  all_goals
    go_ret
    refine ⟨ret_bool ?_, ?_⟩
    · rw [Bool.eq_iff_iff]
      simp_all [wrt]
    first | exact ((Kept.refl _ _).alloc _).step hk | exact ((Kept.refl _ _).alloc _)
def rv (p : Pl) (l : Lo) : Value := .agg (rcc p l)
set_option maxRecDepth 100000 in
set_option maxHeartbeats 800000 in
theorem isBlank_any (w : World) (p : Pl) (l : Lo) : Calls Try.prog 24 #[rv p l] w fun e w' => e = .returned (.bool (blank p)) ∧ Kept [] w w' := by
  have HR := fun W => isBlankOp_any W p.okind l.ka p.key.length l.kc l.va p.val.length l.vc p.rev
  unfold ov rv rcc at *
  go_enter Try.func24, Try.ntmps24
  go_wp2_with (first
    | (go_at_call 42; refine (HR _).mono ?_; rintro e w3 ⟨rfl, hk⟩; obtain ⟨c0, c1, c2, c3, c4, c5, c6, c7, c8, c9, c10⟩ := box11 ((Blk.new w _ _).kept hk (by simp))))
  all_goals
    go_ret
    refine ⟨ret_bool ?_, ?_⟩
    · rw [Bool.eq_iff_iff]
      simp_all [blank]
    first | exact ((Kept.refl _ _).alloc _).step hk | exact ((Kept.refl _ _).alloc _)
end Go.Proofs.Ytocmgfmfalaebab

/- A number's, a text's and an op's functions: laying, taking, wiping. -/
namespace Go.Proofs.Ytocmgfmfalaebab
open Go.RowKit

theorem wnum_s {w : World} {b : Nat} {F : List Nat} {s : WS} (h : Ws w b F s) (n : Nat) (hn : n < 18446744073709551616) (hl : s.bs.length ≤ 1000000000000) :
    Calls Try.prog 52 #[.pointer (some ⟨b, 0, none⟩), .int .u64 n] w fun e w' => e = .returned (.tuple #[]) ∧ WsP w b F (wLay s (form n)) w' := by
  obtain ⟨v, sv, h1, rfl⟩ := h
  refine (wnum_any h1 n hn hl).mono ?_
  rintro e w' ⟨rfl, hp⟩
  exact ⟨rfl, WsP.of hp⟩
theorem wbyte_s {w : World} {b : Nat} {F : List Nat} {s : WS} (h : Ws w b F s) (n : Nat) (hn : n < 256) (hl : s.bs.length ≤ 1000000000000) :
    Calls Try.prog 26 #[.pointer (some ⟨b, 0, none⟩), .int .i64 n] w fun e w' => e = .returned (.tuple #[]) ∧ WsP w b F (wLay s [n]) w' := by
  obtain ⟨v, sv, h1, rfl⟩ := h
  refine (wbyte_in h1 n hn hl).mono ?_
  rintro e w' ⟨rfl, hp⟩
  exact ⟨rfl, WsP.of hp⟩
theorem wtext_s {w : World} {b : Nat} {F : List Nat} {s : WS} (h : Ws w b F s) (pv : Value) (ps : List Nat) (hp : Far w pv ps F) (hl : s.bs.length + ps.length ≤ 35184372088832) :
    Calls Try.prog 65 #[.pointer (some ⟨b, 0, none⟩), pv] w fun e w' => e = .returned (.tuple #[]) ∧ WsP w b F (wLay s (form ps.length ++ ps)) w' := by
  obtain ⟨v, sv, h1, rfl⟩ := h
  refine (wtext_anyE h1 pv ps hp hl).mono ?_
  rintro e w' ⟨rfl, hp⟩
  exact ⟨rfl, WsP.of hp⟩

set_option maxRecDepth 100000 in
set_option maxHeartbeats 400000 in
theorem num2_any {w : World} {g o b p bw : Nat} {F : List Nat} {s : WS} {n : Nat} (ha : Acc g o) (hn : w.cell? ⟨b, o, none⟩ = some (.int .i64 n)) (hn9 : n < 9223372036854775808) (hp : w.cell? ⟨p, 0, none⟩ = some (fv g)) (h : Ws w bw F s) (hl : s.bs.length ≤ 1000000000000) :
    Calls Try.prog 51 #[ptr b, ptr bw, ptr p] w fun e w' => e = .returned (.tuple #[]) ∧ WsP w bw F (wLay s (form n)) w' := by
  have hen := ha.en
  have HA := hide ha.at_
  have HN := hide (wnum_s h n (by omega) hl)
  have e1 : IntKind.u64.wrap (n : Int) = n := by rw [IntKind.wrap_u64]; omega
  unfold ptr fv at *
  clear ha h
  go_enter Try.func51, Try.ntmps51
  go_wp2_with (first
    | (go_at_call 52; refine (unhide HN).mono ?_; rintro e w1 ⟨rfl, hk⟩)
    | (refine (unhide HA _ _).mono ?_; rintro e w1 ⟨rfl, hz⟩; have hz2 := hz.symm; subst hz2; clear hz))
  go_end0
  exact ⟨rfl, hk⟩

/-- A record at b (its cells cs) beside a reader at br in the state s. -/
structure Dt (w : World) (b : Nat) (cs : Array Value) (br : Nat) (F : List Nat) (s : RS) : Prop where
  blk : Blk w b cs 26
  rd : Rs w br F s
  apart : b ∉ F
/-- Behind a call that takes. -/
def DtP (w : World) (b : Nat) (cs : Array Value) (br : Nat) (F : List Nat) (s : RS) (w' : World) : Prop := ∃ F', Dt w' b cs br F' s ∧ Kept (b :: F) w w' ∧ ∀ x ∈ F', x ∈ F

theorem Dt.put {w w1 : World} {b : Nat} {cs : Array Value} {br : Nat} {F : List Nat} {s s' : RS} (h : Dt w b cs br F s) (hp : RsQ w br F s' w1) (o : Nat) (u : Value) : DtP w b (cs.setIfInBounds o u) br F s' (w1.setCell ⟨b, o, none⟩ u) := by
  obtain ⟨F', h1, h2, h3⟩ := hp
  have hbF : b ∉ F' := fun hm => h.apart (h3 b hm)
  refine ⟨F', ⟨(h.blk.kept h2 h.apart).set o u, h1.kept ((Kept.refl [b] w1).setCell (Or.inl (by simp)) u) (fun x hx hm => by simp at hm; subst hm; exact hbF hx), hbF⟩, ?_, h3⟩
  exact (h2.mono (fun x hx => Or.inl (by simp [hx]))).setCell (Or.inl (by simp)) u

theorem Dt.cell {w w1 : World} {b : Nat} {cs : Array Value} {br : Nat} {F : List Nat} {s s' : RS} (h : Dt w b cs br F s) (hp : RsQ w br F s' w1) (o : Nat) (ho : o < cs.size) : w1.cell? ⟨b, o, none⟩ = some cs[o] ∧ w1.frozen? ⟨b, o, none⟩ = false := by
  obtain ⟨F', h1, h2, h3⟩ := hp
  have hb := h.blk.kept h2 h.apart
  exact ⟨by rw [hb.cell o, Array.getElem?_eq_getElem ho], hb.frozen o⟩

set_option maxRecDepth 100000 in
set_option maxHeartbeats 400000 in
theorem num3_any {w : World} {g o b p br : Nat} {F : List Nat} {s : RS} {cs : Array Value} (ha : Acc g o) (h : Dt w b cs br F s) (ho : o < cs.size) (hp : w.cell? ⟨p, 0, none⟩ = some (fv g)) :
    Calls Try.prog 53 #[ptr b, ptr br, ptr p] w fun e w' => e = .returned (.tuple #[]) ∧ DtP w b (cs.setIfInBounds o (.int .i64 (toI (rNum s).2))) br F (rNum s).1 w' := by
  have hen := ha.en
  have HA := hide ha.at_
  have HN := hide (rnum_q h.rd)
  have HH := hide h
  unfold ptr fv toI at *
  clear ha h
  go_enter Try.func53, Try.ntmps53
  go_wp2_with (first
    | (go_at_call 54; refine (unhide HN).mono ?_; rintro e w1 ⟨rfl, hk⟩; obtain ⟨c0, f0⟩ := (unhide HH).cell hk o ho)
    | (refine (unhide HA _ _).mono ?_; rintro e w1 ⟨rfl, hz⟩; have hz2 := hz.symm; subst hz2; clear hz))
  go_end0
  exact ⟨rfl, (unhide HH).put hk o _⟩

set_option maxRecDepth 100000 in
set_option maxHeartbeats 400000 in
theorem num4_any {w : World} {g o b p : Nat} {cs : Array Value} {t : TypeId} (ha : Acc g o) (h : Blk w b cs t) (ho : o < cs.size) (hp : w.cell? ⟨p, 0, none⟩ = some (fv g)) :
    Calls Try.prog 55 #[ptr b, ptr p] w fun e w' => e = .returned (.tuple #[]) ∧ Blk w' b (cs.setIfInBounds o (.int .i64 0)) t ∧ Kept [b] w w' := by
  have hen := ha.en
  have HA := hide ha.at_
  have HH := hide h
  have c0 : w.cell? ⟨b, o, none⟩ = some cs[o] := by rw [h.cell o, Array.getElem?_eq_getElem ho]
  have f0 := h.frozen o
  unfold ptr fv at *
  clear ha h
  go_enter Try.func55, Try.ntmps55
  go_wp2_with (first
    | (refine (unhide HA _ _).mono ?_; rintro e w1 ⟨rfl, hz⟩; have hz2 := hz.symm; subst hz2; clear hz))
  go_end0
  exact ⟨rfl, (unhide HH).set o _, (Kept.refl [b] w).setCell (Or.inl (by simp)) _⟩

set_option maxRecDepth 100000 in
set_option maxHeartbeats 400000 in
theorem text1_any {w : World} {g o b p q : Nat} {a : Option Addr} {n c : Nat} {hi : Int} (ha : Acc g o) (hn : w.cell? ⟨b, o, none⟩ = some (.slice a n c)) (hp : w.cell? ⟨p, 0, none⟩ = some (fv g)) (hq : w.cell? ⟨q, 0, none⟩ = some (.int .i64 hi)) :
    Calls Try.prog 63 #[ptr b, ptr p, ptr q] w fun e w' => e = .returned (.bool (decide ((n : Int) ≤ hi))) ∧ Kept [] w w' := by
  have hen := ha.en
  have HA := hide ha.at_
  unfold ptr fv at *
  clear ha
  go_enter Try.func63, Try.ntmps63
  go_wp2_with (refine (unhide HA _ _).mono ?_; rintro e w1 ⟨rfl, hz⟩; have hz2 := hz.symm; subst hz2; clear hz)
  try (go_quiet (refine Calls.quiet_of_same (unhide HA _ _)))
  go_wp2
  go_ret
  exact ⟨rfl, (Kept.refl _ _).drewN _⟩

set_option maxRecDepth 100000 in
set_option maxHeartbeats 400000 in
theorem text2_any {w : World} {g o b p bw : Nat} {F : List Nat} {s : WS} {a : Option Addr} {n c : Nat} {bs : List Nat} (ha : Acc g o) (hn : w.cell? ⟨b, o, none⟩ = some (.slice a n c)) (hf : Far w (.slice a n c) bs F) (hp : w.cell? ⟨p, 0, none⟩ = some (fv g)) (h : Ws w bw F s) (hl : s.bs.length + bs.length ≤ 35184372088832) :
    Calls Try.prog 64 #[ptr b, ptr bw, ptr p] w fun e w' => e = .returned (.tuple #[]) ∧ WsP w bw F (wLay s (form bs.length ++ bs)) w' := by
  have hen := ha.en
  have HA := hide ha.at_
  have HN := hide (wtext_s h _ bs hf hl)
  unfold ptr fv at *
  clear ha h hf
  go_enter Try.func64, Try.ntmps64
  go_wp2_with (first
    | (go_at_call 65; refine (unhide HN).mono ?_; rintro e w1 ⟨rfl, hk⟩)
    | (refine (unhide HA _ _).mono ?_; rintro e w1 ⟨rfl, hz⟩; have hz2 := hz.symm; subst hz2; clear hz))
  go_end0
  exact ⟨rfl, hk⟩

/-- Behind a call that takes bytes: they are new. -/
def NewV (w : World) (bs : List Nat) (v : Value) (w' : World) : Prop := ∃ a cap, v = .slice a bs.length cap ∧ w'.ownsRow w.heap.size 5 1 v bs.length (u8s bs)
set_option maxRecDepth 100000 in
set_option maxHeartbeats 800000 in
theorem text3_any {w : World} {g o b p q br : Nat} {F : List Nat} {s : RS} {cs : Array Value} {hi : Int} (ha : Acc g o) (h : Dt w b cs br F s) (ho : o < cs.size) (hp : w.cell? ⟨p, 0, none⟩ = some (fv g)) (hq : w.cell? ⟨q, 0, none⟩ = some (.int .i64 hi)) (h9 : hi ≤ 9223372036854775807) (hp1 : p < w.heap.size ∧ p ∉ F ∧ p ≠ b) (hq1 : q < w.heap.size ∧ q ∉ F ∧ q ≠ b) :
    Calls Try.prog 66 #[ptr b, ptr br, ptr q, ptr p] w fun e w' => e = .returned (.tuple #[]) ∧ ∃ v, NewV w (rText s hi).2 v w' ∧ DtP w b (cs.setIfInBounds o v) br F (rText s hi).1 w' := by
  have hen := ha.en
  have HA := hide ha.at_
  have HN := hide (fun W (k : Kept [] w W) => rtext_q (h.rd.kept k (by simp)) hi h9)
  have HH := hide h
  have hb := h.blk.lt
  have n1 := hp1.2.2
  have n2 := hq1.2.2
  have n3 := Ne.symm n1
  have n4 := Ne.symm n2
  unfold ptr fv at *
  clear ha h
  go_enter Try.func66, Try.ntmps66
  go_wp2_with fail
  go_region_held3 (fun W => W.cell? ⟨p, 0, none⟩ = some (.func (.func g) #[] #[]) ∧ W.cell? ⟨q, 0, none⟩ = some (.int .i64 hi)) (go_keep) (first
    | (go_at_call 67; refine (unhide HN _ (by first | exact Kept.refl _ _ | exact (Kept.refl _ _).drew)).mono ?_; rintro e w1 ⟨⟨a, cap, rfl, hown⟩, hk⟩; replace hk := RsQ.from (w := w) (by first | exact Kept.refl _ _ | exact (Kept.refl _ _).drew) hk; obtain ⟨c0, f0⟩ := (unhide HH).cell hk o ho; obtain ⟨F', hk1, hk2, hk3⟩ := hk; have c1 := hk2.cell (p := ⟨p, 0, none⟩) hp1.1 hp1.2.1; have c2 := hk2.cell (p := ⟨q, 0, none⟩) hq1.1 hq1.2.1; rw [hp] at c1; rw [hq] at c2)
    | (refine (unhide HA _ _).mono ?_; rintro e w1 ⟨rfl, hz⟩; have hz2 := hz.symm; subst hz2; clear hz))
  go_wp2_with fail
  go_end0
  exact ⟨rfl, _, ⟨a, cap, rfl, own_kept hown ((Kept.refl [b] w1).setCell (Or.inl (by simp)) _) (fun k hk2 hm => by have h1 := hown.lt k hk2; have h2 : w.drew.heap.size = w.heap.size := rfl; simp at hm; omega)⟩, (unhide HH).put ⟨F', hk1, hk2, hk3⟩ o _⟩

set_option maxRecDepth 100000 in
set_option maxHeartbeats 400000 in
theorem text4_any {w : World} {g o b p : Nat} {cs : Array Value} {t : TypeId} (ha : Acc g o) (h : Blk w b cs t) (ho : o < cs.size) (hp : w.cell? ⟨p, 0, none⟩ = some (fv g)) :
    Calls Try.prog 68 #[ptr b, ptr p] w fun e w' => e = .returned (.tuple #[]) ∧ Blk w' b (cs.setIfInBounds o (.slice none 0 0)) t ∧ Kept [b] w w' := by
  have hen := ha.en
  have HA := hide ha.at_
  have HH := hide h
  have c0 : w.cell? ⟨b, o, none⟩ = some cs[o] := by rw [h.cell o, Array.getElem?_eq_getElem ho]
  have f0 := h.frozen o
  unfold ptr fv at *
  clear ha h
  go_enter Try.func68, Try.ntmps68
  go_wp2_with (first
    | (refine (unhide HA _ _).mono ?_; rintro e w1 ⟨rfl, hz⟩; have hz2 := hz.symm; subst hz2; clear hz))
  go_end0
  exact ⟨rfl, (unhide HH).set o _, (Kept.refl [b] w).setCell (Or.inl (by simp)) _⟩
end Go.Proofs.Ytocmgfmfalaebab

/- An op: laid, taken, wiped. -/
namespace Go.Proofs.Ytocmgfmfalaebab
open Go.RowKit

theorem Far.go {w w' : World} {F F' : List Nat} {v : Value} {bs : List Nat} (h : Far w v bs F) (k : Kept F w w') (hF : ∀ x ∈ F', x ∈ F ∨ w.heap.size ≤ x) : Far w' v bs F' := by
  rcases h with ⟨h1, h2⟩ | h
  · refine Or.inl ⟨h1.kept k h2, fun x hx hm => ?_⟩
    rcases hF x hm with h3 | h3
    · exact h2 x hx h3
    · have := h1.lt hx; omega
  · exact Or.inr h
theorem wLay_len (s : WS) (ps : List Nat) : (wLay s ps).bs.length ≤ s.bs.length + ps.length := by
  unfold wLay
  split
  · omega
  · split
    · simp
    · simp [failWS]
def layP (s : WS) (p : Pl) : WS :=
  let s2 := wLay (wLay s [p.okind.toNat]) (form p.key.length ++ p.key)
  let s3 := if p.okind = 2 ∨ p.okind = 4 then wLay s2 (form p.val.length ++ p.val) else s2
  if p.okind = 4 then wLay s3 (form p.rev.toNat) else s3
/-- its lists, outside F -/
structure OpFar (w : World) (p : Pl) (l : Lo) (F : List Nat) : Prop where
  key : Far w (.slice l.ka p.key.length l.kc) p.key F
  val : Far w (.slice l.va p.val.length l.vc) p.val F
theorem OpFar.go {w w' : World} {F F' : List Nat} {p : Pl} {l : Lo} (h : OpFar w p l F) (k : Kept F w w') (hF : ∀ x ∈ F', x ∈ F ∨ w.heap.size ≤ x) : OpFar w' p l F' := ⟨h.key.go k hF, h.val.go k hF⟩

/-- An op in its box at B, a writer at bw beside it; what has turned since w. -/
structure LS (w : World) (F : List Nat) (B bw : Nat) (cs : Array Value) (p : Pl) (l : Lo) (F' : List Nat) (W : World) (s : WS) : Prop where
  blk : Blk W B cs 24
  ws : Ws W bw F' s
  far : OpFar W p l F'
  kept : Kept F w W
  foot : ∀ x ∈ F', x ∈ F ∨ w.heap.size ≤ x
  out : B ∉ F'
theorem LS.go {w : World} {F : List Nat} {B bw : Nat} {cs : Array Value} {p : Pl} {l : Lo} {F' : List Nat} {W W' : World} {s s' : WS} (h : LS w F B bw cs p l F' W s) (hp : WsP W bw F' s' W') : ∃ F'', LS w F B bw cs p l F'' W' s' := by
  obtain ⟨F2, h1, h2, h3⟩ := hp
  refine ⟨F2, h.blk.kept h2 h.out, h1, h.far.go h2 h3, h.kept.trans h2 h.foot, fun x hx => ?_, fun hm => ?_⟩
  · rcases h3 x hx with h4 | h4
    · exact h.foot x h4
    · right; have := h.kept.size; omega
  · rcases h3 _ hm with h4 | h4
    · exact h.out h4
    · have := h.blk.lt; omega
theorem LS.quiet {w : World} {F : List Nat} {B bw : Nat} {cs : Array Value} {p : Pl} {l : Lo} {F' : List Nat} {W W' : World} {s : WS} (h : LS w F B bw cs p l F' W s) (k : Kept [] W W') : LS w F B bw cs p l F' W' s :=
  ⟨h.blk.kept k (by simp), h.ws.kept k (by simp), h.far.go (k.mono (by simp)) (fun x hx => Or.inl hx), h.kept.trans k (by simp), h.foot, h.out⟩
theorem LS.post {w : World} {F : List Nat} {B bw : Nat} {cs : Array Value} {p : Pl} {l : Lo} {F' : List Nat} {W : World} {s : WS} (h : LS w F B bw cs p l F' W s) : WsP w bw F s W := ⟨F', h.ws, h.kept, h.foot⟩

set_option maxRecDepth 100000 in
set_option maxHeartbeats 1600000 in
theorem layOp_any {w : World} {bw : Nat} {F : List Nat} {s : WS} {p : Pl} {l : Lo} (h : Ws w bw F s) (hf : OpFar w p l F) (hk1 : 0 ≤ p.okind) (hk2 : p.okind < 256) (hkl : p.key.length ≤ 64) (hvl : p.val.length ≤ 256) (hr1 : 0 ≤ p.rev) (hr2 : p.rev ≤ 9223372036854775807) (hl : s.bs.length ≤ 500000) :
    Calls Try.prog 59 #[.agg (opc p l), ptr bw] w fun e w' => e = .returned (.tuple #[]) ∧ WsP w bw F (layP s p) w' := by
  obtain ⟨kn, hkn⟩ := Int.eq_ofNat_of_zero_le hk1
  obtain ⟨rn, hrn⟩ := Int.eq_ofNat_of_zero_le hr1
  have hkn2 : kn < 256 := by omega
  have hrn2 : rn < 18446744073709551616 := by omega
  have e1 : IntKind.u64.wrap (rn : Int) = rn := by rw [IntKind.wrap_u64]; omega
  have L1 := wLay_len s [kn]
  have L2 := wLay_len (wLay s [kn]) (form p.key.length ++ p.key)
  have L3 := wLay_len (wLay (wLay s [kn]) (form p.key.length ++ p.key)) (form p.val.length ++ p.val)
  have f1 := form_le10 p.key.length (by omega)
  have f2 := form_le10 p.val.length (by omega)
  simp only [List.length_append, List.length_cons, List.length_nil] at L1 L2 L3
  have hbF : w.heap.size ∉ F := fun hm => by have := h.lt _ hm; omega
  have k0 := (Kept.refl [] w).alloc (.cells (opc p l) 24)
  have HS0 := hide (LS.mk (w := w) (F := F) (Blk.new w (opc p l) 24) (h.kept k0 (by simp)) (hf.go (k0.mono (by simp)) (fun x hx => Or.inl hx)) (k0.mono (by simp)) (fun x hx => Or.inl hx) hbF)
  have HV := fun W => hasValue_any W p.okind l.ka p.key.length l.kc l.va p.val.length l.vc p.rev
  have HR := fun W => hasRev_any W p.okind l.ka p.key.length l.kc l.va p.val.length l.vc p.rev
  obtain ⟨c0, c1, c2, c3⟩ := box4 (unhide HS0).blk
  unfold opc ptr ov layP at *
  rw [hkn, hrn] at *
  clear h hf hbF k0 hk1 hr1 hr2 hk2
  generalize hkl1 : p.key.length = kl at *
  generalize hvl1 : p.val.length = vl at *
  have HK1 := hide hkl1
  have HV1 := hide hvl1
  clear hkl1 hvl1
  go_enter Try.func59, Try.ntmps59
  go_wp2_with (first
    | (go_at_call 26; refine (wbyte_s (unhide HS0).ws kn hkn2 (by omega)).mono ?_; rintro e w1 ⟨rfl, hp1⟩; obtain ⟨F1, hs1⟩ := (unhide HS0).go hp1; have HS1 := hide hs1; obtain ⟨c0, c1, c2, c3⟩ := box4 hs1.blk; clear hs1 hp1 HS0)
    | (go_at_call 65; refine (wtext_s (unhide HS1).ws _ p.key (by rw [← unhide HK1]; exact (unhide HS1).far.key) (by rw [unhide HK1]; omega)).mono ?_; rintro e w2 ⟨rfl, hp2⟩; obtain ⟨F2, hs2⟩ := (unhide HS1).go hp2; have HS2 := hide hs2; obtain ⟨c0, c1, c2, c3⟩ := box4 hs2.blk; clear hs2 hp2 HS1)
    | (go_at_call 75; refine (HV _).mono ?_; rintro e w3 ⟨rfl, hq3⟩; have hs3 := (unhide HS2).quiet hq3; have HS3 := hide hs3; obtain ⟨c0, c1, c2, c3⟩ := box4 hs3.blk; clear hs3 hq3 HS2)
    | (go_at_call 65; refine (wtext_s (unhide HS3).ws _ p.val (by rw [← unhide HV1]; exact (unhide HS3).far.val) (by rw [unhide HV1, unhide HK1]; omega)).mono ?_; rintro e w4 ⟨rfl, hp4⟩; obtain ⟨F4, hs4⟩ := (unhide HS3).go hp4; have HS4 := hide hs4; obtain ⟨c0, c1, c2, c3⟩ := box4 hs4.blk; clear hs4 hp4 HS3)
    | (go_at_call 76; refine (HR _).mono ?_; rintro e w5 ⟨rfl, hq5⟩; have hs5 := (unhide HS4).quiet hq5; have HS5 := hide hs5; obtain ⟨c0, c1, c2, c3⟩ := box4 hs5.blk; clear hs5 hq5 HS4)
    | (go_at_call 76; refine (HR _).mono ?_; rintro e w5 ⟨rfl, hq5⟩; have hs5 := (unhide HS3).quiet hq5; have HS5 := hide hs5; obtain ⟨c0, c1, c2, c3⟩ := box4 hs5.blk; clear hs5 hq5 HS3)
    | (go_at_call 52; refine (wnum_s (unhide HS5).ws rn hrn2 (by first | (rw [unhide HV1, unhide HK1]; omega) | (rw [unhide HK1]; omega))).mono ?_; rintro e w6 ⟨rfl, hp6⟩; obtain ⟨F6, hs6⟩ := (unhide HS5).go hp6; have HS6 := hide hs6.post; clear hs6 hp6 HS5))
  all_goals
    go_end0
    refine ⟨rfl, ?_⟩
    (try rw [← unhide HK1])
    (try rw [← unhide HV1])
    first
      | (have h9 := unhide HS6)
      | (have h9 := (unhide HS5).post)
    clear HV HR
    rcases (show kn = 4 ∨ kn = 2 ∨ (kn ≠ 4 ∧ kn ≠ 2) by omega) with h4 | h4 | ⟨h4, h5⟩
    · subst h4; first | (exfalso; omega) | simpa using h9
    · subst h4; first | (exfalso; omega) | simpa using h9
    · have h6 : ¬ ((kn : Int) = 4) := by omega
      have h7 : ¬ ((kn : Int) = 2) := by omega
      first | (exfalso; omega) | simpa [h6, h7] using h9
end Go.Proofs.Ytocmgfmfalaebab

/- An op's functions in a record: asked, laid, taken, wiped. -/
namespace Go.Proofs.Ytocmgfmfalaebab
open Go.RowKit

/-- The four cells of an op at b. -/
structure OpAt (w : World) (b : Nat) (p : Pl) (l : Lo) : Prop where
  c6 : w.cell? ⟨b, 6, none⟩ = some (.int .i64 p.okind)
  c7 : w.cell? ⟨b, 7, none⟩ = some (.slice l.ka p.key.length l.kc)
  c8 : w.cell? ⟨b, 8, none⟩ = some (.slice l.va p.val.length l.vc)
  c9 : w.cell? ⟨b, 9, none⟩ = some (.int .i64 p.rev)
theorem OpAt.of {w : World} {b : Nat} {p : Pl} {l : Lo} (h : Blk w b (rcc p l) 26) : OpAt w b p l := ⟨h.cell 6, h.cell 7, h.cell 8, h.cell 9⟩

set_option maxRecDepth 100000 in
set_option maxHeartbeats 800000 in
theorem write1_any {w : World} {b p : Nat} {r : Pl} {l : Lo} (h : OpAt w b r l) (hp : w.cell? ⟨p, 0, none⟩ = some (fv 39)) :
    Calls Try.prog 56 #[ptr b, ptr p] w fun e w' => e = .returned (.bool (wrt r.okind r.key.length r.val.length r.rev)) ∧ Kept [] w w' := by
  have ha := acc6
  have hen := ha.en
  have HA := hide ha.at_
  have HW := fun W => isWrite_any W r.okind l.ka r.key.length l.kc l.va r.val.length l.vc r.rev
  obtain ⟨c6, c7, c8, c9⟩ := h
  unfold ptr fv ov at *
  clear ha
  go_enter Try.func56, Try.ntmps56
  go_wp2_with (first
    | (go_at_call 57; refine (HW _).mono ?_; rintro e w1 ⟨rfl, hk⟩)
    | (refine (unhide HA _ _).mono ?_; rintro e w1 ⟨rfl, hz⟩; have hz2 := hz.symm; subst hz2; clear hz))
  go_ret
  exact ⟨rfl, hk⟩

set_option maxRecDepth 100000 in
set_option maxHeartbeats 800000 in
theorem write2_any {w : World} {b p bw : Nat} {F : List Nat} {s : WS} {r : Pl} {l : Lo} (h : OpAt w b r l) (hp : w.cell? ⟨p, 0, none⟩ = some (fv 39)) (hw : Ws w bw F s) (hf : OpFar w r l F) (hk1 : 0 ≤ r.okind) (hk2 : r.okind < 256) (hkl : r.key.length ≤ 64) (hvl : r.val.length ≤ 256) (hr1 : 0 ≤ r.rev) (hr2 : r.rev ≤ 9223372036854775807) (hl : s.bs.length ≤ 500000) :
    Calls Try.prog 58 #[ptr b, ptr bw, ptr p] w fun e w' => e = .returned (.tuple #[]) ∧ WsP w bw F (layP s r) w' := by
  have ha := acc6
  have hen := ha.en
  have HA := hide ha.at_
  have HW := hide (layOp_any hw hf hk1 hk2 hkl hvl hr1 hr2 hl)
  obtain ⟨c6, c7, c8, c9⟩ := h
  unfold ptr fv opc at *
  clear ha hw hf
  go_enter Try.func58, Try.ntmps58
  go_wp2_with (first
    | (go_at_call 59; refine (unhide HW).mono ?_; rintro e w1 ⟨rfl, hk⟩)
    | (refine (unhide HA _ _).mono ?_; rintro e w1 ⟨rfl, hz⟩; have hz2 := hz.symm; subst hz2; clear hz))
  go_end0
  exact ⟨rfl, hk⟩

theorem Blk.op0 {w : World} {b : Nat} {r : Pl} {l : Lo} (h : Blk w b (rcc r l) 26) (k : Int) (x y : Value) (n : Int) : Blk ((((w.setCell ⟨b, 6, none⟩ (.int .i64 k)).setCell ⟨b, 7, none⟩ x).setCell ⟨b, 8, none⟩ y).setCell ⟨b, 9, none⟩ (.int .i64 n)) b #[.int .i64 r.kind, .int .i64 r.shard, .int .i64 r.epoch, .int .i64 r.peer, .int .i64 r.client, .int .i64 r.seq, .int .i64 k, x, y, .int .i64 n, .slice l.ca r.copy.length l.cc] 26 := by
  have h1 := (((h.set 6 (.int .i64 k)).set 7 x).set 8 y).set 9 (.int .i64 n)
  simpa [rcc] using h1

set_option maxRecDepth 100000 in
set_option maxHeartbeats 800000 in
theorem write4_any {w : World} {b p : Nat} {r : Pl} {l : Lo} (h : Blk w b (rcc r l) 26) (hp : w.cell? ⟨p, 0, none⟩ = some (fv 39)) :
    Calls Try.prog 62 #[ptr b, ptr p] w fun e w' => e = .returned (.tuple #[]) ∧ Blk w' b (rcc (wipeF r .op) (nilOp l)) 26 ∧ Kept [b] w w' := by
  have ha := acc6
  have hen := ha.en
  have HA := hide ha.at_
  have HH := hide h
  obtain ⟨c6, c7, c8, c9⟩ := OpAt.of h
  have f6 := h.frozen 6
  have f7 := h.frozen 7
  have f8 := h.frozen 8
  have f9 := h.frozen 9
  unfold ptr fv at *
  clear ha h
  go_enter Try.func62, Try.ntmps62
  go_wp2_with (first
    | (refine (unhide HA _ _).mono ?_; rintro e w1 ⟨rfl, hz⟩; have hz2 := hz.symm; subst hz2; clear hz))
  go_end0
  refine ⟨rfl, Blk.op0 (unhide HH) _ _ _ _, ?_⟩
  exact ((((Kept.refl [b] w).setCell (Or.inl (by simp)) _).setCell (Or.inl (by simp)) _).setCell (Or.inl (by simp)) _).setCell (Or.inl (by simp)) _

theorem NewV.kept {w W W' : World} {bs : List Nat} {v : Value} {G : List Nat} (h : NewV w bs v W) (k : Kept G W W') (hG : ∀ x, v.ownBlock = some x → x ∉ G) : NewV w bs v W' := by
  obtain ⟨a, cap, rfl, ho⟩ := h
  exact ⟨a, cap, rfl, own_kept ho k hG⟩
theorem NewV.lt {w W : World} {bs : List Nat} {v : Value} (h : NewV w bs v W) {x : Nat} (hx : v.ownBlock = some x) : w.heap.size ≤ x ∧ x < W.heap.size := by
  obtain ⟨a, cap, rfl, ho⟩ := h
  exact ho.lt x hx
theorem NewV.nil (w W : World) : NewV w [] (.slice none 0 0) W := ⟨none, 0, rfl, rfl, Or.inl ⟨rfl, rfl⟩⟩
theorem NewV.from {w w1 W : World} {bs : List Nat} {v : Value} (h : NewV w1 bs v W) (k : w.heap.size ≤ w1.heap.size) : NewV w bs v W := by
  obtain ⟨a, cap, rfl, ho⟩ := h
  exact ⟨a, cap, rfl, own_base ho (fun x hx => by have := ho.lt x hx; omega)⟩

theorem ret_struct {P : Program} {fn : Func} {R : Ending → World → Prop} {a : Act} {w : World} {p : Tmp} {ty : TypeId} {b : Nat} {cs : Array Value} {fs : Array Field}
    (hr : fn.results = #[.cell p ty]) (hp : a.tmps.getD p undef = .pointer (some ⟨b, 0, none⟩)) (hb : Blk w b cs ty)
    (hu : P.underlying ty = some (.struct fs)) (hi : (P.info? ty).map (·.size) = some cs.size) (hd : a.defers = []) (hR : R (.returned (.agg cs)) w) : bodyPost P fn R .ret a w := by
  refine bodyPost_ret (v := .agg cs) ?_ hd hR
  exact results_cell_row hr a.tmps w b ty cs (0, 0) _ hp hb hu rfl hi
theorem ret_struct_tmp {P : Program} {fn : Func} {R : Ending → World → Prop} {a : Act} {w : World} {p u : Tmp} {ty : TypeId} {b : Nat} {cs : Array Value} {fs : Array Field}
    (hr : fn.results = #[.cell p ty, .tmp u]) (hp : a.tmps.getD p undef = .pointer (some ⟨b, 0, none⟩)) (hb : Blk w b cs ty)
    (hu : P.underlying ty = some (.struct fs)) (hi : (P.info? ty).map (·.size) = some cs.size) (hd : a.defers = []) (hR : R (.returned (.tuple #[.agg cs, a.tmps.getD u undef])) w) : bodyPost P fn R .ret a w := by
  refine bodyPost_ret (v := .tuple #[.agg cs, a.tmps.getD u undef]) ?_ hd hR
  rw [results_cell_tmp hr, hp]
  have h := run_loadVar_row w b ty ty cs (0, 0) (.struct fs) hb hu rfl hi
  simp [asAddr, h, Sem.run_pure, Result.andThen]
theorem infoOp : (Try.prog.info? 24).map (·.size) = some 4 := by kernel_rfl
theorem infoRec : (Try.prog.info? 26).map (·.size) = some 11 := by kernel_rfl
theorem put4 {w : World} {b : Nat} {x y z u : Value} {t : TypeId} (h : Blk w b #[x, y, z, u] t) (x' y' z' u' : Value) : Blk ((((w.setCell ⟨b, 0, none⟩ x').setCell ⟨b, 1, none⟩ y').setCell ⟨b, 2, none⟩ z').setCell ⟨b, 3, none⟩ u') b #[x', y', z', u'] t := by
  have h1 := (((h.set 0 x').set 1 y').set 2 z').set 3 u'
  exact h1

/-- An op under way: its box at B, the reader at br beside it. -/
structure TS (w : World) (F : List Nat) (R B br : Nat) (k : Int) (kv vv : Value) (n : Int) (key val : List Nat) (F' : List Nat) (W : World) (s : RS) : Prop where
  blk : Blk W B #[.int .i64 k, kv, vv, .int .i64 n] 24
  rd : Rs W br F' s
  kn : NewV w key kv W
  vn : NewV w val vv W
  un : ∀ x, kv.ownBlock = some x → vv.ownBlock ≠ some x
  kept : Kept F w W
  foot : ∀ x ∈ F', x ∈ F
  lts : ∀ x ∈ F, x < w.heap.size
  old : w.heap.size ≤ B
  ne1 : kv.ownBlock ≠ some B
  ne2 : vv.ownBlock ≠ some B
  res : Blk W R #[.int .i64 0, .slice none 0 0, .slice none 0 0, .int .i64 0] 24
  rlt : R < w.heap.size
  rout : R ∉ F
theorem TS.call {w : World} {F : List Nat} {R B br : Nat} {k : Int} {kv vv : Value} {n : Int} {key val F' : List Nat} {W W' : World} {s s' : RS} (h : TS w F R B br k kv vv n key val F' W s) (hq : RsQ W br F' s' W') : ∃ F'', TS w F R B br k kv vv n key val F'' W' s' := by
  obtain ⟨F2, h1, h2, h3⟩ := hq
  have hn : ∀ x, w.heap.size ≤ x → x ∉ F' := fun x hx hm => by have := h.lts x (h.foot x hm); omega
  exact ⟨F2, h.blk.kept h2 (hn _ h.old), h1, h.kn.kept h2 (fun x hx => hn x (h.kn.lt hx).1), h.vn.kept h2 (fun x hx => hn x (h.vn.lt hx).1), h.un, h.kept.trans h2 (fun x hx => Or.inl (h.foot x hx)), fun x hx => h.foot x (h3 x hx), h.lts, h.old, h.ne1, h.ne2, h.res.kept h2 (fun hm => h.rout (h.foot _ hm)), h.rlt, h.rout⟩
theorem TS.quiet {w : World} {F : List Nat} {R B br : Nat} {k : Int} {kv vv : Value} {n : Int} {key val F' : List Nat} {W W' : World} {s : RS} (h : TS w F R B br k kv vv n key val F' W s) (q : Kept [] W W') : TS w F R B br k kv vv n key val F' W' s :=
  ⟨h.blk.kept q (by simp), h.rd.kept q (by simp), h.kn.kept q (by simp), h.vn.kept q (by simp), h.un, h.kept.trans q (by simp), h.foot, h.lts, h.old, h.ne1, h.ne2, h.res.kept q (by simp), h.rlt, h.rout⟩
/-- Behind a store into the box. -/
theorem TS.put {w : World} {F : List Nat} {R B br : Nat} {k : Int} {kv vv : Value} {n : Int} {key val F' : List Nat} {W W' : World} {s : RS} (h : TS w F R B br k kv vv n key val F' W s) (q : Kept [B] W W') {k2 : Int} {kv2 vv2 : Value} {n2 : Int} {key2 val2 : List Nat} (hb : Blk W' B #[.int .i64 k2, kv2, vv2, .int .i64 n2] 24) (h1 : NewV w key2 kv2 W) (h2 : NewV w val2 vv2 W) (hu : ∀ x, kv2.ownBlock = some x → vv2.ownBlock ≠ some x) (e1 : kv2.ownBlock ≠ some B) (e2 : vv2.ownBlock ≠ some B) : TS w F R B br k2 kv2 vv2 n2 key2 val2 F' W' s := by
  have hn : ∀ x ∈ F', x ∉ [B] := fun x hx hm => by simp at hm; subst hm; have := h.lts _ (h.foot _ hx); have := h.old; omega
  exact ⟨hb, h.rd.kept q hn, h1.kept q (fun x hx hm => by simp at hm; subst hm; exact e1 hx), h2.kept q (fun x hx hm => by simp at hm; subst hm; exact e2 hx), hu, h.kept.trans q (fun x hx => by simp at hx; subst hx; exact Or.inr h.old), h.foot, h.lts, h.old, e1, e2, h.res.kept q (fun hm => by simp at hm; have := h.rlt; have := h.old; omega), h.rlt, h.rout⟩
theorem TS.nb {w : World} {F : List Nat} {R B br : Nat} {k : Int} {kv vv : Value} {n : Int} {key val F' : List Nat} {W W' : World} {s : RS} (h : TS w F R B br k kv vv n key val F' W s) {bs : List Nat} {v : Value} (hv : NewV W bs v W') : v.ownBlock ≠ some B ∧ (∀ x, kv.ownBlock = some x → v.ownBlock ≠ some x) ∧ NewV w bs v W' :=
  ⟨fun e => by have := (hv.lt e).1; have := h.blk.lt; omega, fun x hx e => by have := (hv.lt e).1; have := (h.kn.lt hx).2; omega, hv.from h.kept.size⟩
/-- The op handed back through the result's box. -/
theorem TS.out {w : World} {F : List Nat} {R B br : Nat} {k : Int} {kv vv : Value} {n : Int} {key val F' : List Nat} {W : World} {s : RS} (h : TS w F R B br k kv vv n key val F' W s) {w0 : World} (k0 : Kept [] w0 w) (hR : w0.heap.size ≤ R) :
    Blk ((((W.setCell ⟨R, 0, none⟩ (.int .i64 k)).setCell ⟨R, 1, none⟩ kv).setCell ⟨R, 2, none⟩ vv).setCell ⟨R, 3, none⟩ (.int .i64 n)) R #[.int .i64 k, kv, vv, .int .i64 n] 24 ∧
    NewV w0 key kv ((((W.setCell ⟨R, 0, none⟩ (.int .i64 k)).setCell ⟨R, 1, none⟩ kv).setCell ⟨R, 2, none⟩ vv).setCell ⟨R, 3, none⟩ (.int .i64 n)) ∧
    NewV w0 val vv ((((W.setCell ⟨R, 0, none⟩ (.int .i64 k)).setCell ⟨R, 1, none⟩ kv).setCell ⟨R, 2, none⟩ vv).setCell ⟨R, 3, none⟩ (.int .i64 n)) ∧
    (∀ x, kv.ownBlock = some x → vv.ownBlock ≠ some x) ∧ RsQ w0 br F s ((((W.setCell ⟨R, 0, none⟩ (.int .i64 k)).setCell ⟨R, 1, none⟩ kv).setCell ⟨R, 2, none⟩ vv).setCell ⟨R, 3, none⟩ (.int .i64 n)) := by
  have q : Kept [R] W ((((W.setCell ⟨R, 0, none⟩ (.int .i64 k)).setCell ⟨R, 1, none⟩ kv).setCell ⟨R, 2, none⟩ vv).setCell ⟨R, 3, none⟩ (.int .i64 n)) :=
    ((((Kept.refl [R] W).setCell (Or.inl (by simp)) _).setCell (Or.inl (by simp)) _).setCell (Or.inl (by simp)) _).setCell (Or.inl (by simp)) _
  have hs := k0.size
  refine ⟨put4 h.res _ _ _ _, (h.kn.kept q (fun x hx hm => ?_)).from hs, (h.vn.kept q (fun x hx hm => ?_)).from hs, h.un, F', h.rd.kept q (fun x hx hm => ?_), ?_, h.foot⟩
  · simp at hm; subst hm; have := (h.kn.lt hx).1; have := h.rlt; omega
  · simp at hm; subst hm; have := (h.vn.lt hx).1; have := h.rlt; omega
  · simp at hm; subst hm; exact h.rout (h.foot _ hx)
  · exact ((k0.mono (by simp)).trans h.kept (fun x hx => Or.inl hx)).trans q (fun x hx => by simp at hx; subst hx; exact Or.inr hR)
end Go.Proofs.Ytocmgfmfalaebab

/- takeOp. -/
namespace Go.Proofs.Ytocmgfmfalaebab
open Go.RowKit

/-- What takeOp answers. -/
def TkO (w : World) (br : Nat) (F : List Nat) (s : RS) (e : Ending) (w' : World) : Prop := ∃ kv vv : Value, e = .returned (.agg #[.int .i64 (takO s zeroP).2.okind, kv, vv, .int .i64 (takO s zeroP).2.rev]) ∧ NewV w (takO s zeroP).2.key kv w' ∧ NewV w (takO s zeroP).2.val vv w' ∧ (∀ x, kv.ownBlock = some x → vv.ownBlock ≠ some x) ∧ RsQ w br F (takO s zeroP).1 w'

theorem RsQ.two {w w1 w2 : World} {F F1 F2 : List Nat} (k1 : Kept F w w1) (f1 : ∀ x ∈ F1, x ∈ F) (k2 : Kept F1 w1 w2) (f2 : ∀ x ∈ F2, x ∈ F1) : Kept F w w2 ∧ ∀ x ∈ F2, x ∈ F :=
  ⟨k1.trans k2 (fun x hx => Or.inl (f1 x hx)), fun x hx => f1 x (f2 x hx)⟩
theorem TS.begin {w w1 w2 : World} {R br : Nat} {F F1 F2 : List Nat} {s2 : RS} (hl : ∀ x ∈ F, x < w.heap.size) (k1 : Kept F w w1) (f1 : ∀ x ∈ F1, x ∈ F) (h2 : Rs w2 br F2 s2) (k2 : Kept F1 w1 w2) (f2 : ∀ x ∈ F2, x ∈ F1) (k : Int) {kv : Value} {key : List Nat} (hv : NewV w1 key kv w2) (hR : Blk w R #[.int .i64 0, .slice none 0 0, .slice none 0 0, .int .i64 0] 24) (hRF : R ∉ F) :
    TS w F R w2.heap.size br k kv (.slice none 0 0) 0 key [] F2 (w2.alloc (.cells #[.int .i64 k, kv, .slice none 0 0, .int .i64 0] 24)) s2 := by
  obtain ⟨hk, hf⟩ := RsQ.two k1 f1 k2 f2
  have k0 := (Kept.refl [] w2).alloc (.cells #[.int .i64 k, kv, .slice none 0 0, .int .i64 0] 24)
  exact ⟨Blk.new _ _ _, h2.kept k0 (by simp), (hv.from k1.size).kept k0 (by simp), NewV.nil _ _, by simp [Value.ownBlock], hk.trans k0 (by simp), hf, hl, hk.size, fun e => by have := (hv.lt e).2; omega, by simp [Value.ownBlock], (hR.kept hk hRF).kept k0 (by simp), hR.lt, hRF⟩
theorem TS.set2 {w : World} {F : List Nat} {R B br : Nat} {k : Int} {kv vv : Value} {n : Int} {key val F' : List Nat} {W : World} {s : RS} (h : TS w F R B br k kv vv n key val F' W s) {bs : List Nat} {v : Value} (hv : NewV w bs v W) (hu : ∀ x, kv.ownBlock = some x → v.ownBlock ≠ some x) (e2 : v.ownBlock ≠ some B) : TS w F R B br k kv v n key bs F' (W.setCell ⟨B, 2, none⟩ v) s :=
  h.put ((Kept.refl [B] W).setCell (Or.inl (by simp)) v) (by simpa using h.blk.set 2 v) h.kn hv hu h.ne1 e2
theorem TS.set3 {w : World} {F : List Nat} {R B br : Nat} {k : Int} {kv vv : Value} {n : Int} {key val F' : List Nat} {W : World} {s : RS} (h : TS w F R B br k kv vv n key val F' W s) (m : Int) : TS w F R B br k kv vv m key val F' (W.setCell ⟨B, 3, none⟩ (.int .i64 m)) s :=
  h.put ((Kept.refl [B] W).setCell (Or.inl (by simp)) _) (by simpa using h.blk.set 3 (.int .i64 m)) h.kn h.vn h.un h.ne1 h.ne2

theorem takO_swap {s : RS} {p : Pl} (h : (rByte s).2 = 4) : takO s p = ((rNum (rText (rText (rByte s).1 64).1 256).1).1, { p with okind := 4, key := (rText (rByte s).1 64).2, val := (rText (rText (rByte s).1 64).1 256).2, rev := wrap64 ((rNum (rText (rText (rByte s).1 64).1 256).1).2 : Nat) }) := by simp [takO, h, toI]
theorem takO_put {s : RS} {p : Pl} (h : (rByte s).2 = 2) : takO s p = ((rText (rText (rByte s).1 64).1 256).1, { p with okind := 2, key := (rText (rByte s).1 64).2, val := (rText (rText (rByte s).1 64).1 256).2, rev := 0 }) := by simp [takO, h]
theorem takO_del {s : RS} {p : Pl} (h : (rByte s).2 ≠ 2) (h4 : (rByte s).2 ≠ 4) : takO s p = ((rText (rByte s).1 64).1, { p with okind := (rByte s).2, key := (rText (rByte s).1 64).2, val := [], rev := 0 }) := by simp [takO, h, h4]

set_option maxRecDepth 100000 in
set_option maxHeartbeats 1600000 in
theorem takeOp_any {w : World} {br : Nat} {F : List Nat} {s : RS} (h : Rs w br F s) :
    Calls Try.prog 61 #[ptr br] w fun e w' => TkO w br F s e w' := by
  have k0 := (Kept.refl [] w).alloc (.cells #[.int .i64 0, .slice none 0 0, .slice none 0 0, .int .i64 0] 24)
  have HR0 := hide (h.kept k0 (by simp))
  have HK0 := hide k0
  have HL := hide (unhide HR0).lt
  have HRB := hide (Blk.new w #[.int .i64 0, .slice none 0 0, .slice none 0 0, .int .i64 0] 24)
  have HRF : Hid (w.heap.size ∉ F) := fun hm => by have := h.lt _ hm; omega
  unfold ptr at *
  clear h k0
  go_enter Try.func61, Try.ntmps61
  go_wp2_with (first
    | (go_at_call 20; refine (rbyte_q (unhide HR0)).mono ?_; rintro e w1 ⟨rfl, F1, hr1, hk1, hf1⟩; have HR1 := hide hr1; have HK1 := hide hk1; have HF1 := hide hf1; clear hr1 hk1 hf1 HR0)
    | (go_at_call 67; refine (rtext_q (unhide HR1) 64 (by omega)).mono ?_; rintro e w2 ⟨⟨ka, kc, rfl, hown⟩, F2, hr2, hk2, hf2⟩; have HV2 : Hid (NewV w1 _ (.slice ka _ kc) w2) := ⟨ka, kc, rfl, hown⟩; have HT2 := hide (TS.begin (unhide HL) (unhide HK1) (unhide HF1) hr2 hk2 hf2 ((rByte s).2 : Nat) (unhide HV2) (unhide HRB) (unhide HRF)); obtain ⟨c0, c1, c2, c3⟩ := box4 (unhide HT2).blk; clear hr2 hk2 hf2 hown HR1 HK1 HF1)
    | (go_at_call 75; refine (hasValue_any _ _ _ _ _ _ _ _ _).mono ?_; rintro e w3 ⟨rfl, hq3⟩; have ht3 := (unhide HT2).quiet hq3; have HT3 := hide ht3; obtain ⟨c0, c1, c2, c3⟩ := box4 ht3.blk; have g2 := ht3.blk.frozen 2; have g3 := ht3.blk.frozen 3; clear ht3 hq3 HT2 HV2)
    | (go_at_call 67; refine (rtext_q (unhide HT3).rd 256 (by omega)).mono ?_; rintro e w4 ⟨⟨va, vc, rfl, hown⟩, hq4⟩; obtain ⟨F4, ht4⟩ := (unhide HT3).call hq4; obtain ⟨n1, n2, n3⟩ := (unhide HT3).nb (⟨va, vc, rfl, hown⟩ : NewV w3 _ (.slice va _ vc) w4); have HT5 := hide (ht4.set2 n3 n2 n1); obtain ⟨r0, r1, r2, r3⟩ := box4 ht4.res; obtain ⟨c0, c1, c2, c3⟩ := box4 ht4.blk; have f2 := ht4.blk.frozen 2; have f3 := ht4.blk.frozen 3; clear ht4 hq4 hown n1 n2 n3 HT3)
    | (go_at_call 76; refine (hasRev_any _ _ _ _ _ _ _ _ _).mono ?_; rintro e w6 ⟨rfl, hq6⟩; have ht6 := (unhide HT5).quiet hq6; have HT6 := hide ht6; obtain ⟨r0, r1, r2, r3⟩ := box4 ht6.res; have q0 := ht6.res.frozen 0; have q1 := ht6.res.frozen 1; have q2 := ht6.res.frozen 2; have q3 := ht6.res.frozen 3; have rne : w.heap.size ≠ w2.heap.size := (by have h1 := ht6.rlt; have h2 := ht6.old; omega); have rne2 := Ne.symm rne; obtain ⟨c0, c1, c2, c3⟩ := box4 ht6.blk; have f3 := ht6.blk.frozen 3; clear ht6 hq6 HT5)
    | (go_at_call 76; refine (hasRev_any _ _ _ _ _ _ _ _ _).mono ?_; rintro e w6 ⟨rfl, hq6⟩; have ht6 := (unhide HT3).quiet hq6; have HT6 := hide ht6; obtain ⟨r0, r1, r2, r3⟩ := box4 ht6.res; have q0 := ht6.res.frozen 0; have q1 := ht6.res.frozen 1; have q2 := ht6.res.frozen 2; have q3 := ht6.res.frozen 3; have rne : w.heap.size ≠ w2.heap.size := (by have h1 := ht6.rlt; have h2 := ht6.old; omega); have rne2 := Ne.symm rne; obtain ⟨c0, c1, c2, c3⟩ := box4 ht6.blk; have f3 := ht6.blk.frozen 3; clear ht6 hq6 HT3)
    | (go_at_call 54; refine (rnum_q (unhide HT6).rd).mono ?_; rintro e w7 ⟨rfl, hq7⟩; obtain ⟨F7, ht7⟩ := (unhide HT6).call hq7; have HT8 := hide (ht7.set3 (wrap64 ((rNum (rText (rText (rByte s).1 64).1 256).1).2 : Nat))); obtain ⟨c0, c1, c2, c3⟩ := box4 ht7.blk; have f3 := ht7.blk.frozen 3; obtain ⟨r0, r1, r2, r3⟩ := box4 ht7.res; have q0 := ht7.res.frozen 0; have q1 := ht7.res.frozen 1; have q2 := ht7.res.frozen 2; have q3 := ht7.res.frozen 3; clear ht7 hq7 HT6))
  · have e4 : (rByte s).2 = 4 := by omega
    have ht := unhide HT8
    rw [e4] at ht
    obtain ⟨b1, n1, n2, u, q⟩ := ht.out (unhide HK0) (Nat.le_refl _)
    refine ret_struct (b := w.heap.size) rfl rfl b1 Try.underlying24 infoOp rfl ?_
    unfold TkO
    rw [takO_swap e4]
    exact ⟨_, _, rfl, n1, n2, u, q⟩
  · have e2 : (rByte s).2 = 2 := by omega
    have ht := unhide HT6
    obtain ⟨b1, n1, n2, u, q⟩ := ht.out (unhide HK0) (Nat.le_refl _)
    refine ret_struct (b := w.heap.size) rfl rfl b1 Try.underlying24 infoOp rfl ?_
    unfold TkO
    rw [takO_put e2]
    rw [e2] at n1 n2 q ⊢
    exact ⟨_, _, rfl, n1, n2, u, q⟩
  · have ht := unhide HT6
    obtain ⟨b1, n1, n2, u, q⟩ := ht.out (unhide HK0) (Nat.le_refl _)
    refine ret_struct (b := w.heap.size) rfl rfl b1 Try.underlying24 infoOp rfl ?_
    unfold TkO
    rw [takO_del (by omega) (by omega)]
    exact ⟨_, _, rfl, n1, n2, u, q⟩
end Go.Proofs.Ytocmgfmfalaebab

/- An op taken into a record; a record that is being read. -/
namespace Go.Proofs.Ytocmgfmfalaebab
open Go.RowKit

theorem takO_fst (s : RS) (p : Pl) : (takO s p).1 = (takO s zeroP).1 := rfl
theorem takO_snd (s : RS) (p : Pl) : (takO s p).2 = { p with okind := (takO s zeroP).2.okind, key := (takO s zeroP).2.key, val := (takO s zeroP).2.val, rev := (takO s zeroP).2.rev } := rfl

/-- A record that is being read: at B, the reader at br beside it; all its lists are new since w, each in a block of its own. -/
structure DS (w : World) (B br : Nat) (p : Pl) (l : Lo) (F : List Nat) (W : World) (s : RS) : Prop where
  dt : Dt W B (rcc p l) br F s
  kn : NewV w p.key (.slice l.ka p.key.length l.kc) W
  vn : NewV w p.val (.slice l.va p.val.length l.vc) W
  cn : NewV w p.copy (.slice l.ca p.copy.length l.cc) W
  ko : ∀ x, (Value.slice l.ka p.key.length l.kc).ownBlock = some x → x ∉ B :: F
  vo : ∀ x, (Value.slice l.va p.val.length l.vc).ownBlock = some x → x ∉ B :: F
  co : ∀ x, (Value.slice l.ca p.copy.length l.cc).ownBlock = some x → x ∉ B :: F
  kv : ∀ x, (Value.slice l.ka p.key.length l.kc).ownBlock = some x → (Value.slice l.va p.val.length l.vc).ownBlock ≠ some x
  kc : ∀ x, (Value.slice l.ka p.key.length l.kc).ownBlock = some x → (Value.slice l.ca p.copy.length l.cc).ownBlock ≠ some x
  vc : ∀ x, (Value.slice l.va p.val.length l.vc).ownBlock = some x → (Value.slice l.ca p.copy.length l.cc).ownBlock ≠ some x
  kept : Kept [] w W
  bw : w.heap.size ≤ B
  fw : ∀ x ∈ F, w.heap.size ≤ x

theorem Dt.lts {w : World} {b : Nat} {cs : Array Value} {br : Nat} {F : List Nat} {s : RS} (h : Dt w b cs br F s) : ∀ x ∈ b :: F, x < w.heap.size := by
  intro x hx
  simp at hx
  rcases hx with rfl | hx
  · exact h.blk.lt
  · exact h.rd.lt x hx
theorem sub_cons {b : Nat} {F F' : List Nat} (h : ∀ x ∈ F', x ∈ F) {x : Nat} (hx : x ∉ b :: F) : x ∉ b :: F' := fun hm => by
  simp at hm hx
  rcases hm with rfl | hm
  · exact hx.1 rfl
  · exact hx.2 (h x hm)
theorem DS.kp {w : World} {B br : Nat} {p : Pl} {l : Lo} {F : List Nat} {W W' : World} {s : RS} (h : DS w B br p l F W s) (k : Kept (B :: F) W W') : Kept [] w W' :=
  h.kept.trans k (fun x hx => Or.inr (by simp at hx; rcases hx with rfl | hx; exact h.bw; exact h.fw x hx))
/-- A number taken in. -/
theorem DS.num {w : World} {B br : Nat} {p : Pl} {l : Lo} {F : List Nat} {W W' : World} {s s' : RS} (h : DS w B br p l F W s) {o : Nat} {n : Int} (ho : o = 1 ∨ o = 2 ∨ o = 3 ∨ o = 4 ∨ o = 5) (hp : DtP W B ((rcc p l).setIfInBounds o (.int .i64 n)) br F s' W') : ∃ F', DS w B br (setN p n o) l F' W' s' ∧ (∀ x ∈ F', x ∈ F) ∧ Kept (B :: F) W W' := by
  obtain ⟨F', h1, h2, h3⟩ := hp
  have e : (rcc p l).setIfInBounds o (.int .i64 n) = rcc (setN p n o) l ∧ (setN p n o).key = p.key ∧ (setN p n o).val = p.val ∧ (setN p n o).copy = p.copy := by
    rcases ho with rfl | rfl | rfl | rfl | rfl <;> exact ⟨rfl, rfl, rfl, rfl⟩
  obtain ⟨e1, e2, e3, e4⟩ := e
  rw [e1] at h1
  refine ⟨F', ⟨h1, ?_, ?_, ?_, ?_, ?_, ?_, ?_, ?_, ?_, h.kp h2, h.bw, fun x hx => h.fw x (h3 x hx)⟩, h3, h2⟩
  · rw [e2]; exact h.kn.kept h2 h.ko
  · rw [e3]; exact h.vn.kept h2 h.vo
  · rw [e4]; exact h.cn.kept h2 h.co
  · rw [e2]; exact fun x hx => sub_cons h3 (h.ko x hx)
  · rw [e3]; exact fun x hx => sub_cons h3 (h.vo x hx)
  · rw [e4]; exact fun x hx => sub_cons h3 (h.co x hx)
  · rw [e2, e3]; exact h.kv
  · rw [e2, e4]; exact h.kc
  · rw [e3, e4]; exact h.vc
/-- A copy taken in. -/
theorem DS.text {w : World} {B br : Nat} {p : Pl} {l : Lo} {F : List Nat} {W W' : World} {s s' : RS} (h : DS w B br p l F W s) {v : Value} {bs : List Nat} (hv : NewV W bs v W') (hp : DtP W B ((rcc p l).setIfInBounds 10 v) br F s' W') : ∃ F' l', DS w B br { p with copy := bs } l' F' W' s' ∧ (∀ x ∈ F', x ∈ F) ∧ Kept (B :: F) W W' := by
  obtain ⟨F', h1, h2, h3⟩ := hp
  have hl := h.dt.lts
  have hn : ∀ x, v.ownBlock = some x → x ∉ B :: F := fun x hx hm => by have := (hv.lt hx).1; have := hl x hm; omega
  have hv1 := hv.from h.kept.size
  have hge : ∀ x, v.ownBlock = some x → W.heap.size ≤ x := fun x hx => (hv.lt hx).1
  obtain ⟨a, c, rfl, _⟩ := hv
  refine ⟨F', { l with ca := a, cc := c }, ⟨h1, h.kn.kept h2 h.ko, h.vn.kept h2 h.vo, hv1, fun x hx => sub_cons h3 (h.ko x hx), fun x hx => sub_cons h3 (h.vo x hx), fun x hx => sub_cons h3 (hn x hx), h.kv, fun x hx e => ?_, fun x hx e => ?_, h.kp h2, h.bw, fun x hx => h.fw x (h3 x hx)⟩, h3, h2⟩
  · have := (h.kn.lt hx).2; have := hge x e; omega
  · have := (h.vn.lt hx).2; have := hge x e; omega
/-- An op taken in. -/
theorem DS.op {w : World} {B br : Nat} {p : Pl} {l : Lo} {F : List Nat} {W W' : World} {s s' : RS} (h : DS w B br p l F W s) {kv vv : Value} {q : Pl} (hk : NewV W q.key kv W') (hv : NewV W q.val vv W') (hu : ∀ x, kv.ownBlock = some x → vv.ownBlock ≠ some x)
    (hp : DtP W B #[.int .i64 p.kind, .int .i64 p.shard, .int .i64 p.epoch, .int .i64 p.peer, .int .i64 p.client, .int .i64 p.seq, .int .i64 q.okind, kv, vv, .int .i64 q.rev, .slice l.ca p.copy.length l.cc] br F s' W') : ∃ F' l', DS w B br { p with okind := q.okind, key := q.key, val := q.val, rev := q.rev } l' F' W' s' ∧ (∀ x ∈ F', x ∈ F) ∧ Kept (B :: F) W W' := by
  obtain ⟨F', h1, h2, h3⟩ := hp
  have hl := h.dt.lts
  have hn1 : ∀ x, kv.ownBlock = some x → x ∉ B :: F := fun x hx hm => by have := (hk.lt hx).1; have := hl x hm; omega
  have hn2 : ∀ x, vv.ownBlock = some x → x ∉ B :: F := fun x hx hm => by have := (hv.lt hx).1; have := hl x hm; omega
  have g1 := hk.from h.kept.size
  have g2 := hv.from h.kept.size
  have hge1 : ∀ x, kv.ownBlock = some x → W.heap.size ≤ x := fun x hx => (hk.lt hx).1
  have hge2 : ∀ x, vv.ownBlock = some x → W.heap.size ≤ x := fun x hx => (hv.lt hx).1
  obtain ⟨a, c, rfl, _⟩ := hk
  obtain ⟨a2, c2, rfl, _⟩ := hv
  refine ⟨F', { l with ka := a, kc := c, va := a2, vc := c2 }, ⟨h1, g1, g2, h.cn.kept h2 h.co, fun x hx => sub_cons h3 (hn1 x hx), fun x hx => sub_cons h3 (hn2 x hx), fun x hx => sub_cons h3 (h.co x hx), hu, fun x hx e => ?_, fun x hx e => ?_, h.kp h2, h.bw, fun x hx => h.fw x (h3 x hx)⟩, h3, h2⟩
  · have := (h.cn.lt e).2; have := hge1 x hx; omega
  · have := (h.cn.lt e).2; have := hge2 x hx; omega

set_option maxRecDepth 100000 in
set_option maxHeartbeats 1600000 in
theorem write3_any {w : World} {b p br : Nat} {F : List Nat} {s : RS} {r : Pl} {l : Lo} (h : Dt w b (rcc r l) br F s) (hp : w.cell? ⟨p, 0, none⟩ = some (fv 39)) :
    Calls Try.prog 60 #[ptr b, ptr br, ptr p] w fun e w' => e = .returned (.tuple #[]) ∧ ∃ kv vv, NewV w (takO s zeroP).2.key kv w' ∧ NewV w (takO s zeroP).2.val vv w' ∧ (∀ x, kv.ownBlock = some x → vv.ownBlock ≠ some x) ∧ DtP w b #[.int .i64 r.kind, .int .i64 r.shard, .int .i64 r.epoch, .int .i64 r.peer, .int .i64 r.client, .int .i64 r.seq, .int .i64 (takO s zeroP).2.okind, kv, vv, .int .i64 (takO s zeroP).2.rev, .slice l.ca r.copy.length l.cc] br F (takO s zeroP).1 w' := by
  have ha := acc6
  have hen := ha.en
  have HA := hide ha.at_
  have HN := hide (takeOp_any h.rd)
  have HH := hide h
  unfold ptr fv at *
  clear ha h
  go_enter Try.func60, Try.ntmps60
  go_wp2_with (first
    | (go_at_call 61; refine (unhide HN).mono ?_; rintro e w1 ⟨kv, vv, rfl, n1, n2, u, F', hr1, hk1, hf1⟩; obtain ⟨ka, kc, rfl, o1⟩ := n1; obtain ⟨va, vc, rfl, o2⟩ := n2; have n1 : NewV w _ (.slice ka _ kc) w1 := ⟨ka, kc, rfl, o1⟩; have n2 : NewV w _ (.slice va _ vc) w1 := ⟨va, vc, rfl, o2⟩; have hb1 := (unhide HH).blk.kept hk1 (unhide HH).apart; obtain ⟨d0, d1, d2, d3, d4, d5, d6, d7, d8, d9, d10⟩ := box11 hb1; have f6 := hb1.frozen 6; have f7 := hb1.frozen 7; have f8 := hb1.frozen 8; have f9 := hb1.frozen 9; have HB1 := hide hb1; have HN1 := hide n1; have HN2 := hide n2; have HU := hide u; clear hb1 n1 n2 u o1 o2)
    | (refine (unhide HA _ _).mono ?_; rintro e w1 ⟨rfl, hz⟩; have hz2 := hz.symm; subst hz2; clear hz))
  go_end0
  have hlt := (unhide HH).blk.lt
  have q : Kept [b] w1 ((((w1.setCell ⟨b, 6, none⟩ (.int .i64 (takO s zeroP).2.okind)).setCell ⟨b, 7, none⟩ (.slice ka (takO s zeroP).2.key.length kc)).setCell ⟨b, 8, none⟩ (.slice va (takO s zeroP).2.val.length vc)).setCell ⟨b, 9, none⟩ (.int .i64 (takO s zeroP).2.rev)) :=
    ((((Kept.refl [b] w1).setCell (Or.inl (by simp)) _).setCell (Or.inl (by simp)) _).setCell (Or.inl (by simp)) _).setCell (Or.inl (by simp)) _
  have hbF : b ∉ F' := fun hm => (unhide HH).apart (hf1 b hm)
  refine ⟨rfl, _, _, (unhide HN1).kept q (fun x hx hm => ?_), (unhide HN2).kept q (fun x hx hm => ?_), unhide HU, F', ⟨Blk.op0 (unhide HB1) _ _ _ _, hr1.kept q (fun x hx hm => ?_), hbF⟩, ?_, hf1⟩
  · simp at hm; subst hm; have := ((unhide HN1).lt hx).1; omega
  · simp at hm; subst hm; have := ((unhide HN2).lt hx).1; omega
  · simp at hm; subst hm; exact hbF hx
  · exact (hk1.mono (fun x hx => Or.inl (by simp [hx]))).trans q (fun x hx => Or.inl (by simp at hx; simp [hx]))
end Go.Proofs.Ytocmgfmfalaebab

/- The table of the fields of each kind. -/
namespace Go.Proofs.Ytocmgfmfalaebab
open Go.RowKit

def fn (g : Nat) (caps : Array Value) : Value := .func (.func g) #[] caps
/-- A field's four functions; p, q, s: the boxes of what they hold. -/
def fdv : Fk → Nat → Nat → Nat → Array Value
  | .num _ _ _, p, q, s => #[fn 50 #[ptr p, ptr q, ptr s], fn 51 #[ptr p], fn 53 #[ptr p], fn 55 #[ptr p]]
  | .op, p, _, _ => #[fn 56 #[ptr p], fn 58 #[ptr p], fn 60 #[ptr p], fn 62 #[ptr p]]
  | .copy, p, q, _ => #[fn 63 #[ptr p, ptr q], fn 64 #[ptr p], fn 66 #[ptr q, ptr p], fn 68 #[ptr p]]
/-- The boxes of a field. -/
def Fd (w : World) : Fk → Nat → Nat → Nat → Prop
  | .num o lo hi, p, q, s => (∃ g, Acc g o ∧ Blk w p #[fv g] 74) ∧ (o = 1 ∨ o = 2 ∨ o = 3 ∨ o = 4 ∨ o = 5) ∧ Blk w q #[.int .i64 lo] 3 ∧ Blk w s #[.int .i64 hi] 3
  | .op, p, _, _ => Blk w p #[fv 39] 77
  | .copy, p, q, _ => Blk w p #[fv 41] 80 ∧ Blk w q #[.int .i64 262144] 3
def FdP (w : World) (k : Fk) (e : Ending) (w' : World) : Prop := ∃ p q s, e = .returned (.agg (fdv k p q s)) ∧ Fd w' k p q s ∧ (w.heap.size ≤ p ∧ p < w'.heap.size) ∧ (w.heap.size ≤ q ∧ q < w'.heap.size) ∧ (w.heap.size ≤ s ∧ s < w'.heap.size) ∧ Kept [] w w'
theorem Fd.kept {w w' : World} {G : List Nat} {k : Fk} {p q s : Nat} (h : Fd w k p q s) (hk : Kept G w w') (hp : p ∉ G) (hq : q ∉ G) (hs : s ∉ G) : Fd w' k p q s := by
  cases k with
  | num o lo hi => obtain ⟨⟨g, h1, h2⟩, h3, h4, h5⟩ := h; exact ⟨⟨g, h1, h2.kept hk hp⟩, h3, h4.kept hk hq, h5.kept hk hs⟩
  | op => exact Blk.kept h hk hp
  | copy => exact ⟨h.1.kept hk hp, h.2.kept hk hq⟩

theorem new1 (w : World) (o : Obj) (cs : Array Value) (t : TypeId) : Blk ((w.alloc o).alloc (.cells cs t)) (w.heap.size + 1) cs t := by
  have h := Blk.new (w.alloc o) cs t
  rw [World.size_alloc] at h
  exact h
theorem new2 (w : World) (o p : Obj) (cs : Array Value) (t : TypeId) : Blk (((w.alloc o).alloc p).alloc (.cells cs t)) (w.heap.size + 1 + 1) cs t := by
  have h := Blk.new ((w.alloc o).alloc p) cs t
  rw [World.size_alloc, World.size_alloc] at h
  exact h
theorem new3 (w : World) (o p q : Obj) (cs : Array Value) (t : TypeId) : Blk ((((w.alloc o).alloc p).alloc q).alloc (.cells cs t)) (w.heap.size + 1 + 1 + 1) cs t := by
  have h := Blk.new (((w.alloc o).alloc p).alloc q) cs t
  rw [World.size_alloc, World.size_alloc, World.size_alloc] at h
  exact h
theorem infoFld : (Try.prog.info? 57).map (·.size) = some 4 := by kernel_rfl

set_option maxRecDepth 100000 in
set_option maxHeartbeats 800000 in
theorem numberF_any (w : World) (g o : Nat) (lo hi : Int) (ha : Acc g o) (ho : o = 1 ∨ o = 2 ∨ o = 3 ∨ o = 4 ∨ o = 5) : Calls Try.prog 32 #[fv g, .int .i64 lo, .int .i64 hi] w (FdP w (.num o lo hi)) := by
  have hmf : ∀ (fn : Fn) (first cap : Array Value) (w : World), (Instr.makeFunc fn first cap).run Try.prog w = .ok (.func fn first cap) w := fun _ _ _ _ => rfl
  have hsf := fun w a f x y md => run_store Try.prog w a (.func f x y) md rfl
  have HA := hide ha
  clear ha
  unfold fv
  go_enter Try.func32, Try.ntmps32
  go_wp2_with fail
  refine ret_struct (b := w.heap.size + 1 + 1 + 1) rfl rfl (new3 w _ _ _ _ _) Try.underlying57 infoFld rfl ?_
  refine ⟨w.heap.size, w.heap.size + 1, w.heap.size + 1 + 1, rfl, ⟨⟨g, unhide HA, ((((Blk.new w _ _).alloc _).alloc _).alloc _)⟩, ho, ((new1 w _ _ _).alloc _).alloc _, (new2 w _ _ _ _).alloc _⟩, ⟨by omega, by simp only [World.size_alloc]; omega⟩, ⟨by omega, by simp only [World.size_alloc]; omega⟩, ⟨by omega, by simp only [World.size_alloc]; omega⟩, ((((Kept.refl [] w).alloc _).alloc _).alloc _).alloc _⟩
set_option maxRecDepth 100000 in
set_option maxHeartbeats 800000 in
theorem textF_any (w : World) : Calls Try.prog 40 #[fv 41, .int .i64 262144] w (FdP w .copy) := by
  have hmf : ∀ (fn : Fn) (first cap : Array Value) (w : World), (Instr.makeFunc fn first cap).run Try.prog w = .ok (.func fn first cap) w := fun _ _ _ _ => rfl
  have hsf := fun w a f x y md => run_store Try.prog w a (.func f x y) md rfl
  unfold fv
  go_enter Try.func40, Try.ntmps40
  go_wp2_with fail
  refine ret_struct (b := w.heap.size + 1 + 1) rfl rfl (new2 w _ _ _ _) Try.underlying57 infoFld rfl ?_
  refine ⟨w.heap.size, w.heap.size + 1, w.heap.size, rfl, ⟨((Blk.new w _ _).alloc _).alloc _, (new1 w _ _ _).alloc _⟩, ⟨by omega, by simp only [World.size_alloc]; omega⟩, ⟨by omega, by simp only [World.size_alloc]; omega⟩, ⟨by omega, by simp only [World.size_alloc]; omega⟩, (((Kept.refl [] w).alloc _).alloc _).alloc _⟩
set_option maxRecDepth 100000 in
set_option maxHeartbeats 800000 in
theorem writeF_any (w : World) : Calls Try.prog 38 #[fv 39] w (FdP w .op) := by
  have hmf : ∀ (fn : Fn) (first cap : Array Value) (w : World), (Instr.makeFunc fn first cap).run Try.prog w = .ok (.func fn first cap) w := fun _ _ _ _ => rfl
  have hsf := fun w a f x y md => run_store Try.prog w a (.func f x y) md rfl
  unfold fv
  go_enter Try.func38, Try.ntmps38
  go_wp2_with fail
  refine ret_struct (b := w.heap.size + 1) rfl rfl (new1 w _ _ _) Try.underlying57 infoFld rfl ?_
  refine ⟨w.heap.size, w.heap.size, w.heap.size, rfl, (Blk.new w _ _).alloc _, ⟨by omega, by simp only [World.size_alloc]; omega⟩, ⟨by omega, by simp only [World.size_alloc]; omega⟩, ⟨by omega, by simp only [World.size_alloc]; omega⟩, ((Kept.refl [] w).alloc _).alloc _⟩
end Go.Proofs.Ytocmgfmfalaebab

/- fieldsByKind, fieldsOf. -/
namespace Go.Proofs.Ytocmgfmfalaebab
open Go.RowKit

theorem world_at {R F : World → Prop} {x : World} (h : R x) (H : ∀ wr, R wr → F wr) : F x := H x h
/-- A field in its box at B. -/
structure Bx (w W : World) (k : Fk) (B p q s : Nat) : Prop where
  blk : Blk W B (fdv k p q s) 57
  fd : Fd W k p q s
  lp : w.heap.size ≤ p ∧ p < W.heap.size
  lq : w.heap.size ≤ q ∧ q < W.heap.size
  ls : w.heap.size ≤ s ∧ s < W.heap.size
theorem Bx.kept {w W W' : World} {k : Fk} {B p q s : Nat} (h : Bx w W k B p q s) (hk : Kept [] W W') : Bx w W' k B p q s := by
  have := hk.size
  exact ⟨h.blk.kept hk (by simp), h.fd.kept hk (by simp) (by simp) (by simp), ⟨h.lp.1, by have := h.lp.2; omega⟩, ⟨h.lq.1, by have := h.lq.2; omega⟩, ⟨h.ls.1, by have := h.ls.2; omega⟩⟩
theorem Bx.new {W0 w W : World} {k : Fk} {p q s : Nat} (hf : Fd W k p q s) (hp : w.heap.size ≤ p ∧ p < W.heap.size) (hq : w.heap.size ≤ q ∧ q < W.heap.size) (hs : w.heap.size ≤ s ∧ s < W.heap.size) (h0 : W0.heap.size ≤ w.heap.size) : Bx W0 (W.alloc (.cells (fdv k p q s) 57)) k W.heap.size p q s := by
  have hk := (Kept.refl [] W).alloc (.cells (fdv k p q s) 57)
  exact ⟨Blk.new _ _ _, hf.kept hk (by simp) (by simp) (by simp), ⟨by omega, by rw [World.size_alloc]; omega⟩, ⟨by omega, by rw [World.size_alloc]; omega⟩, ⟨by omega, by rw [World.size_alloc]; omega⟩⟩

/-- A field and its boxes. -/
structure Ff where
  k : Fk
  p : Nat
  q : Nat
  s : Nat
def ffc (f : Ff) : List Value := (fdv f.k f.p f.q f.s).toList
theorem ffc_len (f : Ff) : (ffc f).length = 4 := by
  obtain ⟨k, p, q, s⟩ := f
  cases k <;> rfl
/-- A row of fields in memory, its blocks from lo to below hi. -/
def FRow (lo hi : Nat) (W : World) (v : Value) (ks : List Fk) : Prop :=
  (v = .slice none 0 0 ∧ ks = []) ∨ ∃ (r : Nat) (fs : List Ff), v = .slice (some ⟨r, 0, none⟩) ks.length ks.length ∧ fs.map (·.k) = ks ∧ (lo ≤ r ∧ r < hi) ∧ Blk W r (fs.flatMap ffc).toArray 57 ∧ ∀ f ∈ fs, Fd W f.k f.p f.q f.s ∧ (lo ≤ f.p ∧ f.p < hi) ∧ (lo ≤ f.q ∧ f.q < hi) ∧ (lo ≤ f.s ∧ f.s < hi)
theorem Bx.all {w W : World} {k : Fk} {B p q s : Nat} (h : Bx w W k B p q s) : Fd W k p q s ∧ (w.heap.size ≤ p ∧ p < W.heap.size) ∧ (w.heap.size ≤ q ∧ q < W.heap.size) ∧ (w.heap.size ≤ s ∧ s < W.heap.size) := ⟨h.fd, h.lp, h.lq, h.ls⟩
theorem FRow.one {w W : World} {r : Nat} {k1 : Fk} {B1 p1 q1 s1 : Nat} (hb : Blk W r (ffc ⟨k1, p1, q1, s1⟩).toArray 57) (hr : w.heap.size ≤ r) (h1 : Bx w W k1 B1 p1 q1 s1) : FRow w.heap.size W.heap.size W (.slice (some ⟨r, 0, none⟩) 1 1) [k1] :=
  Or.inr ⟨r, [⟨k1, p1, q1, s1⟩], rfl, rfl, ⟨hr, hb.lt⟩, by simpa using hb, fun f hf => by simp at hf; subst hf; exact h1.all⟩
theorem FRow.two {w W : World} {r : Nat} {k1 k2 : Fk} {B1 p1 q1 s1 B2 p2 q2 s2 : Nat} (hb : Blk W r (ffc ⟨k1, p1, q1, s1⟩ ++ ffc ⟨k2, p2, q2, s2⟩).toArray 57) (hr : w.heap.size ≤ r) (h1 : Bx w W k1 B1 p1 q1 s1) (h2 : Bx w W k2 B2 p2 q2 s2) : FRow w.heap.size W.heap.size W (.slice (some ⟨r, 0, none⟩) 2 2) [k1, k2] :=
  Or.inr ⟨r, [⟨k1, p1, q1, s1⟩, ⟨k2, p2, q2, s2⟩], rfl, rfl, ⟨hr, hb.lt⟩, by simpa using hb, fun f hf => by simp at hf; rcases hf with rfl | rfl; exact h1.all; exact h2.all⟩
theorem FRow.four {w W : World} {r : Nat} {k1 k2 k3 k4 : Fk} {B1 p1 q1 s1 B2 p2 q2 s2 B3 p3 q3 s3 B4 p4 q4 s4 : Nat} (hb : Blk W r (ffc ⟨k1, p1, q1, s1⟩ ++ (ffc ⟨k2, p2, q2, s2⟩ ++ (ffc ⟨k3, p3, q3, s3⟩ ++ ffc ⟨k4, p4, q4, s4⟩))).toArray 57) (hr : w.heap.size ≤ r) (h1 : Bx w W k1 B1 p1 q1 s1) (h2 : Bx w W k2 B2 p2 q2 s2) (h3 : Bx w W k3 B3 p3 q3 s3) (h4 : Bx w W k4 B4 p4 q4 s4) : FRow w.heap.size W.heap.size W (.slice (some ⟨r, 0, none⟩) 4 4) [k1, k2, k3, k4] :=
  Or.inr ⟨r, [⟨k1, p1, q1, s1⟩, ⟨k2, p2, q2, s2⟩, ⟨k3, p3, q3, s3⟩, ⟨k4, p4, q4, s4⟩], rfl, rfl, ⟨hr, hb.lt⟩, by simpa using hb, fun f hf => by simp at hf; rcases hf with rfl | rfl | rfl | rfl; exact h1.all; exact h2.all; exact h3.all; exact h4.all⟩
theorem FRow.kept {lo hi : Nat} {W W' : World} {v : Value} {ks : List Fk} {G : List Nat} (h : FRow lo hi W v ks) (hk : Kept G W W') (hG : ∀ x ∈ G, x < lo ∨ hi ≤ x) : FRow lo hi W' v ks := by
  rcases h with h | ⟨r, fs, h1, h2, h3, h4, h5⟩
  · exact Or.inl h
  · have hn : ∀ x, lo ≤ x ∧ x < hi → x ∉ G := fun x ha hm => by rcases hG x hm with h | h <;> omega
    refine Or.inr ⟨r, fs, h1, h2, h3, h4.kept hk (hn _ h3), fun f hf => ?_⟩
    obtain ⟨g1, a1, a2, a3⟩ := h5 f hf
    exact ⟨g1.kept hk (hn _ a1) (hn _ a2) (hn _ a3), a1, a2, a3⟩
theorem Blk.at {W : World} {n : Nat} (h : W.heap.size = n) (cs : Array Value) (t : TypeId) : Blk (W.alloc (.cells cs t)) n cs t := by subst h; exact Blk.new _ _ _
/-- What fieldsByKind answers. -/
def Tab (w : World) (e : Ending) (w' : World) : Prop := ∃ (g : Nat) (v1 v2 v3 v4 v5 v6 v7 v8 : Value), e = .returned (.slice (some ⟨g, 0, none⟩) 9 9) ∧ Kept [] w w' ∧ Blk w' g #[.slice none 0 0, v1, v2, v3, v4, v5, v6, v7, v8] 43 ∧ FRow w.heap.size w'.heap.size w' v1 (rowOf 1) ∧ FRow w.heap.size w'.heap.size w' v2 (rowOf 2) ∧ FRow w.heap.size w'.heap.size w' v3 (rowOf 3) ∧ FRow w.heap.size w'.heap.size w' v4 (rowOf 4) ∧ FRow w.heap.size w'.heap.size w' v5 (rowOf 5) ∧ FRow w.heap.size w'.heap.size w' v6 (rowOf 6) ∧ FRow w.heap.size w'.heap.size w' v7 (rowOf 7) ∧ FRow w.heap.size w'.heap.size w' v8 (rowOf 8)
theorem Bx.up {w W W' : World} {k : Fk} {B p q s : Nat} (h : Bx w W k B p q s) (hk : Kept [] W W') : Bx w W' k B p q s := h.kept hk
theorem Tab.of {w Y : World} {B1 p1 q1 s1 B2 p2 q2 s2 B3 p3 q3 s3 B4 p4 q4 s4 B5 p5 q5 s5 B6 p6 q6 s6 B7 p7 q7 s7 : Nat} (h : Bx w Y sh B1 p1 q1 s1 ∧ Bx w Y ep B2 p2 q2 s2 ∧ Bx w Y pe B3 p3 q3 s3 ∧ Bx w Y cl B4 p4 q4 s4 ∧ Bx w Y sq B5 p5 q5 s5 ∧ Bx w Y .op B6 p6 q6 s6 ∧ Bx w Y .copy B7 p7 q7 s7 ∧ Kept [] w Y) {Z : World}
    (hZ : Z = ((((((((Y.alloc (.cells (ffc ⟨sh, p1, q1, s1⟩ ++ (ffc ⟨cl, p4, q4, s4⟩ ++ (ffc ⟨sq, p5, q5, s5⟩ ++ ffc ⟨.op, p6, q6, s6⟩))).toArray 57)).alloc (.cells (ffc ⟨sh, p1, q1, s1⟩ ++ ffc ⟨pe, p3, q3, s3⟩).toArray 57)).alloc (.cells (ffc ⟨sh, p1, q1, s1⟩).toArray 57)).alloc (.cells (ffc ⟨sh, p1, q1, s1⟩ ++ (ffc ⟨ep, p2, q2, s2⟩ ++ (ffc ⟨pe, p3, q3, s3⟩ ++ ffc ⟨.copy, p7, q7, s7⟩))).toArray 57)).alloc (.cells (ffc ⟨sh, p1, q1, s1⟩).toArray 57)).alloc (.cells (ffc ⟨sh, p1, q1, s1⟩).toArray 57)).alloc (.cells (ffc ⟨sh, p1, q1, s1⟩).toArray 57)).alloc (.cells (ffc ⟨sh, p1, q1, s1⟩).toArray 57)).alloc (.cells #[.slice none 0 0, .slice (some ⟨Y.heap.size, 0, none⟩) 4 4, .slice (some ⟨Y.heap.size + 1, 0, none⟩) 2 2, .slice (some ⟨Y.heap.size + 1 + 1, 0, none⟩) 1 1, .slice (some ⟨Y.heap.size + 1 + 1 + 1, 0, none⟩) 4 4, .slice (some ⟨Y.heap.size + 1 + 1 + 1 + 1, 0, none⟩) 1 1, .slice (some ⟨Y.heap.size + 1 + 1 + 1 + 1 + 1, 0, none⟩) 1 1, .slice (some ⟨Y.heap.size + 1 + 1 + 1 + 1 + 1 + 1, 0, none⟩) 1 1, .slice (some ⟨Y.heap.size + 1 + 1 + 1 + 1 + 1 + 1 + 1, 0, none⟩) 1 1] 43)) :
    Tab w (.returned (.slice (some ⟨Y.heap.size + 1 + 1 + 1 + 1 + 1 + 1 + 1 + 1, 0, none⟩) 9 9)) Z := by
  obtain ⟨b1, b2, b3, b4, b5, b6, b7, hk⟩ := h
  have hy := hk.size
  have kz : Kept [] Y Z := by subst hZ; repeat (first | exact Kept.refl _ _ | refine Kept.alloc ?_ _)
  have hb : Blk Z (Y.heap.size + 1 + 1 + 1 + 1 + 1 + 1 + 1 + 1) #[.slice none 0 0, .slice (some ⟨Y.heap.size, 0, none⟩) 4 4, .slice (some ⟨Y.heap.size + 1, 0, none⟩) 2 2, .slice (some ⟨Y.heap.size + 1 + 1, 0, none⟩) 1 1, .slice (some ⟨Y.heap.size + 1 + 1 + 1, 0, none⟩) 4 4, .slice (some ⟨Y.heap.size + 1 + 1 + 1 + 1, 0, none⟩) 1 1, .slice (some ⟨Y.heap.size + 1 + 1 + 1 + 1 + 1, 0, none⟩) 1 1, .slice (some ⟨Y.heap.size + 1 + 1 + 1 + 1 + 1 + 1, 0, none⟩) 1 1, .slice (some ⟨Y.heap.size + 1 + 1 + 1 + 1 + 1 + 1 + 1, 0, none⟩) 1 1] 43 := by subst hZ; exact Blk.at (by simp only [World.size_alloc]) _ _
  have r1 : FRow w.heap.size Z.heap.size Z (.slice (some ⟨Y.heap.size, 0, none⟩) 4 4) (rowOf 1) := by
    refine FRow.four ?_ (by omega) (b1.up kz) (b4.up kz) (b5.up kz) (b6.up kz)
    subst hZ; exact (((((((((Blk.at rfl _ _).alloc _).alloc _).alloc _).alloc _).alloc _).alloc _).alloc _).alloc _)
  have r2 : FRow w.heap.size Z.heap.size Z (.slice (some ⟨Y.heap.size + 1, 0, none⟩) 2 2) (rowOf 2) := by
    refine FRow.two ?_ (by omega) (b1.up kz) (b3.up kz)
    subst hZ; exact ((((((((Blk.at (by simp only [World.size_alloc]) _ _).alloc _).alloc _).alloc _).alloc _).alloc _).alloc _).alloc _)
  have r3 : FRow w.heap.size Z.heap.size Z (.slice (some ⟨Y.heap.size + 1 + 1, 0, none⟩) 1 1) (rowOf 3) := by
    refine FRow.one ?_ (by omega) (b1.up kz)
    subst hZ; exact (((((((Blk.at (by simp only [World.size_alloc]) _ _).alloc _).alloc _).alloc _).alloc _).alloc _).alloc _)
  have r4 : FRow w.heap.size Z.heap.size Z (.slice (some ⟨Y.heap.size + 1 + 1 + 1, 0, none⟩) 4 4) (rowOf 4) := by
    refine FRow.four ?_ (by omega) (b1.up kz) (b2.up kz) (b3.up kz) (b7.up kz)
    subst hZ; exact ((((((Blk.at (by simp only [World.size_alloc]) _ _).alloc _).alloc _).alloc _).alloc _).alloc _)
  have r5 : FRow w.heap.size Z.heap.size Z (.slice (some ⟨Y.heap.size + 1 + 1 + 1 + 1, 0, none⟩) 1 1) (rowOf 5) := by
    refine FRow.one ?_ (by omega) (b1.up kz)
    subst hZ; exact (((((Blk.at (by simp only [World.size_alloc]) _ _).alloc _).alloc _).alloc _).alloc _)
  have r6 : FRow w.heap.size Z.heap.size Z (.slice (some ⟨Y.heap.size + 1 + 1 + 1 + 1 + 1, 0, none⟩) 1 1) (rowOf 6) := by
    refine FRow.one ?_ (by omega) (b1.up kz)
    subst hZ; exact ((((Blk.at (by simp only [World.size_alloc]) _ _).alloc _).alloc _).alloc _)
  have r7 : FRow w.heap.size Z.heap.size Z (.slice (some ⟨Y.heap.size + 1 + 1 + 1 + 1 + 1 + 1, 0, none⟩) 1 1) (rowOf 7) := by
    refine FRow.one ?_ (by omega) (b1.up kz)
    subst hZ; exact (((Blk.at (by simp only [World.size_alloc]) _ _).alloc _).alloc _)
  have r8 : FRow w.heap.size Z.heap.size Z (.slice (some ⟨Y.heap.size + 1 + 1 + 1 + 1 + 1 + 1 + 1, 0, none⟩) 1 1) (rowOf 8) := by
    refine FRow.one ?_ (by omega) (b1.up kz)
    subst hZ; exact ((Blk.at (by simp only [World.size_alloc]) _ _).alloc _)
  exact ⟨_, _, _, _, _, _, _, _, _, rfl, hk.step kz, hb, r1, r2, r3, r4, r5, r6, r7, r8⟩

set_option maxRecDepth 100000 in
set_option maxHeartbeats 400000 in
theorem table_any (w : World) : Calls Try.prog 23 #[] w (Tab w) := by
  have hmf : ∀ (fn : Fn) (first cap : Array Value) (w : World), (Instr.makeFunc fn first cap).run Try.prog w = .ok (.func fn first cap) w := fun _ _ _ _ => rfl
  have hsf := fun w a f x y md => run_store Try.prog w a (.func f x y) md rfl
  have N1 := hide (fun W => numberF_any W _ _ 0 63 acc1 (by omega))
  have N2 := hide (fun W => numberF_any W _ _ 1 1073741824 acc2 (by omega))
  have N3 := hide (fun W => numberF_any W _ _ 0 7 acc3 (by omega))
  have N4 := hide (fun W => numberF_any W _ _ 0 15 acc4 (by omega))
  have N5 := hide (fun W => numberF_any W _ _ 1 1073741824 acc5 (by omega))
  have N6 := hide (fun W => writeF_any W)
  have N7 := hide (fun W => textF_any W)
  unfold fv at *
  go_enter Try.func23, Try.ntmps23
  go_upto_region 8 with (first
    | (go_at_call 32; refine (unhide N1 _).mono ?_; rintro e w1 ⟨p1, q1, s1, rfl, hf1, hp1, hq1, hs1, k1⟩; simp only [fdv, fn, ptr]; have kk1 := k1.alloc (.cells (fdv sh p1 q1 s1) 57);  have HB1 := hide (Bx.new (W0 := w) (k := sh) hf1 hp1 hq1 hs1 (by first | exact Nat.le_refl _ | exact (unhide HK).size)); have HK := hide (kk1); clear N1 hf1 hp1 hq1 hs1 k1 kk1)
    | (go_at_call 32; refine (unhide N2 _).mono ?_; rintro e w2 ⟨p2, q2, s2, rfl, hf2, hp2, hq2, hs2, k2⟩; simp only [fdv, fn, ptr]; have kk2 := k2.alloc (.cells (fdv ep p2 q2 s2) 57); have HB1 := hide ((unhide HB1).kept kk2); have HB2 := hide (Bx.new (W0 := w) (k := ep) hf2 hp2 hq2 hs2 (by first | exact Nat.le_refl _ | exact (unhide HK).size)); have HK := hide ((unhide HK).step kk2); clear N2 hf2 hp2 hq2 hs2 k2 kk2)
    | (go_at_call 32; refine (unhide N3 _).mono ?_; rintro e w3 ⟨p3, q3, s3, rfl, hf3, hp3, hq3, hs3, k3⟩; simp only [fdv, fn, ptr]; have kk3 := k3.alloc (.cells (fdv pe p3 q3 s3) 57); have HB1 := hide ((unhide HB1).kept kk3); have HB2 := hide ((unhide HB2).kept kk3); have HB3 := hide (Bx.new (W0 := w) (k := pe) hf3 hp3 hq3 hs3 (by first | exact Nat.le_refl _ | exact (unhide HK).size)); have HK := hide ((unhide HK).step kk3); clear N3 hf3 hp3 hq3 hs3 k3 kk3)
    | (go_at_call 32; refine (unhide N4 _).mono ?_; rintro e w4 ⟨p4, q4, s4, rfl, hf4, hp4, hq4, hs4, k4⟩; simp only [fdv, fn, ptr]; have kk4 := k4.alloc (.cells (fdv cl p4 q4 s4) 57); have HB1 := hide ((unhide HB1).kept kk4); have HB2 := hide ((unhide HB2).kept kk4); have HB3 := hide ((unhide HB3).kept kk4); have HB4 := hide (Bx.new (W0 := w) (k := cl) hf4 hp4 hq4 hs4 (by first | exact Nat.le_refl _ | exact (unhide HK).size)); have HK := hide ((unhide HK).step kk4); clear N4 hf4 hp4 hq4 hs4 k4 kk4)
    | (go_at_call 32; refine (unhide N5 _).mono ?_; rintro e w5 ⟨p5, q5, s5, rfl, hf5, hp5, hq5, hs5, k5⟩; simp only [fdv, fn, ptr]; have kk5 := k5.alloc (.cells (fdv sq p5 q5 s5) 57); have HB1 := hide ((unhide HB1).kept kk5); have HB2 := hide ((unhide HB2).kept kk5); have HB3 := hide ((unhide HB3).kept kk5); have HB4 := hide ((unhide HB4).kept kk5); have HB5 := hide (Bx.new (W0 := w) (k := sq) hf5 hp5 hq5 hs5 (by first | exact Nat.le_refl _ | exact (unhide HK).size)); have HK := hide ((unhide HK).step kk5); clear N5 hf5 hp5 hq5 hs5 k5 kk5)
    | (go_at_call 38; refine (unhide N6 _).mono ?_; rintro e w6 ⟨p6, q6, s6, rfl, hf6, hp6, hq6, hs6, k6⟩; simp only [fdv, fn, ptr]; have kk6 := k6.alloc (.cells (fdv Fk.op p6 q6 s6) 57); have HB1 := hide ((unhide HB1).kept kk6); have HB2 := hide ((unhide HB2).kept kk6); have HB3 := hide ((unhide HB3).kept kk6); have HB4 := hide ((unhide HB4).kept kk6); have HB5 := hide ((unhide HB5).kept kk6); have HB6 := hide (Bx.new (W0 := w) (k := Fk.op) hf6 hp6 hq6 hs6 (by first | exact Nat.le_refl _ | exact (unhide HK).size)); have HK := hide ((unhide HK).step kk6); clear N6 hf6 hp6 hq6 hs6 k6 kk6)
    | (go_at_call 40; refine (unhide N7 _).mono ?_; rintro e w7 ⟨p7, q7, s7, rfl, hf7, hp7, hq7, hs7, k7⟩; simp only [fdv, fn, ptr]; have kk7 := k7.alloc (.cells (fdv Fk.copy p7 q7 s7) 57); have HB1 := hide ((unhide HB1).kept kk7); have HB2 := hide ((unhide HB2).kept kk7); have HB3 := hide ((unhide HB3).kept kk7); have HB4 := hide ((unhide HB4).kept kk7); have HB5 := hide ((unhide HB5).kept kk7); have HB6 := hide ((unhide HB6).kept kk7); have HB7 := hide (Bx.new (W0 := w) (k := Fk.copy) hf7 hp7 hq7 hs7 (by first | exact Nat.le_refl _ | exact (unhide HK).size)); have HK := hide ((unhide HK).step kk7); clear N7 hf7 hp7 hq7 hs7 k7 kk7))
  refine world_at (R := fun Y => Bx w Y sh w1.heap.size p1 q1 s1 ∧ Bx w Y ep w2.heap.size p2 q2 s2 ∧ Bx w Y pe w3.heap.size p3 q3 s3 ∧ Bx w Y cl w4.heap.size p4 q4 s4 ∧ Bx w Y sq w5.heap.size p5 q5 s5 ∧ Bx w Y .op w6.heap.size p6 q6 s6 ∧ Bx w Y .copy w7.heap.size p7 q7 s7 ∧ Kept [] w Y) ⟨unhide HB1, unhide HB2, unhide HB3, unhide HB4, unhide HB5, unhide HB6, unhide HB7, unhide HK⟩ ?_
  clear HB1 HB2 HB3 HB4 HB5 HB6 HB7 HK
  rintro Y ⟨b1, b2, b3, b4, b5, b6, b7, hk⟩
  obtain ⟨c10, c11, c12, c13⟩ := box4 b1.blk
  obtain ⟨c20, c21, c22, c23⟩ := box4 b2.blk
  obtain ⟨c30, c31, c32, c33⟩ := box4 b3.blk
  obtain ⟨c40, c41, c42, c43⟩ := box4 b4.blk
  obtain ⟨c50, c51, c52, c53⟩ := box4 b5.blk
  obtain ⟨c60, c61, c62, c63⟩ := box4 b6.blk
  obtain ⟨c70, c71, c72, c73⟩ := box4 b7.blk
  have l1 := b1.blk.lt
  have l2 := b2.blk.lt
  have l3 := b3.blk.lt
  have l4 := b4.blk.lt
  have l5 := b5.blk.lt
  have l6 := b6.blk.lt
  have l7 := b7.blk.lt
  have HX := hide (And.intro b1 (And.intro b2 (And.intro b3 (And.intro b4 (And.intro b5 (And.intro b6 (And.intro b7 hk)))))))
  clear b1 b2 b3 b4 b5 b6 b7 hk
  generalize w1.heap.size = B1 at *
  generalize w2.heap.size = B2 at *
  generalize w3.heap.size = B3 at *
  generalize w4.heap.size = B4 at *
  generalize w5.heap.size = B5 at *
  generalize w6.heap.size = B6 at *
  generalize w7.heap.size = B7 at *
  have n1_0 : B1 ≠ Y.heap.size := by omega
  have m1_1 : B1 < Y.heap.size + 1 := by omega
  have n1_1 : B1 ≠ Y.heap.size + 1 := by omega
  have m1_2 : B1 < Y.heap.size + 1 + 1 := by omega
  have n1_2 : B1 ≠ Y.heap.size + 1 + 1 := by omega
  have m1_3 : B1 < Y.heap.size + 1 + 1 + 1 := by omega
  have n1_3 : B1 ≠ Y.heap.size + 1 + 1 + 1 := by omega
  have m1_4 : B1 < Y.heap.size + 1 + 1 + 1 + 1 := by omega
  have n1_4 : B1 ≠ Y.heap.size + 1 + 1 + 1 + 1 := by omega
  have m1_5 : B1 < Y.heap.size + 1 + 1 + 1 + 1 + 1 := by omega
  have n1_5 : B1 ≠ Y.heap.size + 1 + 1 + 1 + 1 + 1 := by omega
  have m1_6 : B1 < Y.heap.size + 1 + 1 + 1 + 1 + 1 + 1 := by omega
  have n1_6 : B1 ≠ Y.heap.size + 1 + 1 + 1 + 1 + 1 + 1 := by omega
  have m1_7 : B1 < Y.heap.size + 1 + 1 + 1 + 1 + 1 + 1 + 1 := by omega
  have n1_7 : B1 ≠ Y.heap.size + 1 + 1 + 1 + 1 + 1 + 1 + 1 := by omega
  have n2_0 : B2 ≠ Y.heap.size := by omega
  have m2_1 : B2 < Y.heap.size + 1 := by omega
  have n2_1 : B2 ≠ Y.heap.size + 1 := by omega
  have m2_2 : B2 < Y.heap.size + 1 + 1 := by omega
  have n2_2 : B2 ≠ Y.heap.size + 1 + 1 := by omega
  have m2_3 : B2 < Y.heap.size + 1 + 1 + 1 := by omega
  have n2_3 : B2 ≠ Y.heap.size + 1 + 1 + 1 := by omega
  have m2_4 : B2 < Y.heap.size + 1 + 1 + 1 + 1 := by omega
  have n2_4 : B2 ≠ Y.heap.size + 1 + 1 + 1 + 1 := by omega
  have m2_5 : B2 < Y.heap.size + 1 + 1 + 1 + 1 + 1 := by omega
  have n2_5 : B2 ≠ Y.heap.size + 1 + 1 + 1 + 1 + 1 := by omega
  have m2_6 : B2 < Y.heap.size + 1 + 1 + 1 + 1 + 1 + 1 := by omega
  have n2_6 : B2 ≠ Y.heap.size + 1 + 1 + 1 + 1 + 1 + 1 := by omega
  have m2_7 : B2 < Y.heap.size + 1 + 1 + 1 + 1 + 1 + 1 + 1 := by omega
  have n2_7 : B2 ≠ Y.heap.size + 1 + 1 + 1 + 1 + 1 + 1 + 1 := by omega
  have n3_0 : B3 ≠ Y.heap.size := by omega
  have m3_1 : B3 < Y.heap.size + 1 := by omega
  have n3_1 : B3 ≠ Y.heap.size + 1 := by omega
  have m3_2 : B3 < Y.heap.size + 1 + 1 := by omega
  have n3_2 : B3 ≠ Y.heap.size + 1 + 1 := by omega
  have m3_3 : B3 < Y.heap.size + 1 + 1 + 1 := by omega
  have n3_3 : B3 ≠ Y.heap.size + 1 + 1 + 1 := by omega
  have m3_4 : B3 < Y.heap.size + 1 + 1 + 1 + 1 := by omega
  have n3_4 : B3 ≠ Y.heap.size + 1 + 1 + 1 + 1 := by omega
  have m3_5 : B3 < Y.heap.size + 1 + 1 + 1 + 1 + 1 := by omega
  have n3_5 : B3 ≠ Y.heap.size + 1 + 1 + 1 + 1 + 1 := by omega
  have m3_6 : B3 < Y.heap.size + 1 + 1 + 1 + 1 + 1 + 1 := by omega
  have n3_6 : B3 ≠ Y.heap.size + 1 + 1 + 1 + 1 + 1 + 1 := by omega
  have m3_7 : B3 < Y.heap.size + 1 + 1 + 1 + 1 + 1 + 1 + 1 := by omega
  have n3_7 : B3 ≠ Y.heap.size + 1 + 1 + 1 + 1 + 1 + 1 + 1 := by omega
  have n7_0 : B7 ≠ Y.heap.size := by omega
  have m7_1 : B7 < Y.heap.size + 1 := by omega
  have n7_1 : B7 ≠ Y.heap.size + 1 := by omega
  have m7_2 : B7 < Y.heap.size + 1 + 1 := by omega
  have n7_2 : B7 ≠ Y.heap.size + 1 + 1 := by omega
  have m7_3 : B7 < Y.heap.size + 1 + 1 + 1 := by omega
  have n7_3 : B7 ≠ Y.heap.size + 1 + 1 + 1 := by omega
  have m7_4 : B7 < Y.heap.size + 1 + 1 + 1 + 1 := by omega
  have n7_4 : B7 ≠ Y.heap.size + 1 + 1 + 1 + 1 := by omega
  have m7_5 : B7 < Y.heap.size + 1 + 1 + 1 + 1 + 1 := by omega
  have n7_5 : B7 ≠ Y.heap.size + 1 + 1 + 1 + 1 + 1 := by omega
  have m7_6 : B7 < Y.heap.size + 1 + 1 + 1 + 1 + 1 + 1 := by omega
  have n7_6 : B7 ≠ Y.heap.size + 1 + 1 + 1 + 1 + 1 + 1 := by omega
  have m7_7 : B7 < Y.heap.size + 1 + 1 + 1 + 1 + 1 + 1 + 1 := by omega
  have n7_7 : B7 ≠ Y.heap.size + 1 + 1 + 1 + 1 + 1 + 1 + 1 := by omega
  go_wp2_with fail
  go_ret
  exact Tab.of (unhide HX) rfl
end Go.Proofs.Ytocmgfmfalaebab

/- fieldsOf; is a record sound? -/
namespace Go.Proofs.Ytocmgfmfalaebab
open Go.RowKit

theorem Tab.at {w w' : World} {e : Ending} (h : Tab w e w') : ∃ g, e = .returned (.slice (some ⟨g, 0, none⟩) 9 9) ∧ Kept [] w w' ∧ ∀ n : Nat, n < 9 → ∃ a m c, w'.cell? ⟨g, n, none⟩ = some (.slice a m c) ∧ FRow w.heap.size w'.heap.size w' (.slice a m c) (rowOf n) := by
  obtain ⟨g, v1, v2, v3, v4, v5, v6, v7, v8, rfl, hk, hb, r1, r2, r3, r4, r5, r6, r7, r8⟩ := h
  have sl : ∀ {v : Value} {ks : List Fk}, FRow w.heap.size w'.heap.size w' v ks → ∃ a m c, v = .slice a m c := by
    intro v ks h
    rcases h with ⟨h, _⟩ | ⟨r, fs, h, _⟩
    · exact ⟨_, _, _, h⟩
    · exact ⟨_, _, _, h⟩
  refine ⟨g, rfl, hk, fun n hn => ?_⟩
  have go : ∀ {v : Value}, w'.cell? ⟨g, n, none⟩ = some v → FRow w.heap.size w'.heap.size w' v (rowOf n) → ∃ a m c, w'.cell? ⟨g, n, none⟩ = some (.slice a m c) ∧ FRow w.heap.size w'.heap.size w' (.slice a m c) (rowOf n) := by
    intro v h1 h2
    obtain ⟨a, m, c, rfl⟩ := sl h2
    exact ⟨a, m, c, h1, h2⟩
  rcases n with _ | _ | _ | _ | _ | _ | _ | _ | _ | n
  · exact go (hb.cell 0) (Or.inl ⟨rfl, rfl⟩)
  · exact go (hb.cell 1) r1
  · exact go (hb.cell 2) r2
  · exact go (hb.cell 3) r3
  · exact go (hb.cell 4) r4
  · exact go (hb.cell 5) r5
  · exact go (hb.cell 6) r6
  · exact go (hb.cell 7) r7
  · exact go (hb.cell 8) r8
  · omega

set_option maxRecDepth 100000 in
set_option maxHeartbeats 400000 in
theorem fieldsOf_any (w : World) (k : Int) : Calls Try.prog 15 #[.int .i64 k] w fun e w' => ∃ a m c, e = .returned (.slice a m c) ∧ FRow w.heap.size w'.heap.size w' (.slice a m c) (rowOf k) ∧ Kept [] w w' := by
  by_cases hk : 0 ≤ k ∧ k < 9
  · obtain ⟨n, rfl⟩ := Int.eq_ofNat_of_zero_le hk.1
    have hn : n < 9 := by omega
    have h0 : ((n : Int) < 0) = False := eq_false (by omega)
    have h9 : (9 ≤ (n : Int)) = False := eq_false (by omega)
    have h9' : ((n : Int) < 9) = True := eq_true (by omega)
    have h0' : (0 ≤ (n : Int)) = True := eq_true (by omega)
    clear hk
    go_enter Try.func15, Try.ntmps15
    go_wp2_with (go_at_call 23; refine (table_any _).mono ?_; intro e w1 ht; obtain ⟨g, rfl, hk1, hat⟩ := ht.at; obtain ⟨a, m, c, hc, hr⟩ := hat n hn; clear ht hat)
    all_goals
      go_ret
      exact ⟨a, m, c, rfl, hr, hk1⟩
  · have hrow : rowOf k = [] := by
      unfold rowOf
      rw [if_neg (by omega), if_neg (by omega), if_neg (by omega), if_neg (by omega)]
    go_enter Try.func15, Try.ntmps15
    go_wp2_with (go_at_call 23; refine (table_any _).mono ?_; intro e w1 ht; obtain ⟨g, rfl, hk1, hat⟩ := ht.at; clear ht hat)
    all_goals first
      | (exfalso; omega)
      | (go_ret
         exact ⟨none, 0, 0, rfl, Or.inl ⟨rfl, by first | exact hrow | rfl⟩, hk1⟩)

theorem flat4 {α : Type} (g : α → List Value) (hg : ∀ a, (g a).length = 4) : ∀ (fs : List α) (i j : Nat), j < 4 → (fs.flatMap g)[i * 4 + j]? = (fs[i]?).bind fun a => (g a)[j]?
  | [], i, j, _ => by simp
  | f :: fs, 0, j, hj => by
    rw [List.flatMap_cons, List.getElem?_append_left (by rw [hg]; omega)]
    simp
  | f :: fs, i + 1, j, hj => by
    rw [List.flatMap_cons, List.getElem?_append_right (by rw [hg]; omega), hg, show (i + 1) * 4 + j - 4 = i * 4 + j by omega, flat4 g hg fs i j hj]
    simp
/-- The slice of a row: its length; the field at i, and its four functions. -/
theorem FRow.slice {lo hi : Nat} {W : World} {a : Option Addr} {m c : Nat} {ks : List Fk} (h : FRow lo hi W (.slice a m c) ks) : m = ks.length ∧ c = ks.length := by
  rcases h with ⟨h, rfl⟩ | ⟨r, fs, h, _⟩
  · cases h; exact ⟨rfl, rfl⟩
  · cases h; exact ⟨rfl, rfl⟩
theorem FRow.field {lo hi : Nat} {W : World} {a : Option Addr} {m c : Nat} {ks : List Fk} (h : FRow lo hi W (.slice a m c) ks) (i : Nat) (hik : i < ks.length) : ∃ r p q s, a = some ⟨r, 0, none⟩ ∧ (∀ j, j < 4 → W.cell? ⟨r, i * 4 + j, none⟩ = (fdv ks[i] p q s)[j]?) ∧ Fd W ks[i] p q s ∧ (lo ≤ r ∧ r < hi) ∧ (lo ≤ p ∧ p < hi) ∧ (lo ≤ q ∧ q < hi) ∧ (lo ≤ s ∧ s < hi) := by
  rcases h with ⟨h, rfl⟩ | ⟨r, fs, h, rfl, h3, h4, h5⟩
  · simp at hik
  · cases h
    have hi' : i < fs.length := by simpa using hik
    obtain ⟨g1, g2, g3, g4⟩ := h5 fs[i] (List.getElem_mem _)
    refine ⟨r, fs[i].p, fs[i].q, fs[i].s, rfl, fun j hj => ?_, by simpa using g1, h3, g2, g3, g4⟩
    rw [h4.cell (i * 4 + j), List.getElem?_toArray, flat4 ffc ffc_len fs i j hj, List.getElem?_eq_getElem hi']
    simp [ffc]

theorem rcc_num (p : Pl) (l : Lo) {o : Nat} (ho : o = 1 ∨ o = 2 ∨ o = 3 ∨ o = 4 ∨ o = 5) : (rcc p l)[o]? = some (.int .i64 (getN p o)) := by
  rcases ho with rfl | rfl | rfl | rfl | rfl <;> rfl
theorem rcc_set (p : Pl) (l : Lo) {o : Nat} (ho : o = 1 ∨ o = 2 ∨ o = 3 ∨ o = 4 ∨ o = 5) (n : Int) : (rcc p l).setIfInBounds o (.int .i64 n) = rcc (setN p n o) l := by
  rcases ho with rfl | rfl | rfl | rfl | rfl <;> rfl
theorem rcc_lt (p : Pl) (l : Lo) {o : Nat} (ho : o = 1 ∨ o = 2 ∨ o = 3 ∨ o = 4 ∨ o = 5) : o < (rcc p l).size := by
  rcases ho with rfl | rfl | rfl | rfl | rfl <;> simp [rcc]
/-- Asked: is the field sound? -/
theorem ask_num {W : World} {o : Nat} {lo hi : Int} {p q s b : Nat} {r : Pl} {l : Lo} (hf : Fd W (.num o lo hi) p q s) (hb : Blk W b (rcc r l) 26) : Calls Try.prog 50 #[ptr b, ptr p, ptr q, ptr s] W fun e w' => e = .returned (.bool (okF r (.num o lo hi))) ∧ Kept [] W w' := by
  obtain ⟨⟨g, ha, h1⟩, ho, h2, h3⟩ := hf
  exact num1_any ha (by rw [hb.cell, rcc_num r l ho]) (h1.cell 0) (h2.cell 0) (h3.cell 0)
theorem ask_op {W : World} {p q s b : Nat} {r : Pl} {l : Lo} (hf : Fd W .op p q s) (hb : Blk W b (rcc r l) 26) : Calls Try.prog 56 #[ptr b, ptr p] W fun e w' => e = .returned (.bool (okF r .op)) ∧ Kept [] W w' :=
  write1_any (OpAt.of hb) (Blk.cell hf 0)
theorem ask_copy {W : World} {p q s b : Nat} {r : Pl} {l : Lo} (hf : Fd W .copy p q s) (hb : Blk W b (rcc r l) 26) : Calls Try.prog 63 #[ptr b, ptr p, ptr q] W fun e w' => e = .returned (.bool (okF r .copy)) ∧ Kept [] W w' := by
  refine (text1_any acc7 (hb.cell 10) (hf.1.cell 0) (hf.2.cell 0)).mono ?_
  rintro e w' ⟨rfl, hk⟩
  refine ⟨ret_bool ?_, hk⟩
  unfold okF
  congr 1
  simp
  omega
/-- Wiped. -/
theorem wipe_num {W : World} {o : Nat} {lo hi : Int} {p q s b : Nat} {r : Pl} {l : Lo} (hf : Fd W (.num o lo hi) p q s) (hb : Blk W b (rcc r l) 26) : Calls Try.prog 55 #[ptr b, ptr p] W fun e w' => e = .returned (.tuple #[]) ∧ Blk w' b (rcc (wipeF r (.num o lo hi)) (wipeL l (.num o lo hi))) 26 ∧ Kept [b] W w' := by
  obtain ⟨⟨g, ha, h1⟩, ho, h2, h3⟩ := hf
  refine (num4_any ha hb (rcc_lt r l ho) (h1.cell 0)).mono ?_
  rintro e w' ⟨rfl, h4, hk⟩
  rw [rcc_set r l ho] at h4
  exact ⟨rfl, h4, hk⟩
theorem wipe_op {W : World} {p q s b : Nat} {r : Pl} {l : Lo} (hf : Fd W .op p q s) (hb : Blk W b (rcc r l) 26) : Calls Try.prog 62 #[ptr b, ptr p] W fun e w' => e = .returned (.tuple #[]) ∧ Blk w' b (rcc (wipeF r .op) (wipeL l .op)) 26 ∧ Kept [b] W w' :=
  write4_any hb (Blk.cell hf 0)
theorem wipe_copy {W : World} {p q s b : Nat} {r : Pl} {l : Lo} (hf : Fd W .copy p q s) (hb : Blk W b (rcc r l) 26) : Calls Try.prog 68 #[ptr b, ptr p] W fun e w' => e = .returned (.tuple #[]) ∧ Blk w' b (rcc (wipeF r .copy) (wipeL l .copy)) 26 ∧ Kept [b] W w' :=
  text4_any acc7 hb (by simp [rcc]) (hf.1.cell 0)

/-- isSound's loop: the record at b, what is left of it at b2. -/
structure SI (lo hi : Nat) (w : World) (b b2 : Nat) (p : Pl) (l : Lo) (v : Value) (ks : List Fk) (i : Nat) (rp : Pl) (rl : Lo) (W : World) : Prop where
  row : FRow lo hi W v ks
  one : Blk W b (rcc p l) 26
  two : Blk W b2 (rcc rp rl) 26
  kept : Kept [] w W
  lb : w.heap.size ≤ b2
  top : hi ≤ b2
  ne : b ≠ b2
  is_ : sndL p ks p = sndL p (ks.drop i) rp
theorem SI.step {lo hi : Nat} {w : World} {b b2 : Nat} {p : Pl} {l : Lo} {v : Value} {ks : List Fk} {i : Nat} {rp : Pl} {rl : Lo} {W W2 W3 : World} (h : SI lo hi w b b2 p l v ks i rp rl W) {rp' : Pl} {rl' : Lo} (k2 : Kept [] W W2) (hb : Blk W3 b2 (rcc rp' rl') 26) (k3 : Kept [b2] W2 W3) (e : sndL p (ks.drop i) rp = sndL p (ks.drop (i + 1)) rp') : SI lo hi w b b2 p l v ks (i + 1) rp' rl' W3 :=
  ⟨(h.row.kept k2 (by simp)).kept k3 (fun x hx => by simp at hx; subst hx; exact Or.inr h.top), (h.one.kept k2 (by simp)).kept k3 (by simpa using h.ne), hb, (h.kept.trans k2 (by simp)).trans k3 (fun x hx => by simp at hx; subst hx; exact Or.inr h.lb), h.lb, h.top, h.ne, h.is_.trans e⟩
end Go.Proofs.Ytocmgfmfalaebab

/- Sound records, in plain words: kind by kind; how long their forms are. -/
namespace Go.Proofs.Ytocmgfmfalaebab
open Go.RowKit

def noOp (p : Pl) : Prop := p.okind = 0 ∧ p.key = [] ∧ p.val = [] ∧ p.rev = 0
def isW (p : Pl) : Prop := p.kind = 1 ∧ (0 ≤ p.shard ∧ p.shard ≤ 63) ∧ (0 ≤ p.client ∧ p.client ≤ 15) ∧ (1 ≤ p.seq ∧ p.seq ≤ 1073741824) ∧ wrt p.okind p.key.length p.val.length p.rev = true ∧ p.epoch = 0 ∧ p.peer = 0 ∧ p.copy = []
def isO (p : Pl) : Prop := p.kind = 2 ∧ (0 ≤ p.shard ∧ p.shard ≤ 63) ∧ (0 ≤ p.peer ∧ p.peer ≤ 7) ∧ p.epoch = 0 ∧ p.client = 0 ∧ p.seq = 0 ∧ noOp p ∧ p.copy = []
def isI (p : Pl) : Prop := p.kind = 4 ∧ (0 ≤ p.shard ∧ p.shard ≤ 63) ∧ (1 ≤ p.epoch ∧ p.epoch ≤ 1073741824) ∧ (0 ≤ p.peer ∧ p.peer ≤ 7) ∧ p.copy.length ≤ 262144 ∧ p.client = 0 ∧ p.seq = 0 ∧ noOp p
def isS (p : Pl) : Prop := (p.kind = 3 ∨ (5 ≤ p.kind ∧ p.kind ≤ 8)) ∧ (0 ≤ p.shard ∧ p.shard ≤ 63) ∧ p.epoch = 0 ∧ p.peer = 0 ∧ p.client = 0 ∧ p.seq = 0 ∧ noOp p ∧ p.copy = []
theorem row1 : rowOf 1 = [sh, cl, sq, .op] := rfl
theorem row2 : rowOf 2 = [sh, pe] := rfl
theorem row4 : rowOf 4 = [sh, ep, pe, .copy] := rfl
theorem rowS {k : Int} (h : k = 3 ∨ (5 ≤ k ∧ k ≤ 8)) : rowOf k = [sh] := by
  unfold rowOf
  rw [if_neg (by omega), if_neg (by omega), if_neg (by omega), if_pos (by omega)]
theorem rowN {k : Int} (h : k < 1 ∨ 8 < k) : rowOf k = [] := by
  unfold rowOf
  rw [if_neg (by omega), if_neg (by omega), if_neg (by omega), if_neg (by omega)]
theorem kind_cases (k : Int) : k = 1 ∨ k = 2 ∨ k = 4 ∨ (k = 3 ∨ (5 ≤ k ∧ k ≤ 8)) ∨ (k < 1 ∨ 8 < k) := by omega
theorem snd_iff (p : Pl) : snd p = true ↔ isW p ∨ isO p ∨ isI p ∨ isS p := by
  rcases kind_cases p.kind with h | h | h | h | h
  · unfold snd
    rw [h, row1]
    simp [sndL, okF, wipeF, blank, blo, sh, cl, sq, getN, setN, isW, isO, isI, isS, h]
    grind
  · unfold snd
    rw [h, row2]
    simp [sndL, okF, wipeF, blank, blo, sh, pe, getN, setN, isW, isO, isI, isS, noOp, h]
    grind
  · unfold snd
    rw [h, row4]
    simp [sndL, okF, wipeF, blank, blo, sh, ep, pe, getN, setN, isW, isO, isI, isS, noOp, h]
    grind
  · unfold snd
    rw [rowS h]
    have n1 : p.kind ≠ 1 := by omega
    have n2 : p.kind ≠ 2 := by omega
    have n4 : p.kind ≠ 4 := by omega
    simp [sndL, okF, wipeF, blank, blo, sh, getN, setN, isW, isO, isI, isS, noOp, h, n1, n2, n4]
    try grind
  · unfold snd
    rw [rowN h]
    have n1 : p.kind ≠ 1 := by omega
    have n2 : p.kind ≠ 2 := by omega
    have n4 : p.kind ≠ 4 := by omega
    have n3 : ¬ (p.kind = 3 ∨ (5 ≤ p.kind ∧ p.kind ≤ 8)) := by omega
    simp only [isW, isO, isI, isS, n1, n2, n4, n3]
    simp
/-- A write that is right: its bounds. -/
theorem wrt_iff {k : Int} {kl vl : Nat} {rev : Int} : wrt k kl vl rev = true ↔ (1 ≤ kl ∧ kl ≤ 64) ∧ ((k = 3 ∧ vl = 0 ∧ rev = 0) ∨ (k = 2 ∧ vl ≤ 256 ∧ rev = 0) ∨ (k = 4 ∧ vl ≤ 256 ∧ 0 ≤ rev ∧ rev ≤ 1099511627776)) := by
  unfold wrt rgt
  simp only [Bool.and_eq_true, decide_eq_true_eq]
  constructor
  · rintro ⟨h1, h2⟩
    split at h2
    · simp only [decide_eq_true_eq] at h2; omega
    · split at h2
      · simp only [decide_eq_true_eq] at h2; omega
      · split at h2
        · simp only [decide_eq_true_eq] at h2; omega
        · split at h2
          · omega
          · cases h2
  · rintro ⟨h1, h2⟩
    rcases h2 with ⟨rfl, h3, h4⟩ | ⟨rfl, h3, h4⟩ | ⟨rfl, h3, h4⟩
    · simp; omega
    · simp; omega
    · simp; omega
theorem enc_W {p : Pl} (h : p.kind = 1) : enc p = [1] ++ (form p.shard.toNat ++ (form p.client.toNat ++ (form p.seq.toNat ++ formO p))) := by
  unfold enc encL
  rw [h, row1]
  simp [encF, sh, cl, sq, getN]
theorem enc_O {p : Pl} (h : p.kind = 2) : enc p = [2] ++ (form p.shard.toNat ++ form p.peer.toNat) := by
  unfold enc encL
  rw [h, row2]
  simp [encF, sh, pe, getN]
theorem enc_I {p : Pl} (h : p.kind = 4) : enc p = [4] ++ (form p.shard.toNat ++ (form p.epoch.toNat ++ (form p.peer.toNat ++ (form p.copy.length ++ p.copy)))) := by
  unfold enc encL
  rw [h, row4]
  simp [encF, sh, ep, pe, getN]
theorem enc_S {p : Pl} (h : p.kind = 3 ∨ (5 ≤ p.kind ∧ p.kind ≤ 8)) : enc p = [p.kind.toNat] ++ form p.shard.toNat := by
  unfold enc encL
  rw [rowS h]
  simp [encF, sh, getN]
theorem form1 {n : Nat} (h : n < 128) : (form n).length = 1 := by rw [form_small h]; rfl
theorem formO_len {p : Pl} (h : wrt p.okind p.key.length p.val.length p.rev = true) : p.key.length + p.val.length + 2 ≤ (formO p).length ∧ (formO p).length ≤ 330 := by
  obtain ⟨⟨h1, h2⟩, h3⟩ := wrt_iff.1 h
  have f1 := form1 (n := p.key.length) (by omega)
  have g1 := form_len 1 p.val.length (by omega)
  have g0 := form_pos p.val.length
  have r1 : 0 ≤ p.rev → p.rev ≤ 1099511627776 → (form p.rev.toNat).length ≤ 6 := fun a b => form_len 5 p.rev.toNat (by omega)
  have r0 := form_pos p.rev.toNat
  unfold formO
  rcases h3 with ⟨e, h4, h5⟩ | ⟨e, h4, h5⟩ | ⟨e, h4, h5, h6⟩
  · rw [e]; simp [f1, h4]; omega
  · rw [e]; simp [f1]; omega
  · have := r1 h5 h6
    rw [e]; simp [f1]; omega
theorem len_W {p : Pl} (h : isW p) : p.key.length + p.val.length + 6 ≤ (enc p).length ∧ (enc p).length ≤ 338 := by
  obtain ⟨h1, h2, h3, h4, h5, -⟩ := h
  have a := form1 (n := p.shard.toNat) (by omega)
  have b := form1 (n := p.client.toNat) (by omega)
  have c := form_len 4 p.seq.toNat (by omega)
  have c0 := form_pos p.seq.toNat
  have d := formO_len h5
  rw [enc_W h1]
  simp [a, b]
  omega
theorem len_I {p : Pl} (h : isI p) : p.copy.length + 5 ≤ (enc p).length ∧ (enc p).length ≤ p.copy.length + 11 := by
  obtain ⟨h1, h2, h3, h4, h5, -⟩ := h
  have a := form1 (n := p.shard.toNat) (by omega)
  have b := form1 (n := p.peer.toNat) (by omega)
  have c := form_len 4 p.epoch.toNat (by omega)
  have c0 := form_pos p.epoch.toNat
  have d := form_len 2 p.copy.length (by omega)
  have d0 := form_pos p.copy.length
  rw [enc_I h1]
  simp [a, b]
  omega
theorem len_O {p : Pl} (h : isO p) : (enc p).length = 3 := by
  obtain ⟨h1, h2, h3, -⟩ := h
  have a := form1 (n := p.shard.toNat) (by omega)
  have b := form1 (n := p.peer.toNat) (by omega)
  rw [enc_O h1]
  simp [a, b]
theorem len_S {p : Pl} (h : isS p) : (enc p).length = 2 := by
  obtain ⟨h1, h2, -⟩ := h
  have a := form1 (n := p.shard.toNat) (by omega)
  rw [enc_S h1]
  simp [a]
theorem len_all {p : Pl} (h : snd p = true) : (enc p).length ≤ 262155 := by
  rcases (snd_iff p).1 h with h | h | h | h
  · have := len_W h; omega
  · have := len_O h; omega
  · have := len_I h; obtain ⟨-, -, -, -, h5, -⟩ := h; omega
  · have := len_S h; omega
end Go.Proofs.Ytocmgfmfalaebab

/- isSound. -/
namespace Go.Proofs.Ytocmgfmfalaebab
open Go.RowKit

theorem four {W : World} {r i : Nat} {x y z u : Value} (h : ∀ j, j < 4 → W.cell? ⟨r, i * 4 + j, none⟩ = #[x, y, z, u][j]?) : W.cell? ⟨r, i * 4, none⟩ = some x ∧ W.cell? ⟨r, i * 4 + 1, none⟩ = some y ∧ W.cell? ⟨r, i * 4 + 2, none⟩ = some z ∧ W.cell? ⟨r, i * 4 + 3, none⟩ = some u := ⟨h 0 (by omega), h 1 (by omega), h 2 (by omega), h 3 (by omega)⟩

set_option maxRecDepth 100000 in
set_option maxHeartbeats 1600000 in
theorem isSound_any (w : World) (lo hi : Nat) (p : Pl) (l : Lo) (a : Option Addr) (m c : Nat) (ks : List Fk) (hr : FRow lo hi w (.slice a m c) ks) (h0 : hi ≤ w.heap.size) (hmb : m < 1000) : Calls Try.prog 16 #[rv p l, .slice a m c] w fun e w' => e = .returned (.bool (decide (ks ≠ []) && sndL p ks p)) ∧ Kept [] w w' := by
  obtain ⟨hm, hc⟩ := hr.slice
  have HM := hide hm
  have k1 := ((Kept.refl [] w).alloc (.cells (rcc p l) 26)).alloc (.cells (rcc p l) 26)
  have HS0 : Hid (SI lo hi w w.heap.size (w.heap.size + 1) p l (.slice a m c) ks 0 p l ((w.alloc (.cells (rcc p l) 26)).alloc (.cells (rcc p l) 26))) :=
    ⟨hr.kept k1 (by simp), (Blk.new _ _ _).alloc _, new1 _ _ _ _, k1, by omega, by omega, by omega, by simp⟩
  have HB := hide (fun W q r => isBlank_any W q r)
  have hsf := fun w a f x y md => run_store Try.prog w a (.func f x y) md rfl
  clear hr hm hc k1 h0
  unfold rv at *
  rw [show rcc p l = #[.int .i64 p.kind, .int .i64 p.shard, .int .i64 p.epoch, .int .i64 p.peer, .int .i64 p.client, .int .i64 p.seq, .int .i64 p.okind, .slice l.ka p.key.length l.kc, .slice l.va p.val.length l.vc, .int .i64 p.rev, .slice l.ca p.copy.length l.cc] from rfl] at *
  generalize p.key.length = kl at *
  generalize p.val.length = vl at *
  generalize p.copy.length = cl' at *
  go_enter Try.func16, Try.ntmps16
  go_wp2_with fail
  go_loopw [11] (fun x wr => ∃ (i : Nat) (rp : Pl) (rl : Lo), i ≤ m ∧ x = .int .i64 (i : Int) ∧ Hid (SI lo hi w w.heap.size (w.heap.size + 1) p l (.slice a m c) ks i rp rl wr)) (fun x _ => m - (intOf x).toNat)
  case atStart => exact ⟨0, p, l, by omega, rfl, HS0⟩
  case round =>
    obtain ⟨i, rp, rl, hi', rfl, HS⟩ := hrel
    have hw1 : IntKind.i64.wrap ((i : Int) + 1) = (i : Int) + 1 := by rw [IntKind.wrap_i64]; omega
    rcases Nat.lt_or_ge i m with hlt | hge
    · have hS := unhide HS
      clear HS HS0
      have hik : i < ks.length := by have := unhide HM; omega
      obtain ⟨r, fp, fq, fs, rfl, hc, hf, hlr, -⟩ := hS.row.field i hik
      have hsd : sndL p (ks.drop i) rp = (okF p ks[i] && sndL p (ks.drop (i + 1)) (wipeF rp ks[i])) := by rw [List.drop_eq_getElem_cons hik]; rfl
      generalize ks[i] = k at *
      have HSD := hide hsd
      clear hsd
      have hil : (i : Int) < (m : Int) := by omega
      cases k with
          | num o lo1 hi1 =>
            have HQ1 := hide (fun X (hX : Kept [] wr X) => ask_num (hf.kept hX (by simp) (by simp) (by simp)) (hS.one.kept hX (by simp)))
            have HQ4 := hide (fun X (hX : Kept [] wr X) => wipe_num (hf.kept hX (by simp) (by simp) (by simp)) (hS.two.kept hX (by simp)))
            obtain ⟨d0, d1, d2, d3⟩ := four hc
            have HS := hide hS
            clear hc hf hS
            unfold fn ptr at *
            cases hok : okF p (.num o lo1 hi1) with
            | false =>
              rw [hok] at HQ1 HSD
              have HOK := hide hok
              clear hok
              go_wp2_with (first
                | (go_at_call 50; refine (unhide HQ1 _ (by repeat (first | exact Kept.refl _ _ | refine Kept.alloc ?_ _))).mono ?_; rintro e w2 ⟨rfl, k2⟩; have k2' : Kept [] wr w2 := Kept.step ((Kept.refl [] wr).alloc _) k2; clear k2))
              go_ret
              refine ⟨ret_bool ?_, (unhide HS).kept.step k2'⟩
              rw [(unhide HS).is_, unhide HSD]
              simp
            | true =>
              rw [hok] at HQ1 HSD
              have HOK := hide hok
              clear hok
              go_wp2_with (first
                | (go_at_call 50; refine (unhide HQ1 _ (by repeat (first | exact Kept.refl _ _ | refine Kept.alloc ?_ _))).mono ?_; rintro e w2 ⟨rfl, k2⟩; have k2' : Kept [] wr w2 := Kept.step ((Kept.refl [] wr).alloc _) k2; have bx := (Blk.new wr _ _).kept k2 (by simp); obtain ⟨f0, f1, f2, f3⟩ := box4 bx; clear k2 bx)
                | (go_at_call 55; refine (unhide HQ4 _ k2').mono ?_; rintro e w3 ⟨rfl, hb3, k3⟩; have HS3 := hide ((unhide HS).step k2' hb3 k3 (by rw [unhide HSD]; simp)); clear hb3 k3))
              exact ⟨⟨i + 1, _, _, by omega, by simp, HS3⟩, by simp [intOf]; omega⟩
          | op =>
            have HQ1 := hide (fun X (hX : Kept [] wr X) => ask_op (hf.kept hX (by simp) (by simp) (by simp)) (hS.one.kept hX (by simp)))
            have HQ4 := hide (fun X (hX : Kept [] wr X) => wipe_op (hf.kept hX (by simp) (by simp) (by simp)) (hS.two.kept hX (by simp)))
            obtain ⟨d0, d1, d2, d3⟩ := four hc
            have HS := hide hS
            clear hc hf hS
            unfold fn ptr at *
            cases hok : okF p (.op) with
            | false =>
              rw [hok] at HQ1 HSD
              have HOK := hide hok
              clear hok
              go_wp2_with (first
                | (go_at_call 56; refine (unhide HQ1 _ (by repeat (first | exact Kept.refl _ _ | refine Kept.alloc ?_ _))).mono ?_; rintro e w2 ⟨rfl, k2⟩; have k2' : Kept [] wr w2 := Kept.step ((Kept.refl [] wr).alloc _) k2; clear k2))
              go_ret
              refine ⟨ret_bool ?_, (unhide HS).kept.step k2'⟩
              rw [(unhide HS).is_, unhide HSD]
              simp
            | true =>
              rw [hok] at HQ1 HSD
              have HOK := hide hok
              clear hok
              go_wp2_with (first
                | (go_at_call 56; refine (unhide HQ1 _ (by repeat (first | exact Kept.refl _ _ | refine Kept.alloc ?_ _))).mono ?_; rintro e w2 ⟨rfl, k2⟩; have k2' : Kept [] wr w2 := Kept.step ((Kept.refl [] wr).alloc _) k2; have bx := (Blk.new wr _ _).kept k2 (by simp); obtain ⟨f0, f1, f2, f3⟩ := box4 bx; clear k2 bx)
                | (go_at_call 62; refine (unhide HQ4 _ k2').mono ?_; rintro e w3 ⟨rfl, hb3, k3⟩; have HS3 := hide ((unhide HS).step k2' hb3 k3 (by rw [unhide HSD]; simp)); clear hb3 k3))
              exact ⟨⟨i + 1, _, _, by omega, by simp, HS3⟩, by simp [intOf]; omega⟩
          | copy =>
            have HQ1 := hide (fun X (hX : Kept [] wr X) => ask_copy (hf.kept hX (by simp) (by simp) (by simp)) (hS.one.kept hX (by simp)))
            have HQ4 := hide (fun X (hX : Kept [] wr X) => wipe_copy (hf.kept hX (by simp) (by simp) (by simp)) (hS.two.kept hX (by simp)))
            obtain ⟨d0, d1, d2, d3⟩ := four hc
            have HS := hide hS
            clear hc hf hS
            unfold fn ptr at *
            cases hok : okF p (.copy) with
            | false =>
              rw [hok] at HQ1 HSD
              have HOK := hide hok
              clear hok
              go_wp2_with (first
                | (go_at_call 63; refine (unhide HQ1 _ (by repeat (first | exact Kept.refl _ _ | refine Kept.alloc ?_ _))).mono ?_; rintro e w2 ⟨rfl, k2⟩; have k2' : Kept [] wr w2 := Kept.step ((Kept.refl [] wr).alloc _) k2; clear k2))
              go_ret
              refine ⟨ret_bool ?_, (unhide HS).kept.step k2'⟩
              rw [(unhide HS).is_, unhide HSD]
              simp
            | true =>
              rw [hok] at HQ1 HSD
              have HOK := hide hok
              clear hok
              go_wp2_with (first
                | (go_at_call 63; refine (unhide HQ1 _ (by repeat (first | exact Kept.refl _ _ | refine Kept.alloc ?_ _))).mono ?_; rintro e w2 ⟨rfl, k2⟩; have k2' : Kept [] wr w2 := Kept.step ((Kept.refl [] wr).alloc _) k2; have bx := (Blk.new wr _ _).kept k2 (by simp); obtain ⟨f0, f1, f2, f3⟩ := box4 bx; clear k2 bx)
                | (go_at_call 68; refine (unhide HQ4 _ k2').mono ?_; rintro e w3 ⟨rfl, hb3, k3⟩; have HS3 := hide ((unhide HS).step k2' hb3 k3 (by rw [unhide HSD]; simp)); clear hb3 k3))
              exact ⟨⟨i + 1, _, _, by omega, by simp, HS3⟩, by simp [intOf]; omega⟩
    · obtain rfl : i = m := by omega
      have hS := unhide HS
      have HQ := hide (unhide HB wr rp rl)
      obtain ⟨d0, d1, d2, d3, d4, d5, d6, d7, d8, d9, d10⟩ := box11 hS.two
      have his := hS.is_
      rw [unhide HM, List.drop_length] at his
      have HIS := hide his
      have HK := hide hS.kept
      clear hS his HS HS0 HB
      unfold rcc at HQ
      by_cases h0 : i = 0
      · subst h0
        have hks : ks = [] := List.eq_nil_of_length_eq_zero (unhide HM).symm
        have HKS := hide hks
        clear hks
        go_wp2_with fail
        go_ret
        refine ⟨ret_bool ?_, unhide HK⟩
        rw [unhide HKS]
        simp
      · have hks : ks ≠ [] := fun e => h0 (by rw [unhide HM, e]; rfl)
        have HKS := hide hks
        have hpos : 0 < i := by omega
        have hpos' : (0 : Int) < (i : Int) := by omega
        clear hks h0
        go_wp2_with (go_at_call 24; refine (unhide HQ).mono ?_; rintro e w2 ⟨rfl, k2⟩)
        all_goals
          go_ret
          refine ⟨ret_bool ?_, (unhide HK).step k2⟩
          rw [unhide HIS]
          simp [unhide HKS, sndL]
end Go.Proofs.Ytocmgfmfalaebab

/- lay: a sound record's form is laid. -/
namespace Go.Proofs.Ytocmgfmfalaebab
open Go.RowKit

theorem sndL_ok {p : Pl} : ∀ (ks : List Fk) (r : Pl), sndL p ks r = true → ∀ k ∈ ks, okF p k = true
  | [], _, _, k, hk => by cases hk
  | k0 :: ks, r, h, k, hk => by
    simp only [sndL, Bool.and_eq_true] at h
    rcases List.mem_cons.1 hk with rfl | hk
    · exact h.1
    · exact sndL_ok ks _ h.2 k hk
theorem snd_ok {p : Pl} (h : snd p = true) : ∀ k ∈ rowOf p.kind, okF p k = true := by
  unfold snd at h
  simp only [Bool.and_eq_true] at h
  exact sndL_ok _ _ h.2
theorem row_num {k : Int} {o : Nat} {lo hi : Int} (h : Fk.num o lo hi ∈ rowOf k) : 0 ≤ lo ∧ hi ≤ 1073741824 := by
  rcases kind_cases k with h1 | h1 | h1 | h1 | h1
  · rw [h1, row1] at h; simp [sh, cl, sq] at h; omega
  · rw [h1, row2] at h; simp [sh, pe] at h; omega
  · rw [h1, row4] at h; simp [sh, ep, pe] at h; omega
  · rw [rowS h1] at h; simp [sh] at h; omega
  · rw [rowN h1] at h; simp at h
theorem row_len (k : Int) : (rowOf k).length ≤ 4 := by
  rcases kind_cases k with h1 | h1 | h1 | h1 | h1
  · rw [h1, row1]; simp
  · rw [h1, row2]; simp
  · rw [h1, row4]; simp
  · rw [rowS h1]; simp
  · rw [rowN h1]; simp

/-- A writer with these bytes, nothing open, no fault. -/
def wOf (bs : List Nat) : WS := ⟨262155, bs, [], 0⟩
theorem wLay_fit {bs ps : List Nat} (h : (bs ++ ps).length ≤ 262155) : wLay (wOf bs) ps = wOf (bs ++ ps) := by
  unfold wLay wOf
  simp at h ⊢
  omega
theorem layP_fit {bs : List Nat} {p : Pl} (h : (bs ++ formO p).length ≤ 262155) : layP (wOf bs) p = wOf (bs ++ formO p) := by
  unfold formO at h ⊢
  unfold layP
  dsimp only
  simp only [List.length_append, List.length_singleton] at h
  rw [wLay_fit (by simp; omega), wLay_fit (by simp; omega)]
  by_cases h2 : p.okind = 2 ∨ p.okind = 4
  · rw [if_pos h2] at h ⊢
    rw [if_pos h2]
    simp only [List.length_append] at h
    rw [wLay_fit (by simp; omega)]
    by_cases h4 : p.okind = 4
    · rw [if_pos h4] at h ⊢
      rw [if_pos h4, wLay_fit (by simp; omega)]
      simp
    · rw [if_neg h4, if_neg h4]
      simp
  · rw [if_neg h2, if_neg h2, if_neg (by omega), if_neg (by omega)]
    simp

structure RecFar (w : World) (p : Pl) (l : Lo) (F : List Nat) : Prop where
  op : OpFar w p l F
  copy : Far w (.slice l.ca p.copy.length l.cc) p.copy F
theorem RecFar.go {w w' : World} {F F' : List Nat} {p : Pl} {l : Lo} (h : RecFar w p l F) (k : Kept F w w') (hF : ∀ x ∈ F', x ∈ F ∨ w.heap.size ≤ x) : RecFar w' p l F' := ⟨h.op.go k hF, h.copy.go k hF⟩

theorem put_num {W : World} {o : Nat} {lo hi : Int} {p q s b bw : Nat} {F : List Nat} {bs : List Nat} {r : Pl} {l : Lo} (hf : Fd W (.num o lo hi) p q s) (hb : Blk W b (rcc r l) 26) (hw : Ws W bw F (wOf bs)) (hlo : 0 ≤ lo ∧ hi ≤ 1073741824) (hok : okF r (.num o lo hi) = true) (hfit : (bs ++ encF r (.num o lo hi)).length ≤ 262155) :
    Calls Try.prog 51 #[ptr b, ptr bw, ptr p] W fun e w' => e = .returned (.tuple #[]) ∧ WsP W bw F (wOf (bs ++ encF r (.num o lo hi))) w' := by
  obtain ⟨⟨g, ha, h1⟩, ho, h2, h3⟩ := hf
  have hn : lo ≤ getN r o ∧ getN r o ≤ hi := by simpa [okF] using hok
  obtain ⟨n, hn1⟩ := Int.eq_ofNat_of_zero_le (show 0 ≤ getN r o by omega)
  have e1 : encF r (.num o lo hi) = form n := by show form (getN r o).toNat = form n; rw [hn1]; rfl
  rw [e1] at hfit ⊢
  rw [← wLay_fit hfit]
  refine num2_any ha ?_ (n := n) (by omega) (h1.cell 0) hw ?_
  · rw [hb.cell, rcc_num r l ho, hn1]
  · simp at hfit; simp [wOf]; omega
theorem put_op {W : World} {p q s b bw : Nat} {F : List Nat} {bs : List Nat} {r : Pl} {l : Lo} (hf : Fd W .op p q s) (hb : Blk W b (rcc r l) 26) (hw : Ws W bw F (wOf bs)) (hfar : RecFar W r l F) (hok : okF r .op = true) (hfit : (bs ++ encF r .op).length ≤ 262155) :
    Calls Try.prog 58 #[ptr b, ptr bw, ptr p] W fun e w' => e = .returned (.tuple #[]) ∧ WsP W bw F (wOf (bs ++ encF r .op)) w' := by
  have hw1 := wrt_iff.1 (show wrt r.okind r.key.length r.val.length r.rev = true from hok)
  have e1 : encF r .op = formO r := rfl
  rw [e1] at hfit ⊢
  rw [← layP_fit hfit]
  exact write2_any (OpAt.of hb) (Blk.cell hf 0) hw hfar.op (by omega) (by omega) (by omega) (by omega) (by omega) (by omega) (by simp at hfit; simp [wOf]; omega)
theorem put_copy {W : World} {p q s b bw : Nat} {F : List Nat} {bs : List Nat} {r : Pl} {l : Lo} (hf : Fd W .copy p q s) (hb : Blk W b (rcc r l) 26) (hw : Ws W bw F (wOf bs)) (hfar : RecFar W r l F) (hfit : (bs ++ encF r .copy).length ≤ 262155) :
    Calls Try.prog 64 #[ptr b, ptr bw, ptr p] W fun e w' => e = .returned (.tuple #[]) ∧ WsP W bw F (wOf (bs ++ encF r .copy)) w' := by
  have e1 : encF r .copy = form r.copy.length ++ r.copy := rfl
  rw [e1] at hfit ⊢
  rw [← wLay_fit hfit]
  exact text2_any acc7 (hb.cell 10) hfar.copy (hf.1.cell 0) hw (by simp at hfit; simp [wOf]; omega)

/-- lay's loop. -/
structure LI (lo hi : Nat) (w : World) (b bw : Nat) (p : Pl) (l : Lo) (v : Value) (ks : List Fk) (F : List Nat) (i : Nat) (W : World) : Prop where
  row : FRow lo hi W v ks
  one : Blk W b (rcc p l) 26
  ws : Ws W bw F (wOf ([p.kind.toNat] ++ encL p (ks.take i)))
  far : RecFar W p l F
  kept : Kept [] w W
  fw : ∀ x ∈ F, w.heap.size ≤ x
  top : ∀ x ∈ F, hi ≤ x
  out : b ∉ F
  hw : hi ≤ w.heap.size
theorem LI.step {lo hi : Nat} {w : World} {b bw : Nat} {p : Pl} {l : Lo} {v : Value} {ks : List Fk} {F : List Nat} {i : Nat} {W W2 W3 : World} (h : LI lo hi w b bw p l v ks F i W) (hik : i < ks.length) (k2 : Kept [] W W2) (hp : WsP W2 bw F (wOf (([p.kind.toNat] ++ encL p (ks.take i)) ++ encF p ks[i])) W3) : ∃ F', LI lo hi w b bw p l v ks F' (i + 1) W3 := by
  obtain ⟨F', h1, h2, h3⟩ := hp
  have hs := k2.size
  have hs2 := h.kept.size
  have e : ([p.kind.toNat] ++ encL p (ks.take i)) ++ encF p ks[i] = [p.kind.toNat] ++ encL p (ks.take (i + 1)) := by
    rw [List.take_succ_eq_append_getElem hik, encL, encL, List.flatMap_append]
    simp
  rw [e] at h1
  refine ⟨F', (h.row.kept k2 (by simp)).kept h2 (fun x hx => Or.inr (h.top x hx)), (h.one.kept k2 (by simp)).kept h2 h.out, h1, (h.far.go (k2.mono (by simp)) (fun x hx => Or.inl hx)).go h2 h3, (h.kept.trans k2 (by simp)).trans h2 (fun x hx => Or.inr (h.fw x hx)), fun x hx => ?_, fun x hx => ?_, fun hm => ?_, h.hw⟩
  · rcases h3 x hx with h4 | h4
    · exact h.fw x h4
    · omega
  · rcases h3 x hx with h4 | h4
    · exact h.top x h4
    · have := h.hw; omega
  · rcases h3 _ hm with h4 | h4
    · exact h.out h4
    · have := h.one.lt; omega
theorem take_fit {p : Pl} (h : snd p = true) (i : Nat) (hik : i < (rowOf p.kind).length) : (([p.kind.toNat] ++ encL p ((rowOf p.kind).take i)) ++ encF p (rowOf p.kind)[i]).length ≤ 262155 := by
  have h1 := len_all h
  have e : enc p = (([p.kind.toNat] ++ encL p ((rowOf p.kind).take i)) ++ encF p (rowOf p.kind)[i]) ++ encL p ((rowOf p.kind).drop (i + 1)) := by
    unfold enc
    rw [List.append_assoc, List.append_assoc]
    congr 1
    unfold encL
    have := List.flatMap_cons (f := encF p) (x := (rowOf p.kind)[i]) (xs := (rowOf p.kind).drop (i + 1))
    rw [← this, ← List.flatMap_append, ← List.drop_eq_getElem_cons hik, List.take_append_drop]
  rw [e, List.length_append] at h1
  omega

theorem LI.begin {lo hi : Nat} {w w1 w2 w3 : World} {bw : Nat} {p : Pl} {l : Lo} {v : Value} {kn : Nat} (hkn : p.kind = (kn : Int)) (h1 : Blk w2 w.heap.size (rcc p l) 26) (k1 : Kept [] w w1) (k2 : Kept [] w1 w2) (hr : FRow lo hi w1 v (rowOf p.kind)) (hf : RecFar w1 p l []) (hbw : w1.heap.size ≤ bw) (hs1 : w1.heap.size = w.heap.size + 1) (h0 : hi ≤ w.heap.size) (hp : WsP w2 bw [bw] (wLay (newWS 262155) [kn]) w3) : ∃ F, LI lo hi w w.heap.size bw p l v (rowOf p.kind) F 0 w3 := by
  obtain ⟨F, g1, g2, g3⟩ := hp
  have hs2 := k2.size
  have e : wLay (newWS 262155) [kn] = wOf ([p.kind.toNat] ++ encL p ((rowOf p.kind).take 0)) := by
    rw [hkn]
    rfl
  rw [e] at g1
  have hn : ∀ k, k < w1.heap.size → k ∉ [bw] := fun k hk hm => by simp at hm; omega
  have far1 : RecFar w1 p l [bw] := by
    refine ⟨⟨?_, ?_⟩, ?_⟩
    · rcases hf.op.key with ⟨a, _⟩ | a
      · exact Or.inl ⟨a, fun k hk => hn k (a.lt hk)⟩
      · exact Or.inr a
    · rcases hf.op.val with ⟨a, _⟩ | a
      · exact Or.inl ⟨a, fun k hk => hn k (a.lt hk)⟩
      · exact Or.inr a
    · rcases hf.copy with ⟨a, _⟩ | a
      · exact Or.inl ⟨a, fun k hk => hn k (a.lt hk)⟩
      · exact Or.inr a
  refine ⟨F, (hr.kept k2 (by simp)).kept g2 (fun x hx => by simp at hx; subst hx; right; omega), h1.kept g2 (by simp; omega), g1, (far1.go (k2.mono (by simp)) (fun x hx => Or.inl hx)).go g2 g3, (k1.step k2).trans g2 (fun x hx => by simp at hx; subst hx; right; omega), fun x hx => ?_, fun x hx => ?_, fun hm => ?_, h0⟩
  · rcases g3 x hx with h4 | h4
    · simp at h4; subst h4; omega
    · omega
  · rcases g3 x hx with h4 | h4
    · simp at h4; subst h4; omega
    · omega
  · rcases g3 _ hm with h4 | h4
    · simp at h4; omega
    · omega

set_option maxRecDepth 100000 in
set_option maxHeartbeats 1600000 in
theorem lay_all (w : World) (lo hi : Nat) (p : Pl) (l : Lo) (a : Option Addr) (m c : Nat) (hsn : snd p = true) (hr : FRow lo hi w (.slice a m c) (rowOf p.kind)) (h0 : hi ≤ w.heap.size) (hfar : RecFar w p l []) : Calls Try.prog 17 #[rv p l, .slice a m c] w fun e w' => ∃ bw F, e = .returned (.pointer (some ⟨bw, 0, none⟩)) ∧ Ws w' bw F (wOf (enc p)) ∧ (∀ x ∈ F, w.heap.size ≤ x) ∧ Kept [] w w' := by
  obtain ⟨hm, hc⟩ := hr.slice
  have hml := row_len p.kind
  have hmb : m < 1000 := by omega
  have HM := hide hm
  have hkn : p.kind = 1 ∨ p.kind = 2 ∨ p.kind = 4 ∨ (p.kind = 3 ∨ (5 ≤ p.kind ∧ p.kind ≤ 8)) := by
    rcases (snd_iff p).1 hsn with h | h | h | h <;> have := h.1 <;> omega
  obtain ⟨kn, hkn2⟩ := Int.eq_ofNat_of_zero_le (show 0 ≤ p.kind by omega)
  have hkn3 : kn < 256 := by omega
  have HKN : Hid (p.kind = (kn : Int)) := hkn2
  have HSN := hide hsn
  have hsf := fun w a f x y md => run_store Try.prog w a (.func f x y) md rfl
  have HB1 := hide (Blk.new w (rcc p l) 26)
  have k1 := (Kept.refl [] w).alloc (.cells (rcc p l) 26)
  have HF1 := hide (hfar.go k1 (F' := []) (by simp))
  have HR1 := hide (hr.kept k1 (by simp))
  have HK1 := hide k1
  have HH0 := hide h0
  have HN := hide (fun W => new_s 262155 W (by omega))
  clear hsn hr hfar hm hc hml hkn k1
  have HB1' : Hid (∀ W2, Kept [] (w.alloc (.cells (rcc p l) 26)) W2 → Blk W2 w.heap.size (rcc p l) 26) := fun W2 k => (Blk.new _ _ _).kept k (by simp)
  have hrcc : rcc p l = #[.int .i64 (kn : Int), .int .i64 p.shard, .int .i64 p.epoch, .int .i64 p.peer, .int .i64 p.client, .int .i64 p.seq, .int .i64 p.okind, .slice l.ka p.key.length l.kc, .slice l.va p.val.length l.vc, .int .i64 p.rev, .slice l.ca p.copy.length l.cc] := by rw [← hkn2]; rfl
  unfold rv at *
  have HRC := hide hrcc
  rw [hrcc] at HB1 HF1 HR1 HK1 ⊢
  clear hrcc
  obtain ⟨d0, d1, d2, d3, d4, d5, d6, d7, d8, d9, d10⟩ := box11 (unhide HB1)
  generalize p.key.length = kl at *
  generalize p.val.length = vl at *
  generalize p.copy.length = cl' at *
  clear hkn2
  go_enter Try.func17, Try.ntmps17
  go_wp2_with (first
    | (go_at_call 25; refine (unhide HN _).mono ?_; rintro e w2 ⟨bw, rfl, hw2, hb2, k2⟩; have bx := (unhide HB1).kept k2 (by simp); obtain ⟨d0, d1, d2, d3, d4, d5, d6, d7, d8, d9, d10⟩ := box11 bx; have HB2' := hide (unhide HB1' w2 (by rw [unhide HRC]; exact k2)); have HW2 := hide hw2; have HK2 := hide k2; have HBW := hide hb2; clear bx hw2 k2 hb2)
    | (go_at_call 26; refine (wbyte_s (unhide HW2) kn hkn3 (by simp [newWS])).mono ?_; rintro e w3 ⟨rfl, hp3⟩; obtain ⟨F3, hl3⟩ := LI.begin (unhide HKN) (unhide HB2') (unhide HK1) (unhide HK2) (unhide HR1) (unhide HF1) (unhide HBW) (by simp) (unhide HH0) hp3; have HL3 := hide hl3; clear hp3 hl3))
  go_loopw [15] (fun x wr => ∃ (i : Nat) (F : List Nat), i ≤ m ∧ x = .int .i64 (i : Int) ∧ Hid (LI lo hi w w.heap.size bw p l (.slice a m c) (rowOf p.kind) F i wr)) (fun x _ => m - (intOf x).toNat)
  case atStart => exact ⟨0, F3, by omega, rfl, HL3⟩
  case round =>
    obtain ⟨i, F, hi', rfl, HS⟩ := hrel
    have hw1 : IntKind.i64.wrap ((i : Int) + 1) = (i : Int) + 1 := by rw [IntKind.wrap_i64]; omega
    rcases Nat.lt_or_ge i m with hlt | hge
    · have hS := unhide HS
      clear HS HL3
      have hik : i < (rowOf p.kind).length := by have := unhide HM; omega
      have HIK := hide hik
      obtain ⟨r, fp, fq, fs, rfl, hc, hf, hlr, -⟩ := hS.row.field i hik
      have hok := snd_ok (unhide HSN) _ (List.getElem_mem hik)
      have hnum : ∀ o lo1 hi1, (rowOf p.kind)[i] = Fk.num o lo1 hi1 → 0 ≤ lo1 ∧ hi1 ≤ 1073741824 := fun o lo1 hi1 e => row_num (k := p.kind) (o := o) (by rw [← e]; exact List.getElem_mem hik)
      have hfit := take_fit (unhide HSN) i hik
      have hki : (rowOf p.kind)[i] = (rowOf p.kind)[i] := rfl
      generalize hk0 : (rowOf p.kind)[i] = k at *
      have HKI : Hid (k = (rowOf p.kind)[i]'(unhide HIK)) := hk0.symm
      clear hki hk0
      have hil : (i : Int) < (m : Int) := by omega
      cases k with
          | num o lo1 hi1 =>
            have HQ := hide (fun X (hX : Kept [] wr X) => put_num (hf.kept hX (by simp) (by simp) (by simp)) (hS.one.kept hX (by simp)) (hS.ws.kept hX (by simp)) (hnum o lo1 hi1 rfl) hok hfit)
            obtain ⟨d0, d1, d2, d3⟩ := four hc
            have HS := hide hS
            clear hc hf hS hok hfit
            unfold fn ptr at *
            go_wp2_with (go_at_call 51; refine (unhide HQ _ (by repeat (first | exact Kept.refl _ _ | refine Kept.alloc ?_ _))).mono ?_; rintro e w5 ⟨rfl, hp5⟩; rw [unhide HKI] at hp5; obtain ⟨F5, hl5⟩ := (unhide HS).step (unhide HIK) ((Kept.refl [] wr).alloc _) hp5; have HS5 := hide hl5; clear hp5 hl5)
            exact ⟨⟨i + 1, F5, by omega, by simp, HS5⟩, by simp [intOf]; omega⟩
          | op =>
            have HQ := hide (fun X (hX : Kept [] wr X) => put_op (hf.kept hX (by simp) (by simp) (by simp)) (hS.one.kept hX (by simp)) (hS.ws.kept hX (by simp)) (hS.far.go (hX.mono (by simp)) (fun x hx => Or.inl hx)) hok hfit)
            obtain ⟨d0, d1, d2, d3⟩ := four hc
            have HS := hide hS
            clear hc hf hS hok hfit
            unfold fn ptr at *
            go_wp2_with (go_at_call 58; refine (unhide HQ _ (by repeat (first | exact Kept.refl _ _ | refine Kept.alloc ?_ _))).mono ?_; rintro e w5 ⟨rfl, hp5⟩; rw [unhide HKI] at hp5; obtain ⟨F5, hl5⟩ := (unhide HS).step (unhide HIK) ((Kept.refl [] wr).alloc _) hp5; have HS5 := hide hl5; clear hp5 hl5)
            exact ⟨⟨i + 1, F5, by omega, by simp, HS5⟩, by simp [intOf]; omega⟩
          | copy =>
            have HQ := hide (fun X (hX : Kept [] wr X) => put_copy (hf.kept hX (by simp) (by simp) (by simp)) (hS.one.kept hX (by simp)) (hS.ws.kept hX (by simp)) (hS.far.go (hX.mono (by simp)) (fun x hx => Or.inl hx)) hfit)
            obtain ⟨d0, d1, d2, d3⟩ := four hc
            have HS := hide hS
            clear hc hf hS hok hfit
            unfold fn ptr at *
            go_wp2_with (go_at_call 64; refine (unhide HQ _ (by repeat (first | exact Kept.refl _ _ | refine Kept.alloc ?_ _))).mono ?_; rintro e w5 ⟨rfl, hp5⟩; rw [unhide HKI] at hp5; obtain ⟨F5, hl5⟩ := (unhide HS).step (unhide HIK) ((Kept.refl [] wr).alloc _) hp5; have HS5 := hide hl5; clear hp5 hl5)
            exact ⟨⟨i + 1, F5, by omega, by simp, HS5⟩, by simp [intOf]; omega⟩
    · obtain rfl : i = m := by omega
      have HE : Hid (∃ bw' F', Value.pointer (some ⟨bw, 0, none⟩) = .pointer (some ⟨bw', 0, none⟩) ∧ Ws wr bw' F' (wOf (enc p)) ∧ (∀ x ∈ F', w.heap.size ≤ x) ∧ Kept [] w wr) := by
        have h1 := (unhide HS).ws
        rw [unhide HM, List.take_length] at h1
        exact ⟨bw, F, rfl, h1, (unhide HS).fw, (unhide HS).kept⟩
      clear HS HL3
      go_wp2_with fail
      go_ret
      obtain ⟨b', F', e1, e2, e3, e4⟩ := unhide HE
      cases e1
      exact ⟨_, _, rfl, e2, e3, e4⟩
end Go.Proofs.Ytocmgfmfalaebab

/- Sound, Encode, Size. -/
namespace Go.Proofs.Ytocmgfmfalaebab
open Go.RowKit

theorem snd_def (p : Pl) : (decide (rowOf p.kind ≠ []) && sndL p (rowOf p.kind) p) = snd p := by unfold snd; rfl
theorem rv_lit (p : Pl) (l : Lo) : rv p l = .agg #[.int .i64 p.kind, .int .i64 p.shard, .int .i64 p.epoch, .int .i64 p.peer, .int .i64 p.client, .int .i64 p.seq, .int .i64 p.okind, .slice l.ka p.key.length l.kc, .slice l.va p.val.length l.vc, .int .i64 p.rev, .slice l.ca p.copy.length l.cc] := rfl

theorem wdone_w {w : World} {b : Nat} {F bs : List Nat} (h : Ws w b F (wOf bs)) :
    Calls Try.prog 18 #[.pointer (some ⟨b, 0, none⟩)] w fun e w' => ∃ a cap, e = .returned (.tuple #[.slice a bs.length cap, .int .i64 0]) ∧ w'.ownsRow w.heap.size 5 1 (.slice a bs.length cap) bs.length (u8s bs) ∧ Kept [] w w' := wdone_okS h rfl rfl
theorem wlen_w {w : World} {b : Nat} {F bs : List Nat} (h : Ws w b F (wOf bs)) :
    Calls Try.prog 22 #[.pointer (some ⟨b, 0, none⟩)] w fun e w' => e = .returned (.int .i64 (bs.length : Nat)) ∧ w = w' := by
  obtain ⟨v, sv, h1, -⟩ := h
  exact wlen_ok h1 rfl

end Go.Proofs.Ytocmgfmfalaebab

/- Encode, Size. -/
namespace Go.Proofs.Ytocmgfmfalaebab
open Go.RowKit

theorem RecFar.quiet {w w' : World} {p : Pl} {l : Lo} (h : RecFar w p l []) (k : Kept [] w w') : RecFar w' p l [] := h.go k (by simp)
/-- What Encode answers. -/
def EncP (w : World) (p : Pl) (e : Ending) (w' : World) : Prop := Kept [] w w' ∧ ((snd p = true ∧ ∃ a cap, e = .returned (.tuple #[.slice a (enc p).length cap, .int .i64 0]) ∧ w'.ownsRow w.heap.size 5 1 (.slice a (enc p).length cap) (enc p).length (u8s (enc p))) ∨ (snd p = false ∧ e = .returned (.tuple #[.slice none 0 0, .int .i64 160])))
def SizP (w : World) (p : Pl) (e : Ending) (w' : World) : Prop := Kept [] w w' ∧ ((snd p = true ∧ e = .returned (.tuple #[.int .i64 ((enc p).length : Nat), .int .i64 0])) ∨ (snd p = false ∧ e = .returned (.tuple #[.int .i64 0, .int .i64 160])))
set_option maxRecDepth 100000 in
set_option maxHeartbeats 800000 in
theorem encode_any (w : World) (p : Pl) (l : Lo) (hf : RecFar w p l []) : Calls Try.prog 6 #[rv p l] w (EncP w p) := by
  have HF := hide (fun W => fieldsOf_any W p.kind)
  have HI := hide (fun W lo hi a m c hr h0 hm => isSound_any W lo hi p l a m c (rowOf p.kind) hr h0 hm)
  simp only [snd_def] at HI
  have HL := hide (fun W lo hi a m c hs hr h0 hf => lay_all W lo hi p l a m c hs hr h0 hf)
  have HFAR := hide hf
  clear hf
  rw [rv_lit] at *
  have HB0 := hide (Blk.new w #[.int .i64 p.kind, .int .i64 p.shard, .int .i64 p.epoch, .int .i64 p.peer, .int .i64 p.client, .int .i64 p.seq, .int .i64 p.okind, .slice l.ka p.key.length l.kc, .slice l.va p.val.length l.vc, .int .i64 p.rev, .slice l.ca p.copy.length l.cc] 26)
  obtain ⟨d0, d1, d2, d3, d4, d5, d6, d7, d8, d9, d10⟩ := box11 (unhide HB0)
  have HK0 := hide ((Kept.refl [] w).alloc (.cells #[.int .i64 p.kind, .int .i64 p.shard, .int .i64 p.epoch, .int .i64 p.peer, .int .i64 p.client, .int .i64 p.seq, .int .i64 p.okind, .slice l.ka p.key.length l.kc, .slice l.va p.val.length l.vc, .int .i64 p.rev, .slice l.ca p.copy.length l.cc] 26))
  cases hs : snd p with
  | true =>
    have HSN := hide hs
    rw [hs] at HI
    clear hs
    go_enter Try.func6, Try.ntmps6
    go_wp2_with (first
      | (go_at_call 15; refine (unhide HF _).mono ?_; rintro e w1 ⟨a, m, c, rfl, hr, k1⟩; have bx := (unhide HB0).kept k1 (by simp); obtain ⟨d0, d1, d2, d3, d4, d5, d6, d7, d8, d9, d10⟩ := box11 bx; have hm5 : m < 1000 := (by have h1 := hr.slice; have h2 := row_len p.kind; omega); have HR := hide hr; have HB := hide bx; have HK1 := hide ((unhide HK0).step k1); clear bx hr k1)
      | (go_at_call 16; refine (unhide HI _ _ _ _ _ _ (unhide HR) (Nat.le_refl _) hm5).mono ?_; rintro e w2 ⟨rfl, k2⟩; have bx := (unhide HB).kept k2 (by simp); obtain ⟨d0, d1, d2, d3, d4, d5, d6, d7, d8, d9, d10⟩ := box11 bx; have HK2 := hide ((unhide HK1).step k2); have HR2 := hide ((unhide HR).kept k2 (by simp)); have hs2 := k2.size; clear bx k2)
      | (go_at_call 17; refine (unhide HL _ _ _ _ _ _ (unhide HSN) (unhide HR2) hs2 ((unhide HFAR).quiet (unhide HK2))).mono ?_; rintro e w3 ⟨bw, F, rfl, hw3, hf3, k3⟩; have HK3 := hide ((unhide HK2).step k3); have HW := hide hw3; clear hw3 k3 hf3)
      | (go_at_call 18; refine (wdone_w (unhide HW)).mono ?_; rintro e w4 ⟨a2, cap, rfl, ho, k4⟩; have HO := hide ho; have HK4 := hide ((unhide HK3).step k4); clear ho k4))
    go_ret2
    exact ⟨unhide HK4, Or.inl ⟨unhide HSN, a2, cap, rfl, own_base (unhide HO) (fun x hx => by have h1 := ((unhide HO).lt x hx).1; have h2 := (unhide HK3).size; omega)⟩⟩
  | false =>
    have HSN := hide hs
    rw [hs] at HI
    clear hs
    go_enter Try.func6, Try.ntmps6
    go_wp2_with (first
      | (go_at_call 15; refine (unhide HF _).mono ?_; rintro e w1 ⟨a, m, c, rfl, hr, k1⟩; have bx := (unhide HB0).kept k1 (by simp); obtain ⟨d0, d1, d2, d3, d4, d5, d6, d7, d8, d9, d10⟩ := box11 bx; have hm5 : m < 1000 := (by have h1 := hr.slice; have h2 := row_len p.kind; omega); have HR := hide hr; have HB := hide bx; have HK1 := hide ((unhide HK0).step k1); clear bx hr k1)
      | (go_at_call 16; refine (unhide HI _ _ _ _ _ _ (unhide HR) (Nat.le_refl _) hm5).mono ?_; rintro e w2 ⟨rfl, k2⟩; have HK2 := hide ((unhide HK1).step k2); clear k2))
    go_ret2
    exact ⟨unhide HK2, Or.inr ⟨unhide HSN, rfl⟩⟩
set_option maxRecDepth 100000 in
set_option maxHeartbeats 800000 in
theorem size_anyR (w : World) (p : Pl) (l : Lo) (hf : RecFar w p l []) : Calls Try.prog 13 #[rv p l] w (SizP w p) := by
  have HF := hide (fun W => fieldsOf_any W p.kind)
  have HI := hide (fun W lo hi a m c hr h0 hm => isSound_any W lo hi p l a m c (rowOf p.kind) hr h0 hm)
  simp only [snd_def] at HI
  have HL := hide (fun W lo hi a m c hs hr h0 hf => lay_all W lo hi p l a m c hs hr h0 hf)
  have HFAR := hide hf
  clear hf
  rw [rv_lit] at *
  have HB0 := hide (Blk.new w #[.int .i64 p.kind, .int .i64 p.shard, .int .i64 p.epoch, .int .i64 p.peer, .int .i64 p.client, .int .i64 p.seq, .int .i64 p.okind, .slice l.ka p.key.length l.kc, .slice l.va p.val.length l.vc, .int .i64 p.rev, .slice l.ca p.copy.length l.cc] 26)
  obtain ⟨d0, d1, d2, d3, d4, d5, d6, d7, d8, d9, d10⟩ := box11 (unhide HB0)
  have HK0 := hide ((Kept.refl [] w).alloc (.cells #[.int .i64 p.kind, .int .i64 p.shard, .int .i64 p.epoch, .int .i64 p.peer, .int .i64 p.client, .int .i64 p.seq, .int .i64 p.okind, .slice l.ka p.key.length l.kc, .slice l.va p.val.length l.vc, .int .i64 p.rev, .slice l.ca p.copy.length l.cc] 26))
  cases hs : snd p with
  | true =>
    have HSN := hide hs
    rw [hs] at HI
    clear hs
    go_enter Try.func13, Try.ntmps13
    go_wp2_with (first
      | (go_at_call 15; refine (unhide HF _).mono ?_; rintro e w1 ⟨a, m, c, rfl, hr, k1⟩; have bx := (unhide HB0).kept k1 (by simp); obtain ⟨d0, d1, d2, d3, d4, d5, d6, d7, d8, d9, d10⟩ := box11 bx; have hm5 : m < 1000 := (by have h1 := hr.slice; have h2 := row_len p.kind; omega); have HR := hide hr; have HB := hide bx; have HK1 := hide ((unhide HK0).step k1); clear bx hr k1)
      | (go_at_call 16; refine (unhide HI _ _ _ _ _ _ (unhide HR) (Nat.le_refl _) hm5).mono ?_; rintro e w2 ⟨rfl, k2⟩; have bx := (unhide HB).kept k2 (by simp); obtain ⟨d0, d1, d2, d3, d4, d5, d6, d7, d8, d9, d10⟩ := box11 bx; have HK2 := hide ((unhide HK1).step k2); have HR2 := hide ((unhide HR).kept k2 (by simp)); have hs2 := k2.size; clear bx k2)
      | (go_at_call 17; refine (unhide HL _ _ _ _ _ _ (unhide HSN) (unhide HR2) hs2 ((unhide HFAR).quiet (unhide HK2))).mono ?_; rintro e w3 ⟨bw, F, rfl, hw3, hf3, k3⟩; have HK3 := hide ((unhide HK2).step k3); have HW := hide hw3; clear hw3 k3 hf3)
      | (go_at_call 22; refine (wlen_w (unhide HW)).mono ?_; rintro e w4 ⟨rfl, rfl⟩))
    go_ret2
    exact ⟨unhide HK3, Or.inl ⟨unhide HSN, rfl⟩⟩
  | false =>
    have HSN := hide hs
    rw [hs] at HI
    clear hs
    go_enter Try.func13, Try.ntmps13
    go_wp2_with (first
      | (go_at_call 15; refine (unhide HF _).mono ?_; rintro e w1 ⟨a, m, c, rfl, hr, k1⟩; have bx := (unhide HB0).kept k1 (by simp); obtain ⟨d0, d1, d2, d3, d4, d5, d6, d7, d8, d9, d10⟩ := box11 bx; have hm5 : m < 1000 := (by have h1 := hr.slice; have h2 := row_len p.kind; omega); have HR := hide hr; have HB := hide bx; have HK1 := hide ((unhide HK0).step k1); clear bx hr k1)
      | (go_at_call 16; refine (unhide HI _ _ _ _ _ _ (unhide HR) (Nat.le_refl _) hm5).mono ?_; rintro e w2 ⟨rfl, k2⟩; have HK2 := hide ((unhide HK1).step k2); clear k2))
    go_ret2
    exact ⟨unhide HK2, Or.inr ⟨unhide HSN, rfl⟩⟩
end Go.Proofs.Ytocmgfmfalaebab

/- Clone and Read of what came in, be it an empty slice at any address. -/
namespace Go.Proofs.Ytocmgfmfalaebab
open Go.RowKit

set_option maxRecDepth 100000 in
set_option maxHeartbeats 400000 in
theorem clone_wide {w : World} {x : Value} {bs : List Nat} (h : Wide w x bs) (hl : bs.length ≤ 140737488355328) :
    Calls Try.prog 27 #[x] w fun e w' => ∃ a cap, e = .returned (.slice a bs.length cap) ∧ w'.ownsRow w.heap.size 5 1 (.slice a bs.length cap) bs.length (u8s bs) ∧ Kept [] w w' := by
  rcases h with h | ⟨a0, rfl, rfl⟩
  · exact clone_any h hl
  · obtain ⟨i0, hi, hz0, hz1, hz2⟩ := info_parts Try.info5
    have e0 := fun (a : Option Addr) (n c : Nat) (w : World) => Lib.run_eql_slice_nil (P := Try.prog) w 22 5 a n c 0 0 Try.underlying22
    have hs : Wide (w.alloc (.cells #[] 5)) (.slice (some a0) 0 0) [] := Or.inr ⟨a0, rfl, rfl⟩
    clear hl
    go_enter Try.func27, Try.ntmps27
    go_wp2_with (at_builtin; refine wpList_append_wide _ rfl _ _ 22 rfl w.heap.size 5 i0 (.int .u8 0) Try.underlying22 hi hz0 hz1 hz2 rfl _ [] rfl (World.ownsRow_made w #[] 0 (Nat.le_refl _) (Nat.zero_le _) rfl) _ [] rfl hs ?c1 ?c2 ?_)
    case c1 => simp
    case c2 => simp
    intro v' w1 hown hg hat
    obtain ⟨a, c, hv⟩ := own_len hown
    subst hv
    go_wp2
    go_ret
    exact ⟨a, c, rfl, by simpa using hown, ((Kept.refl [] w).alloc _).grown hg (fun k hk => by simp [Value.ownBlock] at hk; right; omega)⟩

set_option maxRecDepth 100000 in
set_option maxHeartbeats 400000 in
theorem read_w {w : World} {x : Value} {bs : List Nat} (h : Wide w x bs) (hl : bs.length ≤ 140737488355328) (hb : ∀ x ∈ bs, x < 256) :
    Calls Try.prog 19 #[x] w fun e w' => ∃ b F, e = .returned (.pointer (some ⟨b, 0, none⟩)) ∧ Rs w' b F ⟨0, bs, []⟩ ∧ (∀ x ∈ F, w.heap.size ≤ x) ∧ Kept [] w w' := by
  have HC := hide (clone_wide h hl)
  have HB := hide hb
  clear h hb
  go_enter Try.func19, Try.ntmps19
  go_wp2_with (first | (go_at_call 27; refine (unhide HC).mono ?_; rintro e w1 ⟨ca, cc, rfl, hfo, hk1⟩))
  go_ret
  have hks := hk1.size
  have hr : Rd (w1.alloc (.cells #[.slice ca bs.length cc, .slice none 0 0, .int .i64 0] 69)) w1.heap.size (.slice ca bs.length cc) nilS bs :=
    ⟨Blk.new _ _ _, sees_alloc _ (Sees.of_own hfo), fun e => by have := (hfo.lt _ e).2; omega, hl⟩
  refine ⟨w1.heap.size, _, rfl, Or.inr ⟨rfl, unhide HB, by simp, _, nilS, [], _, Rf.new hr, rfl⟩, fun x hx => ?_, hk1.alloc _⟩
  simp only [rfoot, nilS, List.mem_append, List.mem_cons, Option.mem_toList] at hx
  rcases hx with hx | rfl | hx
  · exact (hfo.lt x hx).1
  · exact hks
  · cases hx

end Go.Proofs.Ytocmgfmfalaebab

/- A record that is being read, field by field. -/
namespace Go.Proofs.Ytocmgfmfalaebab
open Go.RowKit

/-- Behind a field that was taken. -/
def DTk (w : World) (B br : Nat) (p : Pl) (F : List Nat) (W : World) (s : RS) (W' : World) : Prop := ∃ F' l', DS w B br p l' F' W' s ∧ (∀ x ∈ F', x ∈ F) ∧ Kept (B :: F) W W'
theorem take_num {w W : World} {o : Nat} {lo hi : Int} {p q s b br : Nat} {F : List Nat} {st : RS} {r : Pl} {l : Lo} (hf : Fd W (.num o lo hi) p q s) (h : DS w b br r l F W st) :
    Calls Try.prog 53 #[ptr b, ptr br, ptr p] W fun e w' => e = .returned (.tuple #[]) ∧ DTk w b br (takF st r (.num o lo hi)).2 F W (takF st r (.num o lo hi)).1 w' := by
  obtain ⟨⟨g, ha, h1⟩, ho, h2, h3⟩ := hf
  refine (num3_any ha h.dt (rcc_lt r l ho) (h1.cell 0)).mono ?_
  rintro e w' ⟨rfl, hp⟩
  obtain ⟨F', h4, h5, h6⟩ := h.num ho hp
  exact ⟨rfl, F', l, h4, h5, h6⟩
theorem take_op {w W : World} {p q s b br : Nat} {F : List Nat} {st : RS} {r : Pl} {l : Lo} (hf : Fd W .op p q s) (h : DS w b br r l F W st) :
    Calls Try.prog 60 #[ptr b, ptr br, ptr p] W fun e w' => e = .returned (.tuple #[]) ∧ DTk w b br (takF st r .op).2 F W (takF st r .op).1 w' := by
  refine (write3_any h.dt (Blk.cell hf 0)).mono ?_
  rintro e w' ⟨rfl, kv, vv, hk, hv, hu, hp⟩
  obtain ⟨F', l', h4, h5, h6⟩ := h.op hk hv hu hp
  exact ⟨rfl, F', l', h4, h5, h6⟩
theorem take_copy {w W : World} {p q s b br : Nat} {F : List Nat} {st : RS} {r : Pl} {l : Lo} (hf : Fd W .copy p q s) (h : DS w b br r l F W st) (hp1 : p ∉ F ∧ p ≠ b) (hq1 : q ∉ F ∧ q ≠ b) :
    Calls Try.prog 66 #[ptr b, ptr br, ptr q, ptr p] W fun e w' => e = .returned (.tuple #[]) ∧ DTk w b br (takF st r .copy).2 F W (takF st r .copy).1 w' := by
  refine (text3_any acc7 h.dt (by simp [rcc]) (hf.1.cell 0) (hf.2.cell 0) (by omega) ⟨hf.1.lt, hp1⟩ ⟨hf.2.lt, hq1⟩).mono ?_
  rintro e w' ⟨rfl, v, hv, hp⟩
  obtain ⟨F', l', h4, h5, h6⟩ := h.text hv hp
  exact ⟨rfl, F', l', h4, h5, h6⟩
theorem setN_kind (p : Pl) (n : Int) (o : Nat) : (setN p n o).kind = p.kind := by
  unfold setN; split <;> rfl
theorem takF_kind (s : RS) (p : Pl) (k : Fk) : (takF s p k).2.kind = p.kind := by
  cases k with
  | num o lo hi => exact setN_kind _ _ _
  | op => rfl
  | copy => rfl
theorem takL_kind : ∀ (ks : List Fk) (s : RS) (p : Pl), (takL ks s p).2.kind = p.kind
  | [], _, _ => rfl
  | k :: ks, s, p => by rw [takL, takL_kind ks]; exact takF_kind s p k

/-- Decode's loop. -/
structure DI (w : World) (lo hi B br : Nat) (v : Value) (ks : List Fk) (z : RS × Pl) (i : Nat) (p : Pl) (l : Lo) (F : List Nat) (s : RS) (W : World) : Prop where
  row : FRow lo hi W v ks
  ds : DS w B br p l F W s
  bl : B < lo
  fl : ∀ x ∈ F, x < lo
  is_ : z = takL (ks.drop i) s p
  hw : hi ≤ W.heap.size
theorem DI.step {w : World} {lo hi B br : Nat} {v : Value} {ks : List Fk} {z : RS × Pl} {i : Nat} {p : Pl} {l : Lo} {F : List Nat} {s : RS} {W W2 W3 : World} (h : DI w lo hi B br v ks z i p l F s W) (hik : i < ks.length) (k2 : Kept [] W W2) (hp : DTk w B br (takF s p ks[i]).2 F W2 (takF s p ks[i]).1 W3) : ∃ l' F', DI w lo hi B br v ks z (i + 1) (takF s p ks[i]).2 l' F' (takF s p ks[i]).1 W3 := by
  obtain ⟨F', l', h1, h2, h3⟩ := hp
  have hs1 := k2.size
  have hs2 := h3.size
  have hw := h.hw
  refine ⟨l', F', (h.row.kept k2 (by simp)).kept h3 (fun x hx => ?_), h1, h.bl, fun x hx => h.fl x (h2 x hx), ?_, by omega⟩
  · simp at hx
    rcases hx with rfl | hx
    · exact Or.inl h.bl
    · exact Or.inl (h.fl x hx)
  · rw [h.is_, List.drop_eq_getElem_cons hik]
    rfl
theorem DS.quiet {w : World} {B br : Nat} {p : Pl} {l : Lo} {F : List Nat} {W W' : World} {s : RS} (h : DS w B br p l F W s) (k : Kept [] W W') : DS w B br p l F W' s :=
  ⟨⟨h.dt.blk.kept k (by simp), h.dt.rd.kept k (by simp), h.dt.apart⟩, h.kn.kept k (by simp), h.vn.kept k (by simp), h.cn.kept k (by simp), h.ko, h.vo, h.co, h.kv, h.kc, h.vc, h.kept.trans k (by simp), h.bw, h.fw⟩
def nilL : Lo := ⟨none, 0, none, 0, none, 0⟩
theorem DS.begin {w w1 w2 : World} {br : Nat} {F : List Nat} {s2 : RS} {kd : Int} (hl : ∀ x ∈ F, w.heap.size ≤ x) (k1 : Kept [] w w1) (h2 : RsQ w1 br F s2 w2) {W : World} (hW : W = w2.alloc (.cells (rcc { zeroP with kind := kd } nilL) 26)) : ∃ F', DS w w2.heap.size br { zeroP with kind := kd } nilL F' W s2 ∧ (∀ x ∈ F', x < w2.heap.size) := by
  obtain ⟨F', g1, g2, g3⟩ := h2
  have hlt := g1.lt
  have k0 := (Kept.refl [] w2).alloc (.cells (rcc { zeroP with kind := kd } nilL) 26)
  subst hW
  have hk : Kept [] w w2 := k1.trans g2 (fun x hx => Or.inr (hl x hx))
  refine ⟨F', ⟨⟨Blk.new _ _ _, g1.kept k0 (by simp), fun hm => by have := hlt _ hm; omega⟩, NewV.nil _ _, NewV.nil _ _, NewV.nil _ _, ?_, ?_, ?_, ?_, ?_, ?_, hk.trans k0 (by simp), hk.size, fun x hx => hl x (g3 x hx)⟩, hlt⟩ <;> simp [nilL, zeroP, Value.ownBlock]
end Go.Proofs.Ytocmgfmfalaebab

/- Decode. -/
namespace Go.Proofs.Ytocmgfmfalaebab
open Go.RowKit

/-- A record that is answered: its lists are new, each in a block of its own. -/
structure NewR (w : World) (p : Pl) (l : Lo) (W : World) : Prop where
  kn : NewV w p.key (.slice l.ka p.key.length l.kc) W
  vn : NewV w p.val (.slice l.va p.val.length l.vc) W
  cn : NewV w p.copy (.slice l.ca p.copy.length l.cc) W
  kv : ∀ x, (Value.slice l.ka p.key.length l.kc).ownBlock = some x → (Value.slice l.va p.val.length l.vc).ownBlock ≠ some x
  kc : ∀ x, (Value.slice l.ka p.key.length l.kc).ownBlock = some x → (Value.slice l.ca p.copy.length l.cc).ownBlock ≠ some x
  vc : ∀ x, (Value.slice l.va p.val.length l.vc).ownBlock = some x → (Value.slice l.ca p.copy.length l.cc).ownBlock ≠ some x
/-- What Decode answers. -/
def DecP (w : World) (bs : List Nat) (e : Ending) (w' : World) : Prop := Kept [] w w' ∧ ((∃ p l, dec bs = some p ∧ e = .returned (.tuple #[rv p l, .int .i64 0]) ∧ NewR w p l w') ∨ (dec bs = none ∧ e = .returned (.tuple #[rv zeroP nilL, .int .i64 160])))

theorem froz11 {W : World} {b : Nat} {cs : Array Value} {t : TypeId} (h : Blk W b cs t) : W.frozen? ⟨b, 0, none⟩ = false ∧ W.frozen? ⟨b, 1, none⟩ = false ∧ W.frozen? ⟨b, 2, none⟩ = false ∧ W.frozen? ⟨b, 3, none⟩ = false ∧ W.frozen? ⟨b, 4, none⟩ = false ∧ W.frozen? ⟨b, 5, none⟩ = false ∧ W.frozen? ⟨b, 6, none⟩ = false ∧ W.frozen? ⟨b, 7, none⟩ = false ∧ W.frozen? ⟨b, 8, none⟩ = false ∧ W.frozen? ⟨b, 9, none⟩ = false ∧ W.frozen? ⟨b, 10, none⟩ = false := ⟨h.frozen 0, h.frozen 1, h.frozen 2, h.frozen 3, h.frozen 4, h.frozen 5, h.frozen 6, h.frozen 7, h.frozen 8, h.frozen 9, h.frozen 10⟩
theorem put11 {W : World} {b : Nat} {y0 y1 y2 y3 y4 y5 y6 y7 y8 y9 y10 : Value} {t : TypeId} (h : Blk W b #[y0, y1, y2, y3, y4, y5, y6, y7, y8, y9, y10] t) (x0 x1 x2 x3 x4 x5 x6 x7 x8 x9 x10 : Value) : Blk (((((((((((W.setCell ⟨b, 0, none⟩ x0).setCell ⟨b, 1, none⟩ x1).setCell ⟨b, 2, none⟩ x2).setCell ⟨b, 3, none⟩ x3).setCell ⟨b, 4, none⟩ x4).setCell ⟨b, 5, none⟩ x5).setCell ⟨b, 6, none⟩ x6).setCell ⟨b, 7, none⟩ x7).setCell ⟨b, 8, none⟩ x8).setCell ⟨b, 9, none⟩ x9).setCell ⟨b, 10, none⟩ x10) b #[x0, x1, x2, x3, x4, x5, x6, x7, x8, x9, x10] t := by
  have g0 := h.set 0 x0
  simp only [List.setIfInBounds_toArray, List.set_cons_zero] at g0
  have g1 := g0.set 1 x1
  simp only [List.setIfInBounds_toArray, List.set_cons_zero, List.set_cons_succ] at g1
  have g2 := g1.set 2 x2
  simp only [List.setIfInBounds_toArray, List.set_cons_zero, List.set_cons_succ] at g2
  have g3 := g2.set 3 x3
  simp only [List.setIfInBounds_toArray, List.set_cons_zero, List.set_cons_succ] at g3
  have g4 := g3.set 4 x4
  simp only [List.setIfInBounds_toArray, List.set_cons_zero, List.set_cons_succ] at g4
  have g5 := g4.set 5 x5
  simp only [List.setIfInBounds_toArray, List.set_cons_zero, List.set_cons_succ] at g5
  have g6 := g5.set 6 x6
  simp only [List.setIfInBounds_toArray, List.set_cons_zero, List.set_cons_succ] at g6
  have g7 := g6.set 7 x7
  simp only [List.setIfInBounds_toArray, List.set_cons_zero, List.set_cons_succ] at g7
  have g8 := g7.set 8 x8
  simp only [List.setIfInBounds_toArray, List.set_cons_zero, List.set_cons_succ] at g8
  have g9 := g8.set 9 x9
  simp only [List.setIfInBounds_toArray, List.set_cons_zero, List.set_cons_succ] at g9
  have g10 := g9.set 10 x10
  simp only [List.setIfInBounds_toArray, List.set_cons_zero, List.set_cons_succ] at g10
  exact g10
theorem kept11 (W : World) (b : Nat) (x0 x1 x2 x3 x4 x5 x6 x7 x8 x9 x10 : Value) : Kept [b] W (((((((((((W.setCell ⟨b, 0, none⟩ x0).setCell ⟨b, 1, none⟩ x1).setCell ⟨b, 2, none⟩ x2).setCell ⟨b, 3, none⟩ x3).setCell ⟨b, 4, none⟩ x4).setCell ⟨b, 5, none⟩ x5).setCell ⟨b, 6, none⟩ x6).setCell ⟨b, 7, none⟩ x7).setCell ⟨b, 8, none⟩ x8).setCell ⟨b, 9, none⟩ x9).setCell ⟨b, 10, none⟩ x10) := (((((((((((Kept.refl [b] W).setCell (Or.inl (by simp)) _).setCell (Or.inl (by simp)) _).setCell (Or.inl (by simp)) _).setCell (Or.inl (by simp)) _).setCell (Or.inl (by simp)) _).setCell (Or.inl (by simp)) _).setCell (Or.inl (by simp)) _).setCell (Or.inl (by simp)) _).setCell (Or.inl (by simp)) _).setCell (Or.inl (by simp)) _).setCell (Or.inl (by simp)) _
theorem NewR.done {w W W2 W3 : World} {p : Pl} {l : Lo} {o : Obj} (h : NewR (w.alloc o) p l W) (k : Kept [] W W2) (q : Kept [w.heap.size] W2 W3) : NewR w p l W3 := by
  have hn : ∀ {v : Value} {bs : List Nat}, NewV (w.alloc o) bs v W → NewV w bs v W3 := fun {v bs} hv =>
    ((hv.kept k (by simp)).kept q (fun x hx hm => by have := (hv.lt hx).1; simp at hm this; omega)).from (by simp)
  exact ⟨hn h.kn, hn h.vn, hn h.cn, h.kv, h.kc, h.vc⟩

set_option maxRecDepth 100000 in
set_option maxHeartbeats 1600000 in
theorem decode_any (w : World) (x : Value) (bs : List Nat) (hx : Wide w x bs) (hl : bs.length ≤ 140737488355328) (hb : ∀ y ∈ bs, y < 256) : Calls Try.prog 10 #[x] w (DecP w bs) := by
  have hsf := fun w a f x y md => run_store Try.prog w a (.func f x y) md rfl
  have HX := hide hx
  have HLB := hide (And.intro hl hb)
  obtain ⟨xa, xc, rfl⟩ := wide_len hx
  have HK0 := hide ((Kept.refl [] w).alloc (.cells (rcc zeroP nilL) 26))
  clear hx hl hb
  go_enter Try.func10, Try.ntmps10
  go_wp2_with (first
    | (go_at_call 19; refine (read_w ((unhide HX).kept (unhide HK0)) (unhide HLB).1 (unhide HLB).2).mono ?_; rintro e w1 ⟨br, F, rfl, hr1, hf1, k1⟩; have HR1 := hide hr1; have HF1 := hide hf1; have HK1 := hide k1; clear hr1 hf1 k1)
    | (go_at_call 20; refine (rbyte_q (unhide HR1)).mono ?_; rintro e w2 ⟨rfl, hq2⟩; obtain ⟨F2, hd2, hlt2⟩ := DS.begin (kd := ((rByte ⟨0, bs, []⟩).2 : Nat)) (unhide HF1) (unhide HK1) hq2 rfl; have HD2 := hide hd2; have HT2 := hide hlt2; clear hd2 hlt2 hq2; obtain ⟨b0, b1, b2, b3, b4, b5, b6, b7, b8, b9, b10⟩ := box11 (unhide HD2).dt.blk)
    | (go_at_call 15; refine (fieldsOf_any _ _).mono ?_; rintro e w3 ⟨a, m, c, rfl, hr3, k3⟩; have hm5 : m < 1000 := (by have h1 := hr3.slice; have h2 := row_len ((rByte ⟨0, bs, []⟩).2 : Nat); omega); have HM := hide hr3.slice.1; obtain ⟨lo, hi, hi3⟩ : ∃ lo hi, DI (w.alloc (.cells (rcc zeroP nilL) 26)) lo hi w2.heap.size br (.slice a m c) (rowOf ((rByte ⟨0, bs, []⟩).2 : Nat)) (takL (rowOf ((rByte ⟨0, bs, []⟩).2 : Nat)) (rByte ⟨0, bs, []⟩).1 { zeroP with kind := ((rByte ⟨0, bs, []⟩).2 : Nat) }) 0 { zeroP with kind := ((rByte ⟨0, bs, []⟩).2 : Nat) } nilL F2 (rByte ⟨0, bs, []⟩).1 w3 := ⟨_, _, DI.mk hr3 ((unhide HD2).quiet k3) (by simp) (fun x hx => by have := unhide HT2 x hx; simp; omega) (show takL (rowOf ((rByte ⟨0, bs, []⟩).2 : Nat)) _ _ = takL ((rowOf ((rByte ⟨0, bs, []⟩).2 : Nat)).drop 0) _ _ from rfl) (Nat.le_refl _)⟩; have HI3 := hide hi3; clear hr3 k3 hi3))
  have HZ : Hid ((takL (rowOf ((rByte ⟨0, bs, []⟩).2 : Nat)) (rByte ⟨0, bs, []⟩).1 { zeroP with kind := ((rByte ⟨0, bs, []⟩).2 : Nat) }) = decB bs) := rfl
  rw [unhide HZ] at HI3
  clear HD2 HT2 b0 b1 b2 b3 b4 b5 b6 b7 b8 b9 b10
  generalize w2.heap.size = B at *
  have HKD : Hid (∀ q : Pl, q = { zeroP with kind := ((rByte ⟨0, bs, []⟩).2 : Nat) } → q.kind = ((rByte ⟨0, bs, []⟩).2 : Nat)) := fun q e => by rw [e]
  generalize hkd : (((rByte ⟨0, bs, []⟩).2 : Nat) : Int) = kd at *
  have HKD2 := hide hkd
  clear hkd
  go_loopw [19] (fun x wr => ∃ (i : Nat) (p : Pl) (l : Lo) (F : List Nat) (s : RS), i ≤ m ∧ x = .int .i64 (i : Int) ∧ Hid (DI (w.alloc (.cells (rcc zeroP nilL) 26)) lo hi B br (.slice a m c) (rowOf kd) (decB bs) i p l F s wr)) (fun x _ => m - (intOf x).toNat)
  case atStart => exact ⟨0, _, nilL, F2, _, by omega, rfl, HI3⟩
  case round =>
    obtain ⟨i, p, l, F, s, hi', rfl, HS⟩ := hrel
    have hw1 : IntKind.i64.wrap ((i : Int) + 1) = (i : Int) + 1 := by rw [IntKind.wrap_i64]; omega
    rcases Nat.lt_or_ge i m with hlt | hge
    · have hS := unhide HS
      clear HS HI3
      have hik : i < (rowOf kd).length := by have := unhide HM; omega
      have HIK := hide hik
      obtain ⟨r, fp, fq, fs, rfl, hc, hf, hlr, hlp, hlq, hls⟩ := hS.row.field i hik
      have hbl := hS.bl
      have hfl := hS.fl
      generalize hk0 : (rowOf kd)[i] = k at *
      have HKI : Hid (k = (rowOf kd)[i]'(unhide HIK)) := hk0.symm
      clear hk0
      have hil : (i : Int) < (m : Int) := by omega
      cases k with
          | num o lo1 hi1 =>
            have HQ := hide (fun X (hX : Kept [] wr X) => take_num (hf.kept hX (by simp) (by simp) (by simp)) (hS.ds.quiet hX))
            obtain ⟨d0, d1, d2, d3⟩ := four hc
            have HS := hide hS
            clear hc hf hS
            unfold fn ptr at *
            go_wp2_with (go_at_call 53; refine (unhide HQ _ (by repeat (first | exact Kept.refl _ _ | refine Kept.alloc ?_ _))).mono ?_; rintro e w5 ⟨rfl, hp5⟩; rw [unhide HKI] at hp5; obtain ⟨l5, F5, hl5⟩ := (unhide HS).step (unhide HIK) ((Kept.refl [] wr).alloc _) hp5; have HS5 := hide hl5; clear hp5 hl5)
            exact ⟨⟨i + 1, _, l5, F5, _, by omega, by simp, HS5⟩, by simp [intOf]; omega⟩
          | op =>
            have HQ := hide (fun X (hX : Kept [] wr X) => take_op (hf.kept hX (by simp) (by simp) (by simp)) (hS.ds.quiet hX))
            obtain ⟨d0, d1, d2, d3⟩ := four hc
            have HS := hide hS
            clear hc hf hS
            unfold fn ptr at *
            go_wp2_with (go_at_call 60; refine (unhide HQ _ (by repeat (first | exact Kept.refl _ _ | refine Kept.alloc ?_ _))).mono ?_; rintro e w5 ⟨rfl, hp5⟩; rw [unhide HKI] at hp5; obtain ⟨l5, F5, hl5⟩ := (unhide HS).step (unhide HIK) ((Kept.refl [] wr).alloc _) hp5; have HS5 := hide hl5; clear hp5 hl5)
            exact ⟨⟨i + 1, _, l5, F5, _, by omega, by simp, HS5⟩, by simp [intOf]; omega⟩
          | copy =>
            have HQ := hide (fun X (hX : Kept [] wr X) => take_copy (hf.kept hX (by simp) (by simp) (by simp)) (hS.ds.quiet hX) ⟨fun hm => by have := hfl _ hm; omega, by omega⟩ ⟨fun hm => by have := hfl _ hm; omega, by omega⟩)
            obtain ⟨d0, d1, d2, d3⟩ := four hc
            have HS := hide hS
            clear hc hf hS
            unfold fn ptr at *
            go_wp2_with (go_at_call 66; refine (unhide HQ _ (by repeat (first | exact Kept.refl _ _ | refine Kept.alloc ?_ _))).mono ?_; rintro e w5 ⟨rfl, hp5⟩; rw [unhide HKI] at hp5; obtain ⟨l5, F5, hl5⟩ := (unhide HS).step (unhide HIK) ((Kept.refl [] wr).alloc _) hp5; have HS5 := hide hl5; clear hp5 hl5)
            exact ⟨⟨i + 1, _, l5, F5, _, by omega, by simp, HS5⟩, by simp [intOf]; omega⟩
    · obtain rfl : i = m := by omega
      clear HI3
      have hS := unhide HS
      have hz := hS.is_
      rw [unhide HM, List.drop_length] at hz
      have hz1 : decB bs = (s, p) := hz
      have hpk : p.kind = kd := by
        have h1 : (decB bs).2.kind = (((rByte ⟨0, bs, []⟩).2 : Nat) : Int) := takL_kind _ _ _
        rw [hz1, unhide HKD2] at h1
        exact h1
      have hR0 : Blk wr w.heap.size (rcc zeroP nilL) 26 := (Blk.new w _ _).kept hS.ds.kept (by simp)
      have HDN := hide (rdone_s hS.ds.dt.rd)
      have HIS := hide (isSound_any wr lo hi p l a i c (rowOf kd) hS.row hS.hw hm5)
      rw [← hpk, snd_def, rv_lit] at HIS
      have HEND : Hid (decB bs = (s, p)) := hz1
      have HNR : Hid (NewR (w.alloc (.cells (rcc zeroP nilL) 26)) p l wr ∧ Kept [] (w.alloc (.cells (rcc zeroP nilL) 26)) wr) := ⟨⟨hS.ds.kn, hS.ds.vn, hS.ds.cn, hS.ds.kv, hS.ds.kc, hS.ds.vc⟩, hS.ds.kept⟩
      obtain ⟨b0, b1, b2, b3, b4, b5, b6, b7, b8, b9, b10⟩ := box11 hS.ds.dt.blk
      obtain ⟨r0, r1, r2, r3, r4, r5, r6, r7, r8, r9, r10⟩ := box11 hR0
      have HR0 := hide hR0
      have hBn : w.heap.size ≠ B := by have := hS.ds.bw; simp at this; omega
      have hBn2 := Ne.symm hBn
      obtain ⟨fz0, fz1, fz2, fz3, fz4, fz5, fz6, fz7, fz8, fz9, fz10⟩ := froz11 hR0
      have HBB : Hid (Blk wr B #[.int .i64 p.kind, .int .i64 p.shard, .int .i64 p.epoch, .int .i64 p.peer, .int .i64 p.client, .int .i64 p.seq, .int .i64 p.okind, .slice l.ka p.key.length l.kc, .slice l.va p.val.length l.vc, .int .i64 p.rev, .slice l.ca p.copy.length l.cc] 26) := hS.ds.dt.blk
      clear hS hz hz1 hR0 HS hpk HKD HZ HX HLB HK0
      generalize hkl : p.key.length = kl at *
      generalize hvl : p.val.length = vl at *
      generalize hcl : p.copy.length = cl' at *
      have HLL : Hid (p.key.length = kl ∧ p.val.length = vl ∧ p.copy.length = cl') := ⟨hkl, hvl, hcl⟩
      clear hkl hvl hcl
      by_cases hdn : rDone s = 0
      · rw [hdn] at HDN
        have HD := hide hdn
        clear hdn
        cases hsn : snd p with
        | true =>
          rw [hsn] at HIS
          have HSN := hide hsn
          clear hsn
          go_wp2_with (first
            | (go_at_call 21; refine (unhide HDN).mono ?_; rintro e w6 ⟨rfl, rfl⟩)
            | (go_at_call 16; refine (unhide HIS).mono ?_; rintro e w7 ⟨rfl, k7⟩; obtain ⟨b0, b1, b2, b3, b4, b5, b6, b7, b8, b9, b10⟩ := box11 ((unhide HBB).kept k7 (by simp)); obtain ⟨r0, r1, r2, r3, r4, r5, r6, r7, r8, r9, r10⟩ := box11 ((unhide HR0).kept k7 (by simp)); obtain ⟨fz0, fz1, fz2, fz3, fz4, fz5, fz6, fz7, fz8, fz9, fz10⟩ := froz11 ((unhide HR0).kept k7 (by simp))))
          have hb7 := (unhide HR0).kept k7 (by simp)
          have hst := unhide HLL
          refine ret_struct_tmp (b := w.heap.size) rfl rfl (put11 hb7 _ _ _ _ _ _ _ _ _ _ _) Try.underlying26 infoRec rfl ?_
          have q := kept11 w7 w.heap.size (.int .i64 p.kind) (.int .i64 p.shard) (.int .i64 p.epoch) (.int .i64 p.peer) (.int .i64 p.client) (.int .i64 p.seq) (.int .i64 p.okind) (.slice l.ka kl l.kc) (.slice l.va vl l.vc) (.int .i64 p.rev) (.slice l.ca cl' l.cc)
          have hk : Kept [] w w7 := (((Kept.refl [] w).alloc _).step (unhide HNR).2).step k7
          refine ⟨hk.trans q (fun x hx => by simp at hx; subst hx; exact Or.inr (Nat.le_refl _)), Or.inl ⟨p, l, ?_, ?_, ?_⟩⟩
          · unfold dec
            rw [unhide HEND]
            simp [unhide HD, unhide HSN]
          · rw [rv_lit, hst.1, hst.2.1, hst.2.2]
            rfl
          · exact (unhide HNR).1.done k7 q
        | false =>
          rw [hsn] at HIS
          have HSN := hide hsn
          clear hsn
          go_wp2_with (first
            | (go_at_call 21; refine (unhide HDN).mono ?_; rintro e w6 ⟨rfl, rfl⟩)
            | (go_at_call 16; refine (unhide HIS).mono ?_; rintro e w7 ⟨rfl, k7⟩; obtain ⟨b0, b1, b2, b3, b4, b5, b6, b7, b8, b9, b10⟩ := box11 ((unhide HBB).kept k7 (by simp)); obtain ⟨r0, r1, r2, r3, r4, r5, r6, r7, r8, r9, r10⟩ := box11 ((unhide HR0).kept k7 (by simp)); obtain ⟨fz0, fz1, fz2, fz3, fz4, fz5, fz6, fz7, fz8, fz9, fz10⟩ := froz11 ((unhide HR0).kept k7 (by simp))))
          have hb7 := (unhide HR0).kept k7 (by simp)
          refine ret_struct_tmp (b := w.heap.size) rfl rfl (put11 hb7 _ _ _ _ _ _ _ _ _ _ _) Try.underlying26 infoRec rfl ?_
          have q := kept11 w7 w.heap.size (.int .i64 0) (.int .i64 0) (.int .i64 0) (.int .i64 0) (.int .i64 0) (.int .i64 0) (.int .i64 0) (.slice none 0 0) (.slice none 0 0) (.int .i64 0) (.slice none 0 0)
          have hk : Kept [] w w7 := (((Kept.refl [] w).alloc _).step (unhide HNR).2).step k7
          refine ⟨hk.trans q (fun x hx => by simp at hx; subst hx; exact Or.inr (Nat.le_refl _)), Or.inr ⟨?_, rfl⟩⟩
          unfold dec
          rw [unhide HEND]
          simp [unhide HSN]
      · have HD := hide hdn
        have hdb : ((rDone s : Int) != 0) = true := by rw [bne_iff_ne]; omega
        clear hdn
        go_wp2_with (first
          | (go_at_call 21; refine (unhide HDN).mono ?_; rintro e w6 ⟨rfl, rfl⟩))
        have hb7 := unhide HR0
        refine ret_struct_tmp (b := w.heap.size) rfl rfl (put11 hb7 _ _ _ _ _ _ _ _ _ _ _) Try.underlying26 infoRec rfl ?_
        have q := kept11 wr w.heap.size (.int .i64 0) (.int .i64 0) (.int .i64 0) (.int .i64 0) (.int .i64 0) (.int .i64 0) (.int .i64 0) (.slice none 0 0) (.slice none 0 0) (.int .i64 0) (.slice none 0 0)
        have hk : Kept [] w wr := ((Kept.refl [] w).alloc _).step (unhide HNR).2
        refine ⟨hk.trans q (fun x hx => by simp at hx; subst hx; exact Or.inr (Nat.le_refl _)), Or.inr ⟨?_, rfl⟩⟩
        unfold dec
        rw [unhide HEND]
        simp [unhide HD]
end Go.Proofs.Ytocmgfmfalaebab

/- There and back: forms and readings of records, in plain words. -/
namespace Go.Proofs.Ytocmgfmfalaebab
open Go.RowKit

theorem read_one (l : List Nat) : ∀ (k acc n : Nat) (r : List Nat), (∀ x ∈ l, x < 256) → readNum k acc l = .inr (n, r) → ∃ m, n = acc + m * 128 ^ k ∧ l = form m ++ r ∧ (0 < k → 0 < m) := by
  induction l with
  | nil => intro k acc n r _ h; simp [readNum] at h
  | cons x l ih =>
    intro k acc n r hl h
    have hx := hl x (by simp)
    rw [readNum] at h
    split at h
    · cases h
    · split at h
      · rename_i h8
        split at h
        · cases h
        · rename_i h0
          cases h
          exact ⟨x, rfl, by rw [form_small h8]; rfl, fun hk => by omega⟩
      · rename_i h8
        obtain ⟨m, h1, h2, h3⟩ := ih (k + 1) _ n r (fun y hy => hl y (by simp [hy])) h
        have h4 := h3 (by omega)
        refine ⟨x % 128 + 128 * m, ?_, ?_, fun _ => by omega⟩
        · rw [h1, Nat.pow_succ, Nat.add_mul]
          have : m * (128 ^ k * 128) = 128 * m * 128 ^ k := by rw [Nat.mul_comm (128 ^ k), ← Nat.mul_assoc, Nat.mul_comm m]
          omega
        · rw [form_big (by omega), h2]
          have e1 : (x % 128 + 128 * m) % 128 + 128 = x := by omega
          have e2 : (x % 128 + 128 * m) / 128 = m := by omega
          rw [e1, e2]; rfl
theorem read_one0 {l r : List Nat} {n : Nat} (hl : ∀ x ∈ l, x < 256) (h : readNum 0 0 l = .inr (n, r)) : l = form n ++ r := by
  obtain ⟨m, h1, h2, _⟩ := read_one l 0 0 n r hl h
  have : n = m := by simp at h1; exact h1
  rw [this]; exact h2


def rG (l : List Nat) : RS := ⟨0, l, []⟩
theorem rByte_G (x : Nat) (l : List Nat) : rByte (rG (x :: l)) = (rG l, x) := rfl
theorem rNum_G (n : Nat) (l : List Nat) (h : n < 18446744073709551616) : rNum (rG (form n ++ l)) = (rG l, n) := by
  unfold rNum rG
  rw [if_neg (by simp)]
  dsimp only
  rw [read_form0 n l h]
theorem rText_G (ps l : List Nat) (most : Int) (h : (ps.length : Int) ≤ most) (h2 : ps.length < 18446744073709551616) : rText (rG (form ps.length ++ (ps ++ l))) most = (rG l, ps) := by
  unfold rText rG
  rw [if_neg (by simp)]
  dsimp only
  rw [read_form0 ps.length (ps ++ l) h2]
  dsimp only
  rw [if_neg (by omega), if_neg (by simp)]
  simp
theorem toI_small {n : Nat} (h : n < 9223372036854775808) : toI n = (n : Int) := by
  unfold toI wrap64
  omega
theorem toI_toNat {i : Int} (h0 : 0 ≤ i) (h1 : i < 9223372036854775808) : toI i.toNat = i := by
  rw [toI_small (by omega)]; omega
theorem toI_back {n : Nat} (h : n < 18446744073709551616) (h0 : 0 ≤ toI n) : (toI n).toNat = n := by
  have h1 : toI n = if n < 9223372036854775808 then (n : Int) else (n : Int) - 18446744073709551616 := by
    unfold toI wrap64
    split <;> omega
  rw [h1] at h0 ⊢
  split at h0
  · rw [if_pos (by assumption)]; omega
  · omega
/-- The op of a sound write is read back. -/
theorem takO_G {p : Pl} (h : wrt p.okind p.key.length p.val.length p.rev = true) (q : Pl) (l : List Nat) : takO (rG (formO p ++ l)) q = (rG l, { q with okind := p.okind, key := p.key, val := p.val, rev := p.rev }) := by
  obtain ⟨⟨h1, h2⟩, h3⟩ := wrt_iff.1 h
  obtain ⟨kn, hkn⟩ := Int.eq_ofNat_of_zero_le (show 0 ≤ p.okind by omega)
  rcases h3 with ⟨e, h4, h5⟩ | ⟨e, h4, h5⟩ | ⟨e, h4, h5, h6⟩
  · have hf : formO p ++ l = 3 :: (form p.key.length ++ (p.key ++ l)) := by unfold formO; rw [e]; simp
    rw [hf]
    have ev : p.val = [] := List.eq_nil_of_length_eq_zero h4
    rw [e, ev, h5]
    simp [takO, rByte_G, rText_G p.key l 64 (by omega) (by omega)]
  · have hf : formO p ++ l = 2 :: (form p.key.length ++ (p.key ++ (form p.val.length ++ (p.val ++ l)))) := by unfold formO; rw [e]; simp
    rw [hf, e, h5]
    simp [takO, rByte_G, rText_G p.key _ 64 (by omega) (by omega), rText_G p.val l 256 (by omega) (by omega)]
  · have hf : formO p ++ l = 4 :: (form p.key.length ++ (p.key ++ (form p.val.length ++ (p.val ++ (form p.rev.toNat ++ l))))) := by unfold formO; rw [e]; simp
    rw [hf, e]
    simp [takO, rByte_G, rText_G p.key _ 64 (by omega) (by omega), rText_G p.val _ 256 (by omega) (by omega), rNum_G p.rev.toNat l (by omega), toI_toNat h5 (by omega)]
/-- A form, whatever stands behind it, is read as its record. -/
theorem decB_enc {p : Pl} (h : snd p = true) (l : List Nat) : decB (enc p ++ l) = (rG l, p) := by
  rcases (snd_iff p).1 h with h | h | h | h
  · obtain ⟨h1, h2, h3, h4, h5, h6, h7, h8⟩ := h
    rw [enc_W h1]
    unfold decB
    rw [show ([1] ++ (form p.shard.toNat ++ (form p.client.toNat ++ (form p.seq.toNat ++ formO p))) ++ l) = 1 :: (form p.shard.toNat ++ (form p.client.toNat ++ (form p.seq.toNat ++ (formO p ++ l)))) by simp]
    have hb := rByte_G 1 (form p.shard.toNat ++ (form p.client.toNat ++ (form p.seq.toNat ++ (formO p ++ l))))
    unfold rG at hb
    rw [hb]
    dsimp only
    rw [show rowOf ((1 : Nat) : Int) = [sh, cl, sq, .op] from rfl]
    have n1 := rNum_G p.shard.toNat (form p.client.toNat ++ (form p.seq.toNat ++ (formO p ++ l))) (by omega)
    have n2 := rNum_G p.client.toNat (form p.seq.toNat ++ (formO p ++ l)) (by omega)
    have n3 := rNum_G p.seq.toNat (formO p ++ l) (by omega)
    have n4 := takO_G h5 (setN (setN (setN { zeroP with kind := ((1 : Nat) : Int) } p.shard 1) p.client 4) p.seq 5) l
    unfold rG at n1 n2 n3 n4 ⊢
    simp only [takL, takF, sh, cl, sq, n1, n2, n3, toI_toNat h2.1 (by omega), toI_toNat h3.1 (by omega), toI_toNat (show 0 ≤ p.seq by omega) (by omega), n4]
    obtain ⟨a, b, c, d, e, f, g, hh, i, j, k⟩ := p
    simp only at h1 h6 h7 h8
    subst h1 h6 h7 h8
    rfl
  · obtain ⟨h1, h2, h3, h4, h5, h6, ⟨g1, g2, g3, g4⟩, h8⟩ := h
    rw [enc_O h1]
    unfold decB
    rw [show ([2] ++ (form p.shard.toNat ++ form p.peer.toNat) ++ l) = 2 :: (form p.shard.toNat ++ (form p.peer.toNat ++ l)) by simp]
    have hb := rByte_G 2 (form p.shard.toNat ++ (form p.peer.toNat ++ l))
    unfold rG at hb
    rw [hb]
    dsimp only
    rw [show rowOf ((2 : Nat) : Int) = [sh, pe] from rfl]
    have n1 := rNum_G p.shard.toNat (form p.peer.toNat ++ l) (by omega)
    have n2 := rNum_G p.peer.toNat l (by omega)
    unfold rG at n1 n2 ⊢
    simp only [takL, takF, sh, pe, n1, n2, toI_toNat h2.1 (by omega), toI_toNat h3.1 (by omega)]
    obtain ⟨a, b, c, d, e, f, g, hh, i, j, k⟩ := p
    simp only at h1 h4 h5 h6 g1 g2 g3 g4 h8
    subst h1 h4 h5 h6 g1 g2 g3 g4 h8
    rfl
  · obtain ⟨h1, h2, h3, h4, h5, h6, h7, ⟨g1, g2, g3, g4⟩⟩ := h
    rw [enc_I h1]
    unfold decB
    rw [show ([4] ++ (form p.shard.toNat ++ (form p.epoch.toNat ++ (form p.peer.toNat ++ (form p.copy.length ++ p.copy)))) ++ l) = 4 :: (form p.shard.toNat ++ (form p.epoch.toNat ++ (form p.peer.toNat ++ (form p.copy.length ++ (p.copy ++ l))))) by simp]
    have hb := rByte_G 4 (form p.shard.toNat ++ (form p.epoch.toNat ++ (form p.peer.toNat ++ (form p.copy.length ++ (p.copy ++ l)))))
    unfold rG at hb
    rw [hb]
    dsimp only
    rw [show rowOf ((4 : Nat) : Int) = [sh, ep, pe, .copy] from rfl]
    have n1 := rNum_G p.shard.toNat (form p.epoch.toNat ++ (form p.peer.toNat ++ (form p.copy.length ++ (p.copy ++ l)))) (by omega)
    have n2 := rNum_G p.epoch.toNat (form p.peer.toNat ++ (form p.copy.length ++ (p.copy ++ l))) (by omega)
    have n3 := rNum_G p.peer.toNat (form p.copy.length ++ (p.copy ++ l)) (by omega)
    have n4 := rText_G p.copy l 262144 (by omega) (by omega)
    unfold rG at n1 n2 n3 n4 ⊢
    simp only [takL, takF, sh, ep, pe, n1, n2, n3, n4, toI_toNat h2.1 (by omega), toI_toNat (show 0 ≤ p.epoch by omega) (by omega), toI_toNat h4.1 (by omega)]
    obtain ⟨a, b, c, d, e, f, g, hh, i, j, k⟩ := p
    simp only at h1 h6 h7 g1 g2 g3 g4
    subst h1 h6 h7 g1 g2 g3 g4
    rfl
  · obtain ⟨h1, h2, h3, h4, h5, h6, ⟨g1, g2, g3, g4⟩, h8⟩ := h
    rw [enc_S h1]
    unfold decB
    obtain ⟨kn, hkn⟩ := Int.eq_ofNat_of_zero_le (show 0 ≤ p.kind by omega)
    rw [show ([p.kind.toNat] ++ form p.shard.toNat ++ l) = kn :: (form p.shard.toNat ++ l) by rw [hkn]; simp]
    have hb := rByte_G kn (form p.shard.toNat ++ l)
    unfold rG at hb
    rw [hb]
    dsimp only
    rw [rowS (by omega)]
    have n1 := rNum_G p.shard.toNat l (by omega)
    unfold rG at n1 ⊢
    simp only [takL, takF, sh, n1, toI_toNat h2.1 (by omega)]
    obtain ⟨a, b, c, d, e, f, g, hh, i, j, k⟩ := p
    simp only at hkn h3 h4 h5 h6 g1 g2 g3 g4 h8
    subst hkn h3 h4 h5 h6 g1 g2 g3 g4 h8
    rfl
theorem dec_enc {p : Pl} (h : snd p = true) : dec (enc p) = some p := by
  have h1 := decB_enc h []
  rw [List.append_nil] at h1
  unfold dec
  rw [h1]
  simp [h, rG, rDone]
end Go.Proofs.Ytocmgfmfalaebab
