/- The plain side of tree: trees of entries, joined, put into, taken out of, parted; what they hold, how deep they are. -/
import Derived.WalkKit
namespace Go.Proofs.Ytbpeeifgfjpghaa
open Go

/-- an order of keys: a strict weak one -/
class KOrd (K : Type) where
  lt : K → K → Bool
  irr : ∀ a, lt a a = false
  tr : ∀ a b c, lt a b = true → lt b c = true → lt a c = true
  ntr : ∀ a b c, lt a c = true → lt a b = true ∨ lt b c = true

instance : KOrd Int where
  lt a b := decide (a < b)
  irr a := by simp
  tr a b c := by simp; omega
  ntr a b c := by simp; omega

inductive Tr (K V : Type) where
  | nil : Tr K V
  | node (l : Tr K V) (k : K) (v : V) (r : Tr K V) : Tr K V

variable {K V : Type}
namespace Tr
def list : Tr K V → List (K × V)
  | nil => []
  | node l k v r => l.list ++ (k, v) :: r.list
def size : Tr K V → Nat
  | nil => 0
  | node l _ _ r => l.size + 1 + r.size
def depth : Tr K V → Nat
  | nil => 0
  | node l _ _ r => max l.depth r.depth + 1
def avl : Tr K V → Prop
  | nil => True
  | node l _ _ r => l.avl ∧ r.avl ∧ l.depth ≤ r.depth + 1 ∧ r.depth ≤ l.depth + 1

theorem list_length (t : Tr K V) : t.list.length = t.size := by
  induction t with
  | nil => rfl
  | node l k v r ihl ihr => simp [list, size, ihl, ihr]; omega
theorem depth_le_size (t : Tr K V) : t.depth ≤ t.size := by
  induction t with
  | nil => exact Nat.le_refl _
  | node l k v r ihl ihr => simp only [depth, size]; omega

/-- even: where depths may differ by two -/
def leanLow (a : Tr K V) (k' : K) (v' : V) (b : Tr K V) (k : K) (v : V) (h : Tr K V) : Tr K V :=
  if a.depth ≥ b.depth then node a k' v' (node b k v h)
  else match b with
    | nil => node a k' v' (node nil k v h)
    | node b1 k2 v2 b2 => node (node a k' v' b1) k2 v2 (node b2 k v h)
def leanHigh (l : Tr K V) (k : K) (v : V) (a : Tr K V) (k' : K) (v' : V) (b : Tr K V) : Tr K V :=
  if b.depth ≥ a.depth then node (node l k v a) k' v' b
  else match a with
    | nil => node (node l k v nil) k' v' b
    | node a1 k2 v2 a2 => node (node l k v a1) k2 v2 (node a2 k' v' b)
def even (l : Tr K V) (k : K) (v : V) (h : Tr K V) : Tr K V :=
  if l.depth > h.depth + 1 then match l with
    | nil => node nil k v h
    | node a k' v' b => leanLow a k' v' b k v h
  else if h.depth > l.depth + 1 then match h with
    | nil => node l k v nil
    | node a k' v' b => leanHigh l k v a k' v' b
  else node l k v h
def joinF : Nat → Tr K V → K → V → Tr K V → Tr K V
  | 0, l, k, v, h => node l k v h
  | n + 1, l, k, v, h =>
    if l.depth > h.depth + 1 then match l with
      | nil => node nil k v h
      | node a k' v' b => even a k' v' (joinF n b k v h)
    else if h.depth > l.depth + 1 then match h with
      | nil => node l k v nil
      | node a k' v' b => even (joinF n l k v a) k' v' b
    else node l k v h
def join (l : Tr K V) (k : K) (v : V) (h : Tr K V) : Tr K V := joinF (l.size + h.size) l k v h

theorem joinF_any (n m : Nat) (l : Tr K V) (k : K) (v : V) (h : Tr K V) (hn : l.size + h.size ≤ n) (hm : l.size + h.size ≤ m) : joinF n l k v h = joinF m l k v h := by
  induction n generalizing m l h with
  | zero =>
    have h1 : l = nil := by cases l with
      | nil => rfl
      | node => simp only [size] at hn; omega
    have h2 : h = nil := by cases h with
      | nil => rfl
      | node => simp only [size] at hn; omega
    subst h1; subst h2
    cases m <;> simp [joinF, depth]
  | succ n ih =>
    cases m with
    | zero =>
      have h1 : l = nil := by cases l with
        | nil => rfl
        | node => simp only [size] at hm; omega
      have h2 : h = nil := by cases h with
        | nil => rfl
        | node => simp only [size] at hm; omega
      subst h1; subst h2
      simp [joinF, depth]
    | succ m =>
      unfold joinF
      split
      · cases l with
        | nil => rfl
        | node a k' v' b =>
          simp only [size] at hn hm
          simp only []
          rw [ih m b h (by omega) (by omega)]
      · split
        · cases h with
          | nil => rfl
          | node a k' v' b =>
            simp only [size] at hn hm
            simp only []
            rw [ih m l a (by omega) (by omega)]
        · rfl
theorem join_low (a : Tr K V) (k' : K) (v' : V) (b : Tr K V) (k : K) (v : V) (h : Tr K V) (hd : (node a k' v' b).depth > h.depth + 1) :
    join (node a k' v' b) k v h = even a k' v' (join b k v h) := by
  unfold join
  have : (node a k' v' b).size + h.size = (a.size + b.size + h.size) + 1 := by simp only [size]; omega
  rw [this]
  conv => lhs; unfold joinF
  rw [if_pos hd]
  simp only []
  rw [joinF_any (a.size + b.size + h.size) (b.size + h.size) b k v h (by omega) (by omega)]
theorem join_high (l : Tr K V) (k : K) (v : V) (a : Tr K V) (k' : K) (v' : V) (b : Tr K V) (hl : ¬ l.depth > (node a k' v' b).depth + 1) (hd : (node a k' v' b).depth > l.depth + 1) :
    join l k v (node a k' v' b) = even (join l k v a) k' v' b := by
  unfold join
  have : l.size + (node a k' v' b).size = (l.size + a.size + b.size) + 1 := by simp only [size]; omega
  rw [this]
  conv => lhs; unfold joinF
  rw [if_neg hl, if_pos hd]
  simp only []
  rw [joinF_any (l.size + a.size + b.size) (l.size + a.size) l k v a (by omega) (by omega)]
theorem join_over (l : Tr K V) (k : K) (v : V) (h : Tr K V) (hl : ¬ l.depth > h.depth + 1) (hd : ¬ h.depth > l.depth + 1) : join l k v h = node l k v h := by
  unfold join
  cases l.size + h.size with
  | zero => rfl
  | succ n =>
    conv => lhs; unfold joinF
    rw [if_neg hl, if_neg hd]

theorem leanLow_list (a : Tr K V) (k' : K) (v' : V) (b : Tr K V) (k : K) (v : V) (h : Tr K V) : (leanLow a k' v' b k v h).list = a.list ++ (k', v') :: (b.list ++ (k, v) :: h.list) := by
  unfold leanLow
  split
  · simp [list]
  · cases b <;> simp [list]
theorem leanHigh_list (l : Tr K V) (k : K) (v : V) (a : Tr K V) (k' : K) (v' : V) (b : Tr K V) : (leanHigh l k v a k' v' b).list = l.list ++ (k, v) :: (a.list ++ (k', v') :: b.list) := by
  unfold leanHigh
  split
  · simp [list]
  · cases a <;> simp [list]
theorem even_list (l : Tr K V) (k : K) (v : V) (h : Tr K V) : (even l k v h).list = l.list ++ (k, v) :: h.list := by
  unfold even
  split
  · cases l with
    | nil => rfl
    | node a k' v' b => simp only [leanLow_list]; simp [list]
  · split
    · cases h with
      | nil => rfl
      | node a k' v' b => simp only [leanHigh_list]; simp [list]
    · rfl
theorem joinF_list (n : Nat) (l : Tr K V) (k : K) (v : V) (h : Tr K V) : (joinF n l k v h).list = l.list ++ (k, v) :: h.list := by
  induction n generalizing l h with
  | zero => rfl
  | succ n ih =>
    unfold joinF
    split
    · cases l with
      | nil => rfl
      | node a k' v' b => simp only [even_list, ih]; simp [list]
    · split
      · cases h with
        | nil => rfl
        | node a k' v' b => simp only [even_list, ih]; simp [list]
      · rfl
theorem join_list (l : Tr K V) (k : K) (v : V) (h : Tr K V) : (join l k v h).list = l.list ++ (k, v) :: h.list := joinF_list _ _ _ _ _
theorem join_size (l : Tr K V) (k : K) (v : V) (h : Tr K V) : (join l k v h).size = l.size + 1 + h.size := by
  rw [← list_length, join_list, List.length_append, List.length_cons, list_length, list_length]; omega
theorem even_size (l : Tr K V) (k : K) (v : V) (h : Tr K V) : (even l k v h).size = l.size + 1 + h.size := by
  rw [← list_length, even_list, List.length_append, List.length_cons, list_length, list_length]; omega

/-- two trees whose depths differ by two at most -/
theorem even_avl (l : Tr K V) (k : K) (v : V) (h : Tr K V) (hl : l.avl) (hh : h.avl) (h1 : l.depth ≤ h.depth + 2) (h2 : h.depth ≤ l.depth + 2) :
    (even l k v h).avl ∧ max l.depth h.depth ≤ (even l k v h).depth ∧ (even l k v h).depth ≤ max l.depth h.depth + 1 ∧
    (l.depth ≤ h.depth + 1 → h.depth ≤ l.depth + 1 → (even l k v h).depth = max l.depth h.depth + 1) := by
  unfold even
  split
  · rename_i hd
    cases l with
    | nil => simp only [depth] at hd; omega
    | node a k' v' b =>
      simp only [avl, depth] at hl h1 h2 hd
      obtain ⟨ha, hb, hab, hba⟩ := hl
      simp only [leanLow]
      split
      · rename_i hge
        simp only [avl, depth]
        exact ⟨⟨ha, ⟨hb, hh, by omega, by omega⟩, by omega, by omega⟩, by omega, by omega, fun _ _ => by first | omega | trivial⟩
      · rename_i hge
        cases b with
        | nil => simp only [depth] at hge; omega
        | node b1 k2 v2 b2 =>
          simp only [avl, depth] at hb hab hba hge hd h1 ⊢
          obtain ⟨hb1, hb2, h3, h4⟩ := hb
          exact ⟨⟨⟨ha, hb1, by omega, by omega⟩, ⟨hb2, hh, by omega, by omega⟩, by omega, by omega⟩, by omega, by omega, fun _ _ => by first | omega | trivial⟩
  · rename_i hd
    split
    · rename_i hd2
      cases h with
      | nil => simp only [depth] at hd2; omega
      | node a k' v' b =>
        simp only [avl, depth] at hh h1 h2 hd2
        obtain ⟨ha, hb, hab, hba⟩ := hh
        simp only [leanHigh]
        split
        · rename_i hge
          simp only [avl, depth]
          exact ⟨⟨⟨hl, ha, by omega, by omega⟩, hb, by omega, by omega⟩, by omega, by omega, fun _ _ => by first | omega | trivial⟩
        · rename_i hge
          cases a with
          | nil => simp only [depth] at hge; omega
          | node a1 k2 v2 a2 =>
            simp only [avl, depth] at ha hab hba hge hd2 h2 ⊢
            obtain ⟨ha1, ha2, h3, h4⟩ := ha
            exact ⟨⟨⟨hl, ha1, by omega, by omega⟩, ⟨ha2, hb, by omega, by omega⟩, by omega, by omega⟩, by omega, by omega, fun _ _ => by first | omega | trivial⟩
    · rename_i hd2
      simp only [avl, depth]
      exact ⟨⟨hl, hh, by omega, by omega⟩, by omega, by omega, fun _ _ => by first | omega | trivial⟩
theorem joinF_avl (n : Nat) (l : Tr K V) (k : K) (v : V) (h : Tr K V) (hn : l.size + h.size ≤ n) (hl : l.avl) (hh : h.avl) :
    (joinF n l k v h).avl ∧ max l.depth h.depth ≤ (joinF n l k v h).depth ∧ (joinF n l k v h).depth ≤ max l.depth h.depth + 1 := by
  induction n generalizing l h with
  | zero =>
    have h1 : l = nil := by cases l with
      | nil => rfl
      | node => simp only [size] at hn; omega
    have h2 : h = nil := by cases h with
      | nil => rfl
      | node => simp only [size] at hn; omega
    subst h1; subst h2
    simp [joinF, avl, depth]
  | succ n ih =>
    unfold joinF
    split
    · rename_i hd
      cases l with
      | nil => simp only [depth] at hd; omega
      | node a k' v' b =>
        simp only [size] at hn
        simp only [avl, depth] at hl hd
        obtain ⟨ha, hb, hab, hba⟩ := hl
        obtain ⟨j1, j2, j3⟩ := ih b h (by omega) hb hh
        obtain ⟨e1, e2, e3, e4⟩ := even_avl a k' v' (joinF n b k v h) ha j1 (by omega) (by omega)
        refine ⟨e1, ?_, ?_⟩
        · simp only [depth]
          by_cases hc : (joinF n b k v h).depth ≤ a.depth + 1
          · have := e4 (by omega) hc; omega
          · omega
        · simp only [depth]
          omega
    · rename_i hd
      split
      · rename_i hd2
        cases h with
        | nil => simp only [depth] at hd2; omega
        | node a k' v' b =>
          simp only [size] at hn
          simp only [avl, depth] at hh hd2
          obtain ⟨ha, hb, hab, hba⟩ := hh
          obtain ⟨j1, j2, j3⟩ := ih l a (by omega) hl ha
          obtain ⟨e1, e2, e3, e4⟩ := even_avl (joinF n l k v a) k' v' b j1 hb (by omega) (by omega)
          refine ⟨e1, ?_, ?_⟩
          · simp only [depth]
            by_cases hc : (joinF n l k v a).depth ≤ b.depth + 1
            · have := e4 hc (by omega); omega
            · omega
          · simp only [depth]
            omega
      · rename_i hd2
        simp only [avl, depth]
        exact ⟨⟨hl, hh, by omega, by omega⟩, by omega, by omega⟩
theorem join_avl (l : Tr K V) (k : K) (v : V) (h : Tr K V) (hl : l.avl) (hh : h.avl) : (join l k v h).avl := (joinF_avl _ l k v h (Nat.le_refl _) hl hh).1

/-- the last entry, and the tree without it -/
def cut : Tr K V → Tr K V → K → V → Tr K V → Tr K V × K × V
  | _, l, k, v, nil => (l, k, v)
  | _, l, k, v, node a k' v' b => ((join l k v (cut nil a k' v' b).1), (cut nil a k' v' b).2)
theorem cut_list (x l : Tr K V) (k : K) (v : V) (r : Tr K V) : (cut x l k v r).1.list ++ [(cut x l k v r).2] = l.list ++ (k, v) :: r.list := by
  induction r generalizing x l k v with
  | nil => simp [cut, list]
  | node a k' v' b _ ih =>
    simp only [cut, join_list]
    have := ih nil a k' v'
    rw [List.append_assoc, List.cons_append, this]
    rfl
theorem cut_avl (x l : Tr K V) (k : K) (v : V) (r : Tr K V) (hl : l.avl) (hr : r.avl) : (cut x l k v r).1.avl := by
  induction r generalizing x l k v with
  | nil => exact hl
  | node a k' v' b _ ih =>
    simp only [cut]
    exact join_avl _ _ _ _ hl (ih nil a k' v' hr.1 hr.2.1)
def meet : Tr K V → Tr K V → Tr K V
  | nil, h => h
  | node l k v r, h => join (cut nil l k v r).1 (cut nil l k v r).2.1 (cut nil l k v r).2.2 h
theorem meet_list (l h : Tr K V) : (meet l h).list = l.list ++ h.list := by
  cases l with
  | nil => rfl
  | node l k v r =>
    simp only [meet, join_list]
    have := cut_list nil l k v r
    rw [show (node l k v r).list = l.list ++ (k, v) :: r.list from rfl, ← this]
    simp
theorem meet_avl (l h : Tr K V) (hl : l.avl) (hh : h.avl) : (meet l h).avl := by
  cases l with
  | nil => exact hh
  | node l k v r => exact join_avl _ _ _ _ (cut_avl _ _ _ _ _ hl.1 hl.2.1) hh

variable [KOrd K]
def put : Tr K V → K → V → Tr K V
  | nil, k, v => node nil k v nil
  | node l k' v' r, k, v =>
    if KOrd.lt k k' then join (put l k v) k' v' r
    else if KOrd.lt k' k then join l k' v' (put r k v)
    else node l k v r
def without : Tr K V → K → Tr K V × Bool
  | nil, _ => (nil, false)
  | node l k' v' r, k =>
    if KOrd.lt k k' then (if (without l k).2 then (join (without l k).1 k' v' r, true) else (node l k' v' r, false))
    else if KOrd.lt k' k then (if (without r k).2 then (join l k' v' (without r k).1, true) else (node l k' v' r, false))
    else (meet l r, true)
def split : Tr K V → K → Tr K V × Tr K V
  | nil, _ => (nil, nil)
  | node l k' v' r, k =>
    if KOrd.lt k' k then (join l k' v' (split r k).1, (split r k).2)
    else ((split l k).1, join (split l k).2 k' v' r)
def find : Tr K V → K → Option (K × V)
  | nil, _ => none
  | node l k' v' r, k => if KOrd.lt k k' then find l k else if KOrd.lt k' k then find r k else some (k', v')
def rank : Tr K V → K → Nat
  | nil, _ => 0
  | node l k' _ r, k => if KOrd.lt k' k then l.size + 1 + rank r k else rank l k

omit [KOrd K] in
theorem node_avl_depth (l : Tr K V) (k : K) (v : V) (r : Tr K V) (k' : K) (v' : V) (h : (node l k v r).avl) : (node l k' v' r).avl := h
theorem put_avl (t : Tr K V) (k : K) (v : V) (h : t.avl) : (t.put k v).avl := by
  induction t with
  | nil => simp [put, avl, depth]
  | node l k' v' r ihl ihr =>
    unfold put
    split
    · exact join_avl _ _ _ _ (ihl h.1) h.2.1
    · split
      · exact join_avl _ _ _ _ h.1 (ihr h.2.1)
      · exact h
theorem without_avl (t : Tr K V) (k : K) (h : t.avl) : (t.without k).1.avl := by
  induction t with
  | nil => simp [without, avl]
  | node l k' v' r ihl ihr =>
    unfold without
    split
    · split
      · exact join_avl _ _ _ _ (ihl h.1) h.2.1
      · exact h
    · split
      · split
        · exact join_avl _ _ _ _ h.1 (ihr h.2.1)
        · exact h
      · exact meet_avl _ _ h.1 h.2.1
theorem split_avl (t : Tr K V) (k : K) (h : t.avl) : (t.split k).1.avl ∧ (t.split k).2.avl := by
  induction t with
  | nil => simp [split, avl]
  | node l k' v' r ihl ihr =>
    unfold split
    split
    · exact ⟨join_avl _ _ _ _ h.1 (ihr h.2.1).1, (ihr h.2.1).2⟩
    · exact ⟨(ihl h.1).1, join_avl _ _ _ _ (ihl h.1).2 h.2.1⟩
end Tr
end Go.Proofs.Ytbpeeifgfjpghaa
