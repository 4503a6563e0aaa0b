/- Texts laid one behind the other: TPure TList. -/
import Derived.WalkKit
/- The plain side of tree: trees of entries, joined, put into, taken out of, parted; what they hold, how deep they are. -/
namespace Go.Proofs.Ytkejpbfbpomjfab.tre
open Go

/-- an order of keys: a strict weak one -/
class KOrd (K : Type) where
  lt : K → K → Bool
  irr : ∀ a, lt a a = false
  tr : ∀ a b c, lt a b = true → lt b c = true → lt a c = true
  ntr : ∀ a b c, lt a c = true → lt a b = true ∨ lt b c = true

instance : KOrd Int where
  lt a b := decide (a < b)
  irr a := by simp
  tr a b c := by simp; omega
  ntr a b c := by simp; omega

inductive Tr (K V : Type) where
  | nil : Tr K V
  | node (l : Tr K V) (k : K) (v : V) (r : Tr K V) : Tr K V

variable {K V : Type}
namespace Tr
def list : Tr K V → List (K × V)
  | nil => []
  | node l k v r => l.list ++ (k, v) :: r.list
def size : Tr K V → Nat
  | nil => 0
  | node l _ _ r => l.size + 1 + r.size
def depth : Tr K V → Nat
  | nil => 0
  | node l _ _ r => max l.depth r.depth + 1
def avl : Tr K V → Prop
  | nil => True
  | node l _ _ r => l.avl ∧ r.avl ∧ l.depth ≤ r.depth + 1 ∧ r.depth ≤ l.depth + 1

theorem list_length (t : Tr K V) : t.list.length = t.size := by
  induction t with
  | nil => rfl
  | node l k v r ihl ihr => simp [list, size, ihl, ihr]; omega
theorem depth_le_size (t : Tr K V) : t.depth ≤ t.size := by
  induction t with
  | nil => exact Nat.le_refl _
  | node l k v r ihl ihr => simp only [depth, size]; omega

/-- even: where depths may differ by two -/
def leanLow (a : Tr K V) (k' : K) (v' : V) (b : Tr K V) (k : K) (v : V) (h : Tr K V) : Tr K V :=
  if a.depth ≥ b.depth then node a k' v' (node b k v h)
  else match b with
    | nil => node a k' v' (node nil k v h)
    | node b1 k2 v2 b2 => node (node a k' v' b1) k2 v2 (node b2 k v h)
def leanHigh (l : Tr K V) (k : K) (v : V) (a : Tr K V) (k' : K) (v' : V) (b : Tr K V) : Tr K V :=
  if b.depth ≥ a.depth then node (node l k v a) k' v' b
  else match a with
    | nil => node (node l k v nil) k' v' b
    | node a1 k2 v2 a2 => node (node l k v a1) k2 v2 (node a2 k' v' b)
def even (l : Tr K V) (k : K) (v : V) (h : Tr K V) : Tr K V :=
  if l.depth > h.depth + 1 then match l with
    | nil => node nil k v h
    | node a k' v' b => leanLow a k' v' b k v h
  else if h.depth > l.depth + 1 then match h with
    | nil => node l k v nil
    | node a k' v' b => leanHigh l k v a k' v' b
  else node l k v h
def joinF : Nat → Tr K V → K → V → Tr K V → Tr K V
  | 0, l, k, v, h => node l k v h
  | n + 1, l, k, v, h =>
    if l.depth > h.depth + 1 then match l with
      | nil => node nil k v h
      | node a k' v' b => even a k' v' (joinF n b k v h)
    else if h.depth > l.depth + 1 then match h with
      | nil => node l k v nil
      | node a k' v' b => even (joinF n l k v a) k' v' b
    else node l k v h
def join (l : Tr K V) (k : K) (v : V) (h : Tr K V) : Tr K V := joinF (l.size + h.size) l k v h

theorem joinF_any (n m : Nat) (l : Tr K V) (k : K) (v : V) (h : Tr K V) (hn : l.size + h.size ≤ n) (hm : l.size + h.size ≤ m) : joinF n l k v h = joinF m l k v h := by
  induction n generalizing m l h with
  | zero =>
    have h1 : l = nil := by cases l with
      | nil => rfl
      | node => simp only [size] at hn; omega
    have h2 : h = nil := by cases h with
      | nil => rfl
      | node => simp only [size] at hn; omega
    subst h1; subst h2
    cases m <;> simp [joinF, depth]
  | succ n ih =>
    cases m with
    | zero =>
      have h1 : l = nil := by cases l with
        | nil => rfl
        | node => simp only [size] at hm; omega
      have h2 : h = nil := by cases h with
        | nil => rfl
        | node => simp only [size] at hm; omega
      subst h1; subst h2
      simp [joinF, depth]
    | succ m =>
      unfold joinF
      split
      · cases l with
        | nil => rfl
        | node a k' v' b =>
          simp only [size] at hn hm
          simp only []
          rw [ih m b h (by omega) (by omega)]
      · split
        · cases h with
          | nil => rfl
          | node a k' v' b =>
            simp only [size] at hn hm
            simp only []
            rw [ih m l a (by omega) (by omega)]
        · rfl
theorem join_low (a : Tr K V) (k' : K) (v' : V) (b : Tr K V) (k : K) (v : V) (h : Tr K V) (hd : (node a k' v' b).depth > h.depth + 1) :
    join (node a k' v' b) k v h = even a k' v' (join b k v h) := by
  unfold join
  have : (node a k' v' b).size + h.size = (a.size + b.size + h.size) + 1 := by simp only [size]; omega
  rw [this]
  conv => lhs; unfold joinF
  rw [if_pos hd]
  simp only []
  rw [joinF_any (a.size + b.size + h.size) (b.size + h.size) b k v h (by omega) (by omega)]
theorem join_high (l : Tr K V) (k : K) (v : V) (a : Tr K V) (k' : K) (v' : V) (b : Tr K V) (hl : ¬ l.depth > (node a k' v' b).depth + 1) (hd : (node a k' v' b).depth > l.depth + 1) :
    join l k v (node a k' v' b) = even (join l k v a) k' v' b := by
  unfold join
  have : l.size + (node a k' v' b).size = (l.size + a.size + b.size) + 1 := by simp only [size]; omega
  rw [this]
  conv => lhs; unfold joinF
  rw [if_neg hl, if_pos hd]
  simp only []
  rw [joinF_any (l.size + a.size + b.size) (l.size + a.size) l k v a (by omega) (by omega)]
theorem join_over (l : Tr K V) (k : K) (v : V) (h : Tr K V) (hl : ¬ l.depth > h.depth + 1) (hd : ¬ h.depth > l.depth + 1) : join l k v h = node l k v h := by
  unfold join
  cases l.size + h.size with
  | zero => rfl
  | succ n =>
    conv => lhs; unfold joinF
    rw [if_neg hl, if_neg hd]

theorem leanLow_list (a : Tr K V) (k' : K) (v' : V) (b : Tr K V) (k : K) (v : V) (h : Tr K V) : (leanLow a k' v' b k v h).list = a.list ++ (k', v') :: (b.list ++ (k, v) :: h.list) := by
  unfold leanLow
  split
  · simp [list]
  · cases b <;> simp [list]
theorem leanHigh_list (l : Tr K V) (k : K) (v : V) (a : Tr K V) (k' : K) (v' : V) (b : Tr K V) : (leanHigh l k v a k' v' b).list = l.list ++ (k, v) :: (a.list ++ (k', v') :: b.list) := by
  unfold leanHigh
  split
  · simp [list]
  · cases a <;> simp [list]
theorem even_list (l : Tr K V) (k : K) (v : V) (h : Tr K V) : (even l k v h).list = l.list ++ (k, v) :: h.list := by
  unfold even
  split
  · cases l with
    | nil => rfl
    | node a k' v' b => simp only [leanLow_list]; simp [list]
  · split
    · cases h with
      | nil => rfl
      | node a k' v' b => simp only [leanHigh_list]; simp [list]
    · rfl
theorem joinF_list (n : Nat) (l : Tr K V) (k : K) (v : V) (h : Tr K V) : (joinF n l k v h).list = l.list ++ (k, v) :: h.list := by
  induction n generalizing l h with
  | zero => rfl
  | succ n ih =>
    unfold joinF
    split
    · cases l with
      | nil => rfl
      | node a k' v' b => simp only [even_list, ih]; simp [list]
    · split
      · cases h with
        | nil => rfl
        | node a k' v' b => simp only [even_list, ih]; simp [list]
      · rfl
theorem join_list (l : Tr K V) (k : K) (v : V) (h : Tr K V) : (join l k v h).list = l.list ++ (k, v) :: h.list := joinF_list _ _ _ _ _
theorem join_size (l : Tr K V) (k : K) (v : V) (h : Tr K V) : (join l k v h).size = l.size + 1 + h.size := by
  rw [← list_length, join_list, List.length_append, List.length_cons, list_length, list_length]; omega
theorem even_size (l : Tr K V) (k : K) (v : V) (h : Tr K V) : (even l k v h).size = l.size + 1 + h.size := by
  rw [← list_length, even_list, List.length_append, List.length_cons, list_length, list_length]; omega

/-- two trees whose depths differ by two at most -/
theorem even_avl (l : Tr K V) (k : K) (v : V) (h : Tr K V) (hl : l.avl) (hh : h.avl) (h1 : l.depth ≤ h.depth + 2) (h2 : h.depth ≤ l.depth + 2) :
    (even l k v h).avl ∧ max l.depth h.depth ≤ (even l k v h).depth ∧ (even l k v h).depth ≤ max l.depth h.depth + 1 ∧
    (l.depth ≤ h.depth + 1 → h.depth ≤ l.depth + 1 → (even l k v h).depth = max l.depth h.depth + 1) := by
  unfold even
  split
  · rename_i hd
    cases l with
    | nil => simp only [depth] at hd; omega
    | node a k' v' b =>
      simp only [avl, depth] at hl h1 h2 hd
      obtain ⟨ha, hb, hab, hba⟩ := hl
      simp only [leanLow]
      split
      · rename_i hge
        simp only [avl, depth]
        exact ⟨⟨ha, ⟨hb, hh, by omega, by omega⟩, by omega, by omega⟩, by omega, by omega, fun _ _ => by first | omega | trivial⟩
      · rename_i hge
        cases b with
        | nil => simp only [depth] at hge; omega
        | node b1 k2 v2 b2 =>
          simp only [avl, depth] at hb hab hba hge hd h1 ⊢
          obtain ⟨hb1, hb2, h3, h4⟩ := hb
          exact ⟨⟨⟨ha, hb1, by omega, by omega⟩, ⟨hb2, hh, by omega, by omega⟩, by omega, by omega⟩, by omega, by omega, fun _ _ => by first | omega | trivial⟩
  · rename_i hd
    split
    · rename_i hd2
      cases h with
      | nil => simp only [depth] at hd2; omega
      | node a k' v' b =>
        simp only [avl, depth] at hh h1 h2 hd2
        obtain ⟨ha, hb, hab, hba⟩ := hh
        simp only [leanHigh]
        split
        · rename_i hge
          simp only [avl, depth]
          exact ⟨⟨⟨hl, ha, by omega, by omega⟩, hb, by omega, by omega⟩, by omega, by omega, fun _ _ => by first | omega | trivial⟩
        · rename_i hge
          cases a with
          | nil => simp only [depth] at hge; omega
          | node a1 k2 v2 a2 =>
            simp only [avl, depth] at ha hab hba hge hd2 h2 ⊢
            obtain ⟨ha1, ha2, h3, h4⟩ := ha
            exact ⟨⟨⟨hl, ha1, by omega, by omega⟩, ⟨ha2, hb, by omega, by omega⟩, by omega, by omega⟩, by omega, by omega, fun _ _ => by first | omega | trivial⟩
    · rename_i hd2
      simp only [avl, depth]
      exact ⟨⟨hl, hh, by omega, by omega⟩, by omega, by omega, fun _ _ => by first | omega | trivial⟩
theorem joinF_avl (n : Nat) (l : Tr K V) (k : K) (v : V) (h : Tr K V) (hn : l.size + h.size ≤ n) (hl : l.avl) (hh : h.avl) :
    (joinF n l k v h).avl ∧ max l.depth h.depth ≤ (joinF n l k v h).depth ∧ (joinF n l k v h).depth ≤ max l.depth h.depth + 1 := by
  induction n generalizing l h with
  | zero =>
    have h1 : l = nil := by cases l with
      | nil => rfl
      | node => simp only [size] at hn; omega
    have h2 : h = nil := by cases h with
      | nil => rfl
      | node => simp only [size] at hn; omega
    subst h1; subst h2
    simp [joinF, avl, depth]
  | succ n ih =>
    unfold joinF
    split
    · rename_i hd
      cases l with
      | nil => simp only [depth] at hd; omega
      | node a k' v' b =>
        simp only [size] at hn
        simp only [avl, depth] at hl hd
        obtain ⟨ha, hb, hab, hba⟩ := hl
        obtain ⟨j1, j2, j3⟩ := ih b h (by omega) hb hh
        obtain ⟨e1, e2, e3, e4⟩ := even_avl a k' v' (joinF n b k v h) ha j1 (by omega) (by omega)
        refine ⟨e1, ?_, ?_⟩
        · simp only [depth]
          by_cases hc : (joinF n b k v h).depth ≤ a.depth + 1
          · have := e4 (by omega) hc; omega
          · omega
        · simp only [depth]
          omega
    · rename_i hd
      split
      · rename_i hd2
        cases h with
        | nil => simp only [depth] at hd2; omega
        | node a k' v' b =>
          simp only [size] at hn
          simp only [avl, depth] at hh hd2
          obtain ⟨ha, hb, hab, hba⟩ := hh
          obtain ⟨j1, j2, j3⟩ := ih l a (by omega) hl ha
          obtain ⟨e1, e2, e3, e4⟩ := even_avl (joinF n l k v a) k' v' b j1 hb (by omega) (by omega)
          refine ⟨e1, ?_, ?_⟩
          · simp only [depth]
            by_cases hc : (joinF n l k v a).depth ≤ b.depth + 1
            · have := e4 hc (by omega); omega
            · omega
          · simp only [depth]
            omega
      · rename_i hd2
        simp only [avl, depth]
        exact ⟨⟨hl, hh, by omega, by omega⟩, by omega, by omega⟩
theorem join_avl (l : Tr K V) (k : K) (v : V) (h : Tr K V) (hl : l.avl) (hh : h.avl) : (join l k v h).avl := (joinF_avl _ l k v h (Nat.le_refl _) hl hh).1

/-- the last entry, and the tree without it -/
def cut : Tr K V → Tr K V → K → V → Tr K V → Tr K V × K × V
  | _, l, k, v, nil => (l, k, v)
  | _, l, k, v, node a k' v' b => ((join l k v (cut nil a k' v' b).1), (cut nil a k' v' b).2)
theorem cut_list (x l : Tr K V) (k : K) (v : V) (r : Tr K V) : (cut x l k v r).1.list ++ [(cut x l k v r).2] = l.list ++ (k, v) :: r.list := by
  induction r generalizing x l k v with
  | nil => simp [cut, list]
  | node a k' v' b _ ih =>
    simp only [cut, join_list]
    have := ih nil a k' v'
    rw [List.append_assoc, List.cons_append, this]
    rfl
theorem cut_avl (x l : Tr K V) (k : K) (v : V) (r : Tr K V) (hl : l.avl) (hr : r.avl) : (cut x l k v r).1.avl := by
  induction r generalizing x l k v with
  | nil => exact hl
  | node a k' v' b _ ih =>
    simp only [cut]
    exact join_avl _ _ _ _ hl (ih nil a k' v' hr.1 hr.2.1)
def meet : Tr K V → Tr K V → Tr K V
  | nil, h => h
  | node l k v r, h => join (cut nil l k v r).1 (cut nil l k v r).2.1 (cut nil l k v r).2.2 h
theorem meet_list (l h : Tr K V) : (meet l h).list = l.list ++ h.list := by
  cases l with
  | nil => rfl
  | node l k v r =>
    simp only [meet, join_list]
    have := cut_list nil l k v r
    rw [show (node l k v r).list = l.list ++ (k, v) :: r.list from rfl, ← this]
    simp
theorem meet_avl (l h : Tr K V) (hl : l.avl) (hh : h.avl) : (meet l h).avl := by
  cases l with
  | nil => exact hh
  | node l k v r => exact join_avl _ _ _ _ (cut_avl _ _ _ _ _ hl.1 hl.2.1) hh

variable [KOrd K]
def put : Tr K V → K → V → Tr K V
  | nil, k, v => node nil k v nil
  | node l k' v' r, k, v =>
    if KOrd.lt k k' then join (put l k v) k' v' r
    else if KOrd.lt k' k then join l k' v' (put r k v)
    else node l k v r
def without : Tr K V → K → Tr K V × Bool
  | nil, _ => (nil, false)
  | node l k' v' r, k =>
    if KOrd.lt k k' then (if (without l k).2 then (join (without l k).1 k' v' r, true) else (node l k' v' r, false))
    else if KOrd.lt k' k then (if (without r k).2 then (join l k' v' (without r k).1, true) else (node l k' v' r, false))
    else (meet l r, true)
def split : Tr K V → K → Tr K V × Tr K V
  | nil, _ => (nil, nil)
  | node l k' v' r, k =>
    if KOrd.lt k' k then (join l k' v' (split r k).1, (split r k).2)
    else ((split l k).1, join (split l k).2 k' v' r)
def find : Tr K V → K → Option (K × V)
  | nil, _ => none
  | node l k' v' r, k => if KOrd.lt k k' then find l k else if KOrd.lt k' k then find r k else some (k', v')
def rank : Tr K V → K → Nat
  | nil, _ => 0
  | node l k' _ r, k => if KOrd.lt k' k then l.size + 1 + rank r k else rank l k

omit [KOrd K] in
theorem node_avl_depth (l : Tr K V) (k : K) (v : V) (r : Tr K V) (k' : K) (v' : V) (h : (node l k v r).avl) : (node l k' v' r).avl := h
theorem put_avl (t : Tr K V) (k : K) (v : V) (h : t.avl) : (t.put k v).avl := by
  induction t with
  | nil => simp [put, avl, depth]
  | node l k' v' r ihl ihr =>
    unfold put
    split
    · exact join_avl _ _ _ _ (ihl h.1) h.2.1
    · split
      · exact join_avl _ _ _ _ h.1 (ihr h.2.1)
      · exact h
theorem without_avl (t : Tr K V) (k : K) (h : t.avl) : (t.without k).1.avl := by
  induction t with
  | nil => simp [without, avl]
  | node l k' v' r ihl ihr =>
    unfold without
    split
    · split
      · exact join_avl _ _ _ _ (ihl h.1) h.2.1
      · exact h
    · split
      · split
        · exact join_avl _ _ _ _ h.1 (ihr h.2.1)
        · exact h
      · exact meet_avl _ _ h.1 h.2.1
theorem split_avl (t : Tr K V) (k : K) (h : t.avl) : (t.split k).1.avl ∧ (t.split k).2.avl := by
  induction t with
  | nil => simp [split, avl]
  | node l k' v' r ihl ihr =>
    unfold split
    split
    · exact ⟨join_avl _ _ _ _ h.1 (ihr h.2.1).1, (ihr h.2.1).2⟩
    · exact ⟨(ihl h.1).1, join_avl _ _ _ _ (ihl h.1).2 h.2.1⟩
end Tr
end Go.Proofs.Ytkejpbfbpomjfab.tre

/- The plain side of tree, second part: what calls make of the row of a tree whose keys rise. -/
namespace Go.Proofs.Ytkejpbfbpomjfab.tre
open Go

variable {K V : Type} [KOrd K]
abbrev klt (a b : K) : Bool := KOrd.lt a b
theorem klt_irr (a : K) : klt a a = false := KOrd.irr a
theorem klt_tr {a b c : K} (h : klt a b = true) (h2 : klt b c = true) : klt a c = true := KOrd.tr _ _ _ h h2
theorem klt_asym {a b : K} (h : klt a b = true) : klt b a = false := by
  cases h2 : klt b a with
  | false => rfl
  | true => have := klt_tr h h2; rw [klt_irr] at this; cases this
/-- below x, x not behind c -/
theorem klt_ntr {a b c : K} (h : klt a b = true) (h2 : klt c b = false) : klt a c = true := by
  rcases KOrd.ntr a c b h with h1 | h1
  · exact h1
  · have : klt c b = true := h1
    rw [h2] at this; cases this
theorem klt_ntr' {a b c : K} (h : klt a b = true) (h2 : klt a c = false) : klt c b = true := by
  rcases KOrd.ntr a c b h with h1 | h1
  · have : klt a c = true := h1
    rw [h2] at this; cases this
  · exact h1

def Rise (L : List (K × V)) : Prop := L.Pairwise (fun a b => klt a.1 b.1 = true)
def lowL (k : K) (L : List (K × V)) : List (K × V) := L.filter (fun x => klt x.1 k)
def restL (k : K) (L : List (K × V)) : List (K × V) := L.filter (fun x => !klt x.1 k)
def highL (k : K) (L : List (K × V)) : List (K × V) := L.filter (fun x => klt k x.1)

theorem lowL_append (k : K) (A B : List (K × V)) : lowL k (A ++ B) = lowL k A ++ lowL k B := by simp [lowL]
theorem restL_append (k : K) (A B : List (K × V)) : restL k (A ++ B) = restL k A ++ restL k B := by simp [restL]
theorem highL_append (k : K) (A B : List (K × V)) : highL k (A ++ B) = highL k A ++ highL k B := by simp [highL]
theorem lowL_all {k : K} {A : List (K × V)} (h : ∀ x ∈ A, klt x.1 k = true) : lowL k A = A := List.filter_eq_self.2 h
theorem lowL_none {k : K} {A : List (K × V)} (h : ∀ x ∈ A, klt x.1 k = false) : lowL k A = [] := by
  unfold lowL; rw [List.filter_eq_nil_iff]; intro x hx; simp [h x hx]
theorem restL_all {k : K} {A : List (K × V)} (h : ∀ x ∈ A, klt x.1 k = false) : restL k A = A := List.filter_eq_self.2 (fun x hx => by simp [h x hx])
theorem restL_none {k : K} {A : List (K × V)} (h : ∀ x ∈ A, klt x.1 k = true) : restL k A = [] := by
  unfold restL; rw [List.filter_eq_nil_iff]; intro x hx; simp [h x hx]
theorem highL_all {k : K} {A : List (K × V)} (h : ∀ x ∈ A, klt k x.1 = true) : highL k A = A := List.filter_eq_self.2 h
theorem highL_none {k : K} {A : List (K × V)} (h : ∀ x ∈ A, klt k x.1 = false) : highL k A = [] := by
  unfold highL; rw [List.filter_eq_nil_iff]; intro x hx; simp [h x hx]

theorem rise_node {A B : List (K × V)} {e : K × V} (h : Rise (A ++ e :: B)) : Rise A ∧ Rise B ∧ (∀ x ∈ A, klt x.1 e.1 = true) ∧ (∀ x ∈ B, klt e.1 x.1 = true) := by
  unfold Rise at h
  rw [List.pairwise_append, List.pairwise_cons] at h
  exact ⟨h.1, h.2.1.2, fun x hx => h.2.2 x hx e (List.mem_cons_self ..), h.2.1.1⟩
theorem rise_append {A B : List (K × V)} (hA : Rise A) (hB : Rise B) (h : ∀ x ∈ A, ∀ y ∈ B, klt x.1 y.1 = true) : Rise (A ++ B) := by
  unfold Rise at *
  rw [List.pairwise_append]
  exact ⟨hA, hB, h⟩
theorem rise_low {L : List (K × V)} (k : K) (h : Rise L) : Rise (lowL k L) := List.Pairwise.filter _ h
theorem rise_rest {L : List (K × V)} (k : K) (h : Rise L) : Rise (restL k L) := List.Pairwise.filter _ h
theorem rise_high {L : List (K × V)} (k : K) (h : Rise L) : Rise (highL k L) := List.Pairwise.filter _ h
theorem mem_low {k : K} {L : List (K × V)} {x : K × V} (h : x ∈ lowL k L) : klt x.1 k = true := (List.mem_filter.1 h).2
theorem mem_rest {k : K} {L : List (K × V)} {x : K × V} (h : x ∈ restL k L) : klt x.1 k = false := by simpa using (List.mem_filter.1 h).2
theorem mem_high {k : K} {L : List (K × V)} {x : K × V} (h : x ∈ highL k L) : klt k x.1 = true := (List.mem_filter.1 h).2

/-- the entries below a key, then the others -/
theorem low_rest {L : List (K × V)} (k : K) (h : Rise L) : lowL k L ++ restL k L = L := by
  induction L with
  | nil => rfl
  | cons e L ih =>
    have h' := rise_node (A := []) h
    cases hk : klt e.1 k with
    | true =>
      have := ih h'.2.1
      simp [lowL, restL, hk] at this ⊢
      exact this
    | false =>
      have hz : ∀ x ∈ e :: L, klt x.1 k = false := by
        intro x hx
        rcases List.mem_cons.1 hx with rfl | hx
        · exact hk
        · cases hx2 : klt x.1 k with
          | false => rfl
          | true => have := klt_tr (h'.2.2.2 x hx) hx2; rw [hk] at this; cases this
      rw [lowL_none hz, restL_all hz]; rfl

namespace Tr
theorem put_list (t : Tr K V) (k : K) (v : V) (h : Rise t.list) : (t.put k v).list = lowL k t.list ++ (k, v) :: highL k t.list := by
  induction t with
  | nil => rfl
  | node l k' v' r ihl ihr =>
    obtain ⟨hl, hr, h1, h2⟩ := rise_node (A := l.list) (B := r.list) h
    unfold put
    simp only [] at h1 h2
    split
    · rename_i hk
      replace hk : klt k k' = true := hk
      rw [join_list, ihl hl]
      simp only [list, lowL_append, highL_append]
      rw [lowL_none (A := (k', v') :: r.list) (by
          intro x hx
          rcases List.mem_cons.1 hx with rfl | hx
          · exact klt_asym hk
          · exact klt_asym (klt_tr hk (h2 x hx))),
        highL_all (A := (k', v') :: r.list) (by
          intro x hx
          rcases List.mem_cons.1 hx with rfl | hx
          · exact hk
          · exact klt_tr hk (h2 x hx))]
      simp
    · rename_i hk0
      split
      · rename_i hk
        replace hk : klt k' k = true := hk
        rw [join_list, ihr hr]
        simp only [list]
        rw [show l.list ++ (k', v') :: r.list = (l.list ++ [(k', v')]) ++ r.list by simp, lowL_append, highL_append,
          lowL_all (A := l.list ++ [(k', v')]) (by
            intro x hx
            rcases List.mem_append.1 hx with hx | hx
            · exact klt_tr (h1 x hx) hk
            · rw [List.mem_singleton] at hx; subst hx; exact hk),
          highL_none (A := l.list ++ [(k', v')]) (by
            intro x hx
            rcases List.mem_append.1 hx with hx | hx
            · exact klt_asym (klt_tr (h1 x hx) hk)
            · rw [List.mem_singleton] at hx; subst hx; exact klt_asym hk)]
        simp
      · rename_i hk1
        replace hk0 : klt k k' = false := by simpa using hk0
        replace hk1 : klt k' k = false := by simpa using hk1
        simp only [list, lowL_append, highL_append]
        rw [lowL_all (A := l.list) (fun x hx => klt_ntr (h1 x hx) hk0), highL_none (A := l.list) (fun x hx => klt_asym (klt_ntr (h1 x hx) hk0)),
          lowL_none (A := (k', v') :: r.list) (by
            intro x hx
            rcases List.mem_cons.1 hx with rfl | hx
            · exact hk1
            · exact klt_asym (klt_ntr' (h2 x hx) hk1)),
          show highL k ((k', v') :: r.list) = highL k [(k', v')] ++ highL k r.list from highL_append k [(k', v')] r.list,
          highL_none (A := [(k', v')]) (by intro x hx; rw [List.mem_singleton] at hx; subst hx; exact hk0),
          highL_all (A := r.list) (fun x hx => klt_ntr' (h2 x hx) hk1)]
        simp

theorem split_list (t : Tr K V) (k : K) (h : Rise t.list) : (t.split k).1.list = lowL k t.list ∧ (t.split k).2.list = restL k t.list := by
  induction t with
  | nil => exact ⟨rfl, rfl⟩
  | node l k' v' r ihl ihr =>
    obtain ⟨hl, hr, h1, h2⟩ := rise_node (A := l.list) (B := r.list) h
    simp only [] at h1 h2
    unfold split
    split
    · rename_i hk
      replace hk : klt k' k = true := hk
      have hz : ∀ x ∈ l.list ++ [(k', v')], klt x.1 k = true := by
        intro x hx
        rcases List.mem_append.1 hx with hx | hx
        · exact klt_tr (h1 x hx) hk
        · rw [List.mem_singleton] at hx; subst hx; exact hk
      simp only [join_list, list]
      rw [show l.list ++ (k', v') :: r.list = (l.list ++ [(k', v')]) ++ r.list by simp, lowL_append, restL_append, lowL_all hz, restL_none hz, (ihr hr).1, (ihr hr).2]
      simp
    · rename_i hk
      replace hk : klt k' k = false := by simpa using hk
      have hz : ∀ x ∈ (k', v') :: r.list, klt x.1 k = false := by
        intro x hx
        rcases List.mem_cons.1 hx with rfl | hx
        · exact hk
        · cases hx2 : klt x.1 k with
          | false => rfl
          | true => have := klt_tr (h2 x hx) hx2; rw [hk] at this; cases this
      simp only [join_list, list]
      rw [lowL_append, restL_append, lowL_none hz, restL_all hz, (ihl hl).1, (ihl hl).2]
      simp

/-- is there an entry of this key? -/
def has (L : List (K × V)) (k : K) : Bool := L.any (fun x => !klt x.1 k && !klt k x.1)
theorem has_append (A B : List (K × V)) (k : K) : has (A ++ B) k = (has A k || has B k) := by simp [has]
theorem has_low {A : List (K × V)} {k : K} (h : ∀ x ∈ A, klt x.1 k = true) : has A k = false := by
  unfold has; rw [List.any_eq_false]; intro x hx; simp [h x hx]
theorem has_high {A : List (K × V)} {k : K} (h : ∀ x ∈ A, klt k x.1 = true) : has A k = false := by
  unfold has; rw [List.any_eq_false]; intro x hx; simp [h x hx]

theorem without_list (t : Tr K V) (k : K) (h : Rise t.list) : (t.without k).1.list = lowL k t.list ++ highL k t.list ∧ (t.without k).2 = has t.list k := by
  induction t with
  | nil => exact ⟨rfl, rfl⟩
  | node l k' v' r ihl ihr =>
    obtain ⟨hl, hr, h1, h2⟩ := rise_node (A := l.list) (B := r.list) h
    simp only [] at h1 h2
    have hnone : ∀ {A : List (K × V)}, has A k = false → Rise A → lowL k A ++ highL k A = A := by
      intro A hA hR
      have h3 := low_rest k hR
      have h4 : highL k A = restL k A := by
        unfold highL restL
        apply List.filter_congr
        intro x hx
        have := (List.any_eq_false.1 hA) x hx
        simp at this
        cases hx1 : klt x.1 k with
        | true => exact klt_asym hx1
        | false => simpa using this hx1
      rw [h4, h3]
    unfold without
    split
    · rename_i hk
      replace hk : klt k k' = true := hk
      have hz : ∀ x ∈ (k', v') :: r.list, klt k x.1 = true := by
        intro x hx
        rcases List.mem_cons.1 hx with rfl | hx
        · exact hk
        · exact klt_tr hk (h2 x hx)
      obtain ⟨i1, i2⟩ := ihl hl
      split
      · rename_i hb
        simp only [join_list, list]
        rw [i1, lowL_append, highL_append, has_append, lowL_none (fun x hx => klt_asym (hz x hx)), highL_all hz, ← i2, hb]
        simp
      · rename_i hb
        have hb' : has l.list k = false := by rw [← i2]; simpa using hb
        have hb2 : has (l.list ++ (k', v') :: r.list) k = false := by rw [has_append, hb', has_high hz]; rfl
        exact ⟨(hnone hb2 h).symm, hb2.symm⟩
    · rename_i hk0
      split
      · rename_i hk
        replace hk : klt k' k = true := hk
        have hz : ∀ x ∈ l.list ++ [(k', v')], klt x.1 k = true := by
          intro x hx
          rcases List.mem_append.1 hx with hx | hx
          · exact klt_tr (h1 x hx) hk
          · rw [List.mem_singleton] at hx; subst hx; exact hk
        obtain ⟨i1, i2⟩ := ihr hr
        have hsp : l.list ++ (k', v') :: r.list = (l.list ++ [(k', v')]) ++ r.list := by simp
        split
        · rename_i hb
          simp only [join_list, list]
          rw [i1, hsp, lowL_append, highL_append, has_append, lowL_all hz, highL_none (fun x hx => klt_asym (hz x hx)), ← i2, hb]
          simp
        · rename_i hb
          have hb' : has r.list k = false := by rw [← i2]; simpa using hb
          have hb2 : has (l.list ++ (k', v') :: r.list) k = false := by rw [hsp, has_append, hb', has_low hz]; rfl
          exact ⟨(hnone hb2 h).symm, hb2.symm⟩
      · rename_i hk1
        replace hk0 : klt k k' = false := by simpa using hk0
        replace hk1 : klt k' k = false := by simpa using hk1
        simp only [meet_list, list, lowL_append, highL_append, has_append]
        rw [lowL_all (A := l.list) (fun x hx => klt_ntr (h1 x hx) hk0), highL_none (A := l.list) (fun x hx => klt_asym (klt_ntr (h1 x hx) hk0)),
          lowL_none (A := (k', v') :: r.list) (by
            intro x hx
            rcases List.mem_cons.1 hx with rfl | hx
            · exact hk1
            · exact klt_asym (klt_ntr' (h2 x hx) hk1)),
          show highL k ((k', v') :: r.list) = highL k [(k', v')] ++ highL k r.list from highL_append k [(k', v')] r.list,
          highL_none (A := [(k', v')]) (by intro x hx; rw [List.mem_singleton] at hx; subst hx; exact hk0),
          highL_all (A := r.list) (fun x hx => klt_ntr' (h2 x hx) hk1)]
        refine ⟨by simp, ?_⟩
        have : has ((k', v') :: r.list) k = true := by simp [has, hk0, hk1]
        rw [this]; simp

theorem rank_list (t : Tr K V) (k : K) (h : Rise t.list) : t.rank k = (lowL k t.list).length := by
  induction t with
  | nil => rfl
  | node l k' v' r ihl ihr =>
    obtain ⟨hl, hr, h1, h2⟩ := rise_node (A := l.list) (B := r.list) h
    simp only [] at h1 h2
    unfold rank
    split
    · rename_i hk
      replace hk : klt k' k = true := hk
      have hz : ∀ x ∈ l.list ++ [(k', v')], klt x.1 k = true := by
        intro x hx
        rcases List.mem_append.1 hx with hx | hx
        · exact klt_tr (h1 x hx) hk
        · rw [List.mem_singleton] at hx; subst hx; exact hk
      rw [ihr hr, show (node l k' v' r).list = (l.list ++ [(k', v')]) ++ r.list by simp [list], lowL_append, lowL_all hz]
      simp only [List.length_append, list_length, List.length_singleton]
    · rename_i hk
      replace hk : klt k' k = false := by simpa using hk
      have hz : ∀ x ∈ (k', v') :: r.list, klt x.1 k = false := by
        intro x hx
        rcases List.mem_cons.1 hx with rfl | hx
        · exact hk
        · cases hx2 : klt x.1 k with
          | false => rfl
          | true => have := klt_tr (h2 x hx) hx2; rw [hk] at this; cases this
      rw [ihl hl, show (node l k' v' r).list = l.list ++ (k', v') :: r.list from rfl, lowL_append, lowL_none hz]
      simp

/-- the entry at a place -/
def at' : Tr K V → Int → Option (K × V)
  | nil, _ => none
  | node l k v r, i => if i = l.size then some (k, v) else if i > l.size then at' r (i - (l.size + 1)) else at' l i
omit [KOrd K] in
theorem at_list (t : Tr K V) (i : Int) : t.at' i = if 0 ≤ i then t.list[i.toNat]? else none := by
  induction t generalizing i with
  | nil => unfold at'; split <;> simp [list]
  | node l k v r ihl ihr =>
    unfold at'
    split
    · rename_i hi
      subst hi
      simp [list, ← list_length]
    · rename_i hi
      split
      · rename_i hg
        rw [ihr, if_pos (by omega), if_pos (by omega)]
        simp only [list]
        rw [List.getElem?_append_right (by rw [list_length]; omega), list_length]
        have : i.toNat - l.size = (i - (l.size + 1)).toNat + 1 := by omega
        rw [this, List.getElem?_cons_succ]
      · rename_i hg
        rw [ihl]
        split
        · rename_i h0
          simp only [list]
          rw [List.getElem?_append_left (by rw [list_length]; omega)]
        · rfl

/-- the entry of a key -/
theorem find_list (t : Tr K V) (k : K) (h : Rise t.list) : t.find k = match (restL k t.list).head? with
    | some e => if klt k e.1 then none else some e
    | none => none := by
  induction t with
  | nil => rfl
  | node l k' v' r ihl ihr =>
    obtain ⟨hl, hr, h1, h2⟩ := rise_node (A := l.list) (B := r.list) h
    simp only [] at h1 h2
    unfold find
    split
    · rename_i hk
      replace hk : klt k k' = true := hk
      have hz : ∀ x ∈ (k', v') :: r.list, klt x.1 k = false := by
        intro x hx
        rcases List.mem_cons.1 hx with rfl | hx
        · exact klt_asym hk
        · exact klt_asym (klt_tr hk (h2 x hx))
      rw [ihl hl, show (node l k' v' r).list = l.list ++ (k', v') :: r.list from rfl, restL_append, restL_all hz]
      cases hR : restL k l.list with
      | nil => simp [hk]
      | cons a b => simp
    · rename_i hk0
      split
      · rename_i hk
        replace hk : klt k' k = true := hk
        have hz : ∀ x ∈ l.list ++ [(k', v')], klt x.1 k = true := by
          intro x hx
          rcases List.mem_append.1 hx with hx | hx
          · exact klt_tr (h1 x hx) hk
          · rw [List.mem_singleton] at hx; subst hx; exact hk
        rw [ihr hr, show (node l k' v' r).list = (l.list ++ [(k', v')]) ++ r.list by simp [list], restL_append, restL_none hz]
        simp
      · rename_i hk1
        replace hk0 : klt k k' = false := by simpa using hk0
        replace hk1 : klt k' k = false := by simpa using hk1
        rw [show (node l k' v' r).list = l.list ++ (k', v') :: r.list from rfl, restL_append, restL_none (A := l.list) (fun x hx => klt_ntr (h1 x hx) hk0)]
        have : restL k ((k', v') :: r.list) = (k', v') :: restL k r.list := by simp [restL, hk1]
        rw [this]
        simp [hk0]

theorem rise_put (t : Tr K V) (k : K) (v : V) (h : Rise t.list) : Rise (t.put k v).list := by
  rw [put_list t k v h]
  refine rise_append (rise_low k h) ?_ ?_
  · unfold Rise; rw [List.pairwise_cons]; exact ⟨fun x hx => mem_high hx, rise_high k h⟩
  · intro x hx y hy
    rcases List.mem_cons.1 hy with rfl | hy
    · exact mem_low hx
    · exact klt_tr (mem_low hx) (mem_high hy)
theorem rise_without (t : Tr K V) (k : K) (h : Rise t.list) : Rise (t.without k).1.list := by
  rw [(without_list t k h).1]
  exact rise_append (rise_low k h) (rise_high k h) (fun x hx y hy => klt_tr (mem_low hx) (mem_high hy))
theorem rise_split (t : Tr K V) (k : K) (h : Rise t.list) : Rise (t.split k).1.list ∧ Rise (t.split k).2.list := by
  rw [(split_list t k h).1, (split_list t k h).2]
  exact ⟨rise_low k h, rise_rest k h⟩
/-- the keys of a are all below those of b -/
def Apt (a b : List (K × V)) : Prop := match a.getLast?, b.head? with
  | some x, some y => klt x.1 y.1 = true
  | _, _ => True
theorem apt_all {a b : List (K × V)} (ha : Rise a) (hb : Rise b) (h : Apt a b) : ∀ x ∈ a, ∀ y ∈ b, klt x.1 y.1 = true := by
  intro x hx y hy
  cases b with
  | nil => cases hy
  | cons y0 b =>
    rcases List.eq_nil_or_concat a with rfl | ⟨a', x0, rfl⟩
    · cases hx
    · have hxy : klt x0.1 y0.1 = true := by simpa [Apt] using h
      have hxx : x = x0 ∨ klt x.1 x0.1 = true := by
        rw [List.concat_eq_append] at hx
        rcases List.mem_append.1 hx with hx | hx
        · right
          unfold Rise at ha
          rw [List.concat_eq_append, List.pairwise_append] at ha
          exact ha.2.2 x hx x0 (List.mem_singleton.2 rfl)
        · left; simpa using hx
      have hyy : y = y0 ∨ klt y0.1 y.1 = true := by
        rcases List.mem_cons.1 hy with rfl | hy
        · left; rfl
        · right; unfold Rise at hb; rw [List.pairwise_cons] at hb; exact hb.1 y hy
      have h3 : klt x.1 y0.1 = true := by
        rcases hxx with rfl | hxx
        · exact hxy
        · exact klt_tr hxx hxy
      rcases hyy with rfl | hyy
      · exact h3
      · exact klt_tr h3 hyy
theorem rise_meet (a b : Tr K V) (ha : Rise a.list) (hb : Rise b.list) (h : Apt a.list b.list) : Rise (meet a b).list := by
  rw [meet_list]
  exact rise_append ha hb (apt_all ha hb h)

omit [KOrd K] in
/-- how deep a tree of so many entries can be -/
theorem size_le (t : Tr K V) : t.size + 1 ≤ 2 ^ t.depth := by
  induction t with
  | nil => simp [size, depth]
  | node l k v r ihl ihr =>
    simp only [size, depth]
    have h1 : 2 ^ l.depth ≤ 2 ^ max l.depth r.depth := Nat.pow_le_pow_right (by omega) (by omega)
    have h2 : 2 ^ r.depth ≤ 2 ^ max l.depth r.depth := Nat.pow_le_pow_right (by omega) (by omega)
    rw [Nat.pow_succ]
    omega
omit [KOrd K] in
theorem le_size (t : Tr K V) (h : t.avl) : 2 ^ ((t.depth + 1) / 2) ≤ t.size + 1 := by
  induction t with
  | nil => simp [size, depth]
  | node l k v r ihl ihr =>
    obtain ⟨hl, hr, h1, h2⟩ := h
    have i1 := ihl hl
    have i2 := ihr hr
    simp only [size, depth]
    have h3 : 2 ^ ((max l.depth r.depth - 1 + 1) / 2) ≤ 2 ^ ((l.depth + 1) / 2) := Nat.pow_le_pow_right (by omega) (by omega)
    have h4 : 2 ^ ((max l.depth r.depth - 1 + 1) / 2) ≤ 2 ^ ((r.depth + 1) / 2) := Nat.pow_le_pow_right (by omega) (by omega)
    by_cases h0 : max l.depth r.depth = 0
    · rw [h0]; simp; omega
    · have : (max l.depth r.depth + 1 + 1) / 2 = (max l.depth r.depth - 1 + 1) / 2 + 1 := by omega
      rw [this, Nat.pow_succ]
      omega
end Tr
end Go.Proofs.Ytkejpbfbpomjfab.tre
