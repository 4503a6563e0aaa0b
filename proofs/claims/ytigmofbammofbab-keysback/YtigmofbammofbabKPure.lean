/- The plain side of keys: rows of values, their codes, their order, what is read. -/
import Derived.WalkKit
namespace Go.Proofs.Ytigmofbammofbab
open Go

/-- a value but for its parts -/
structure Hd where
  kind : Int
  b : Bool
  n : Int
  re : Nat
  pr : Nat
  im : Nat
  text : List Nat
/-- a row of values, each with its parts -/
inductive Row where
  | nil : Row
  | cons (h : Hd) (parts rest : Row) : Row
def Hd.ok (h : Hd) : Prop := -9223372036854775808 ≤ h.kind ∧ h.kind ≤ 9223372036854775807 ∧ -9223372036854775808 ≤ h.n ∧ h.n ≤ 9223372036854775807 ∧ h.re < 18446744073709551616 ∧ h.pr < 18446744073709551616 ∧ h.im < 18446744073709551616 ∧ ∀ x ∈ h.text, x < 256

def Row.len : Row → Nat
  | .nil => 0
  | .cons _ _ r => r.len + 1
def Row.app : Row → Row → Row
  | .nil, s => s
  | .cons h p r, s => .cons h p (r.app s)
theorem Row.app_nil (r : Row) : r.app .nil = r := by
  induction r with
  | nil => rfl
  | cons h p r _ ih => simp only [Row.app, ih]
theorem Row.app_assoc (r s t : Row) : (r.app s).app t = r.app (s.app t) := by
  induction r with
  | nil => rfl
  | cons h p r _ ih => simp only [Row.app, ih]
theorem Row.app_len (r s : Row) : (r.app s).len = r.len + s.len := by
  induction r with
  | nil => simp [Row.app, Row.len]
  | cons h p r _ ih => simp only [Row.app, Row.len, ih]; omega

/-- the first fault of a row that is in so many tuples -/
def faultR : Row → Nat → Nat
  | .nil, _ => 0
  | .cons h p r, d =>
    if h.kind < 1 ∨ 7 < h.kind then 40
    else if h.kind = 7 then (if d = 16 then 41 else if faultR p (d + 1) ≠ 0 then faultR p (d + 1) else faultR r d)
    else faultR r d
theorem faultR_cons (h : Hd) (p r : Row) (d : Nat) : faultR (.cons h p r) d = if h.kind < 1 ∨ 7 < h.kind then 40
    else if h.kind = 7 then (if d = 16 then 41 else if faultR p (d + 1) ≠ 0 then faultR p (d + 1) else faultR r d)
    else faultR r d := rfl
theorem faultR_cases (r : Row) (d : Nat) : faultR r d = 0 ∨ faultR r d = 40 ∨ faultR r d = 41 := by
  induction r generalizing d with
  | nil => exact Or.inl rfl
  | cons h p r ihp ihr =>
    unfold faultR
    split
    · simp
    · split
      · split
        · simp
        · split
          · exact ihp _
          · exact ihr _
      · exact ihr _
theorem faultR_lt (r : Row) (d : Nat) : faultR r d < 100 := by rcases faultR_cases r d with h | h | h <;> omega

/-- eight bytes, the highest first -/
def be8 (m : Nat) : List Nat := [m / 72057594037927936 % 256, m / 281474976710656 % 256, m / 1099511627776 % 256, m / 4294967296 % 256, m / 16777216 % 256, m / 65536 % 256, m / 256 % 256, m % 256]
theorem be8_length (m : Nat) : (be8 m).length = 8 := rfl
theorem be8_lt (m : Nat) : ∀ x ∈ be8 m, x < 256 := by
  intro x hx
  simp only [be8, List.mem_cons, List.not_mem_nil, or_false] at hx
  omega
def word (l : List Nat) : Nat := l.foldl (fun a b => a * 256 + b) 0
theorem word_be8 (m : Nat) (h : m < 18446744073709551616) : word (be8 m) = m := by
  simp only [word, be8, List.foldl_cons, List.foldl_nil]
  omega
theorem be8_word (l : List Nat) (h : l.length = 8) (hb : ∀ x ∈ l, x < 256) : be8 (word l) = l ∧ word l < 18446744073709551616 := by
  match l, h with
  | [a, b, c, d, e, f, g, i], _ =>
    simp only [List.mem_cons, List.not_mem_nil, or_false, forall_eq_or_imp, forall_eq] at hb
    obtain ⟨h1, h2, h3, h4, h5, h6, h7, h8⟩ := hb
    simp only [word, be8, List.foldl_cons, List.foldl_nil, List.cons.injEq, and_true]
    omega

def top : Nat := 9223372036854775808
/-- Is it no number? (one that is unlike itself) -/
def nanB (n : Nat) : Bool := FloatKind.f64.format.order n n != some .eq
def oneNaN : Nat := 9221120237041090560
def canon (n : Nat) : Nat := if nanB n then oneNaN else n
theorem canon_lt {n : Nat} (h : n < 18446744073709551616) : canon n < 18446744073709551616 := by
  unfold canon oneNaN; split <;> omega
/-- where a real number stands -/
def turnN (n : Nat) : Nat := if n < top then n + top else 18446744073709551615 - n
def placeR (n : Nat) : Nat := turnN (canon n)
theorem turnN_lt {n : Nat} (h : n < 18446744073709551616) : turnN n < 18446744073709551616 := by
  unfold turnN top; split <;> omega
theorem placeR_lt {n : Nat} (h : n < 18446744073709551616) : placeR n < 18446744073709551616 := turnN_lt (canon_lt h)
def backN (n : Nat) : Nat := if n < top then 18446744073709551615 - n else n - top
theorem backN_lt {n : Nat} (h : n < 18446744073709551616) : backN n < 18446744073709551616 := by
  unfold backN top; split <;> omega
/-- where an int stands -/
def placeI (n : Int) : Nat := (n + 9223372036854775808).toNat
def intA (m : Nat) : Int := (m : Int) - 9223372036854775808

/-- a text's bytes, each 0 with a 255 behind it -/
def esc : List Nat → List Nat
  | [] => []
  | b :: r => if b = 0 then 0 :: 255 :: esc r else b :: esc r
theorem esc_append (a b : List Nat) : esc (a ++ b) = esc a ++ esc b := by
  induction a with
  | nil => rfl
  | cons x a ih => simp only [List.cons_append, esc, ih]; split <;> simp
theorem esc_lt {l : List Nat} (h : ∀ x ∈ l, x < 256) : ∀ x ∈ esc l, x < 256 := by
  induction l with
  | nil => simp [esc]
  | cons b r ih =>
    have hr := ih (fun x hx => h x (List.mem_cons_of_mem _ hx))
    have hb := h b (List.mem_cons_self ..)
    intro x hx
    unfold esc at hx
    split at hx
    · simp only [List.mem_cons] at hx
      rcases hx with rfl | rfl | hx
      · omega
      · omega
      · exact hr x hx
    · simp only [List.mem_cons] at hx
      rcases hx with rfl | hx
      · exact hb
      · exact hr x hx
theorem esc_length (l : List Nat) : (esc l).length ≤ 2 * l.length := by
  induction l with
  | nil => simp [esc]
  | cons b r ih => unfold esc; split <;> simp <;> omega

def bitOf (b : Bool) : Nat := if b then 1 else 0
/-- what follows the Kind; pc: the code of the parts -/
def body (h : Hd) (pc : List Nat) : List Nat :=
  if h.kind = 2 then [bitOf h.b]
  else if h.kind = 3 then be8 (placeI h.n)
  else if h.kind = 4 then be8 (placeR h.re)
  else if h.kind = 5 then be8 (placeR h.pr) ++ be8 (placeR h.im)
  else if h.kind = 6 then esc h.text ++ [0]
  else if h.kind = 7 then pc ++ [0]
  else []
def codeR : Row → List Nat
  | .nil => []
  | .cons h p r => h.kind.toNat :: (body h (codeR p) ++ codeR r)
theorem codeR_cons (h : Hd) (p r : Row) : codeR (.cons h p r) = (h.kind.toNat :: body h (codeR p)) ++ codeR r := rfl
theorem codeR_app (r s : Row) : codeR (r.app s) = codeR r ++ codeR s := by
  induction r with
  | nil => rfl
  | cons h p r _ ih => simp only [Row.app, codeR, ih, List.cons_append, List.append_assoc]

/-- all kinds that count are kinds -/
def fine : Row → Prop
  | .nil => True
  | .cons h p r => 1 ≤ h.kind ∧ h.kind ≤ 7 ∧ (h.kind = 7 → fine p) ∧ fine r
theorem fine_of_fault {r : Row} {d : Nat} (h : faultR r d = 0) : fine r := by
  induction r generalizing d with
  | nil => trivial
  | cons x p r ihp ihr =>
    unfold faultR at h
    split at h
    · omega
    · rename_i hk
      split at h
      · rename_i h7
        split at h
        · omega
        · split at h
          · rename_i h2; exact absurd h h2
          · rename_i h2
            exact ⟨by omega, by omega, fun _ => ihp (Decidable.of_not_not h2), ihr h⟩
      · rename_i h7
        exact ⟨by omega, by omega, fun e => absurd e h7, ihr h⟩

/-- the order of numbers -/
def cmpI (x y : Int) : Int := if x < y then -1 else if y < x then 1 else 0
/-- the order of bytes -/
def cmpL : List Nat → List Nat → Int
  | [], [] => 0
  | [], _ :: _ => -1
  | _ :: _, [] => 1
  | a :: x, b :: y => if a < b then -1 else if b < a then 1 else cmpL x y
def orI (a b : Int) : Int := if a ≠ 0 then a else b
/-- the order of values; pc: that of their parts -/
def cmpH (a b : Hd) (pc : Int) : Int :=
  if a.kind ≠ b.kind then cmpI a.kind b.kind
  else if a.kind = 2 then cmpI (bitOf a.b) (bitOf b.b)
  else if a.kind = 3 then cmpI a.n b.n
  else if a.kind = 4 then cmpI (placeR a.re) (placeR b.re)
  else if a.kind = 5 then orI (cmpI (placeR a.pr) (placeR b.pr)) (cmpI (placeR a.im) (placeR b.im))
  else if a.kind = 6 then cmpL a.text b.text
  else if a.kind = 7 then pc
  else 0
def cmpR : Row → Row → Int
  | .nil, .nil => 0
  | .nil, .cons _ _ _ => -1
  | .cons _ _ _, .nil => 1
  | .cons a p r, .cons b q s => if cmpH a b (cmpR p q) ≠ 0 then cmpH a b (cmpR p q) else cmpR r s

/-- what a text is read as, and what is behind it -/
def takeT : List Nat → Option (List Nat × List Nat)
  | [] => none
  | 0 :: 255 :: r => (takeT r).map fun x => (0 :: x.1, x.2)
  | 0 :: r => some ([], r)
  | b :: r => (takeT r).map fun x => (b :: x.1, x.2)

/-- the number at the beginning -/
def takeW (t : List Nat) : Option (Nat × List Nat) := if t.length < 8 then none else some (word (t.take 8), t.drop 8)
def takeF (t : List Nat) : Option (Nat × List Nat) :=
  match takeW t with
  | none => none
  | some (m, r) => if placeR (backN m) = m then some (backN m, r) else none
def hd0 (k : Int) : Hd := ⟨k, false, 0, 0, 0, 0, []⟩
def takeB : List Nat → Option (Bool × List Nat)
  | [] => none
  | x :: r => if 1 < x then none else some (decide (x = 1), r)
def takeP (t : List Nat) : Option ((Nat × Nat) × List Nat) :=
  match takeF t with
  | none => none
  | some (m, r) => match takeF r with
    | none => none
    | some (m', r') => some ((m, m'), r')
/-- the parts of a tuple; rec: what they are read as -/
def takeU (rec : Except Nat (Row × List Nat)) (d : Nat) : Except Nat (Row × List Nat) :=
  if d = 16 then .error 41 else match rec with
    | .error e => .error e
    | .ok (r, rest) => match rest with
      | [] => .error 40
      | _ :: rest' => .ok (r, rest')
def liftO {α : Type} (f : α → Hd) : Option (α × List Nat) → Except Nat (Hd × Row × List Nat)
  | none => .error 40
  | some (x, r) => .ok (f x, .nil, r)
def liftU : Except Nat (Row × List Nat) → Except Nat (Hd × Row × List Nat)
  | .error e => .error e
  | .ok (r, rest) => .ok (hd0 7, r, rest)
/-- the value at the beginning of k :: t; rec: what the parts are read as -/
def takeV (rec : Except Nat (Row × List Nat)) (k : Nat) (t : List Nat) (d : Nat) : Except Nat (Hd × Row × List Nat) :=
  if k = 1 then .ok (hd0 1, .nil, t)
  else if k = 2 then liftO (fun b => { hd0 2 with b := b }) (takeB t)
  else if k = 3 then liftO (fun m => { hd0 3 with n := intA m }) (takeW t)
  else if k = 4 then liftO (fun m => { hd0 4 with re := m }) (takeF t)
  else if k = 5 then liftO (fun m => { hd0 5 with pr := m.1, im := m.2 }) (takeP t)
  else if k = 6 then liftO (fun x => { hd0 6 with text := x }) (takeT t)
  else if k = 7 then liftU (takeU rec d)
  else .error 40
/-- the row at the beginning of some bytes, up to an end; f: more than there are bytes -/
def takeR : Nat → List Nat → Nat → Except Nat (Row × List Nat)
  | 0, _, _ => .error 99
  | _ + 1, [], _ => .ok (.nil, [])
  | f + 1, k :: t, d => if k = 0 then .ok (.nil, k :: t) else
    match takeV (takeR f t (d + 1)) k t d with
    | .error e => .error e
    | .ok (h, p, rest) => match takeR f rest d with
      | .error e => .error e
      | .ok (r, rest') => .ok (.cons h p r, rest')
/-- what bytes are read as -/
def decR (p : List Nat) : Except Nat Row :=
  match takeR (p.length + 1) p 0 with
  | .error e => .error e
  | .ok (r, rest) => if rest = [] then .ok r else .error 40
end Go.Proofs.Ytigmofbammofbab
