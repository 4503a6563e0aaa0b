/- A text of the base. -/
import Derived.Test.YtocmgfmfalaebaaPkW
import Derived.Test.YtocmgfmfalaebaaPkX
import Derived.Test.YtocmgfmfalaebaaPkY
/- RecordRow. -/
namespace Go.Proofs.Ytocmgfmfalaebaa
open Go.RowKit

/-- Of what is left just one beginning is a form. -/
theorem cut_iff {p : Pl} (hp : snd p = true) {rest : List Nat} (hb : Bytes (enc p ++ rest)) {m : Nat} (hm : m ≤ (enc p ++ rest).length) : dec ((enc p ++ rest).take m) = none ↔ m ≠ (enc p).length := by
  constructor
  · intro h e
    rw [e, List.take_left' rfl, dec_enc hp] at h
    cases h
  · intro h
    cases hd : dec ((enc p ++ rest).take m) with
    | none => rfl
    | some q =>
      exfalso
      obtain ⟨h1, h2⟩ := dec_some (fun x hx => hb x (List.mem_of_mem_take hx)) hd
      have h3 : enc q ++ (enc p ++ rest).drop m = enc p ++ rest := by rw [h2, List.take_append_drop]
      have h4 := (enc_free h1 hp h3).1
      subst h4
      have h5 : ((enc q ++ rest).take m).length = m := by rw [List.length_take]; omega
      rw [← h2] at h5
      exact h h5.symm
/-- Forms one behind the other. -/
def allOf (T : List Pl) : List Nat := T.flatMap enc
def endsOf : List Pl → Nat → List Nat
  | [], _ => []
  | p :: T, n => (n + (enc p).length) :: endsOf T (n + (enc p).length)
structure Short (T : List Pl) : Prop where
  few : T.length ≤ 5
  snd : ∀ p ∈ T, snd p = true
  len : ∀ p ∈ T, (enc p).length ≤ 120
  by_ : ∀ p ∈ T, ∀ x ∈ enc p, x < 256
theorem allOf_len {T : List Pl} (h : ∀ p ∈ T, (enc p).length ≤ 120) : (allOf T).length ≤ T.length * 120 := by
  induction T with
  | nil => simp [allOf]
  | cons p T ih =>
    have h1 := h p (by simp)
    have h2 := ih (fun q hq => h q (by simp [hq]))
    have h3 : (allOf (p :: T)).length = (enc p).length + (allOf T).length := by simp [allOf]
    rw [h3]
    simp only [List.length_cons]
    omega
theorem endsOf_snoc (T : List Pl) (p : Pl) : ∀ n, endsOf (T ++ [p]) n = endsOf T n ++ [n + (allOf (T ++ [p])).length] := by
  induction T with
  | nil => intro n; simp [endsOf, allOf]
  | cons q T ih =>
    intro n
    simp only [List.cons_append, endsOf]
    rw [ih]
    simp [allOf]
    omega
theorem endsOf_len (T : List Pl) : ∀ n, (endsOf T n).length = T.length := by
  induction T with
  | nil => intro n; rfl
  | cons q T ih => intro n; simp [endsOf, ih]
theorem endsOf_at : ∀ (T : List Pl) (n i : Nat) (_ : i < T.length), (endsOf T n)[i]? = some (n + (allOf (T.take (i + 1))).length)
  | p :: T, n, 0, _ => by simp [endsOf, allOf]
  | p :: T, n, i + 1, hi => by
    have h := endsOf_at T (n + (enc p).length) i (by simpa using hi)
    simp only [endsOf, List.getElem?_cons_succ]
    rw [h]
    simp [allOf]
    omega
theorem drop_at {T : List Pl} {i : Nat} (hi : i < T.length) : (allOf T).drop (allOf (T.take i)).length = enc T[i] ++ allOf (T.drop (i + 1)) := by
  have h1 : allOf T = allOf (T.take i) ++ (enc T[i] ++ allOf (T.drop (i + 1))) := by
    unfold allOf
    rw [← List.flatMap_cons, ← List.drop_eq_getElem_cons hi, ← List.flatMap_append, List.take_append_drop]
  rw [h1, List.drop_left' rfl]
theorem take_at {T : List Pl} {i : Nat} (hi : i < T.length) : (allOf (T.take (i + 1))).length = (allOf (T.take i)).length + (enc T[i]).length := by
  unfold allOf
  rw [List.take_succ_eq_append_getElem hi, List.flatMap_append, List.length_append]
  congr 1
  rw [List.flatMap_cons, List.flatMap_nil, List.append_nil]
end Go.Proofs.Ytocmgfmfalaebaa
