/- RecordUnused. -/
import Derived.Test.YtocmgfmfalaebabLUnAZ
import Derived.Test.YtocmgfmfalaebabLUnBZ
import Derived.Test.YtocmgfmfalaebabLUnCZ
import Derived.Test.YtocmgfmfalaebabLUnDZ
namespace Go.Proofs.Ytocmgfmfalaebab
open Go.RowKit

theorem unused_walk (w : World) (p : Pl) (l : Lo) (h : RecW w p l) (f : Int) : Calls Try.prog 3 #[rv p l, .int .i64 f] w fun e w' => e = .returned (.bool true) ∧ Kept [] w w' := by
  cases hs : snd p with
  | false => exact unused_none w p l h f hs
  | true =>
    generalize h1 : (p.kind == 1) = b1
    generalize h4 : (p.kind == 4) = b4
    have u1 : b1 = false → p.kind ≠ 1 := fun e => by rw [e] at h1; simpa using h1
    have u4 : b4 = false → p.kind ≠ 4 := fun e => by rw [e] at h4; simpa using h4
    have v1 : b1 = true → p.kind = 1 := fun e => by rw [e] at h1; simpa using h1
    have v4 : b4 = true → p.kind = 4 := fun e => by rw [e] at h4; simpa using h4
    by_cases e0 : f = 0
    · subst e0
      cases b1 with
      | false => exact un0 w p l h hs false b4 h1 h4 (unused_no 0 (u1 rfl))
      | true =>
        cases hs2 : snd (setF p 0) with
        | true => exact us0t w p l h hs true b4 h1 h4 hs2
        | false => exact us0f w p l h hs true b4 h1 h4 hs2
    by_cases e1 : f = 1
    · subst e1
      cases b1 with
      | false => exact un1 w p l h hs false b4 h1 h4 (unused_no 1 (u1 rfl))
      | true =>
        cases hs2 : snd (setF p 1) with
        | true => exact us1t w p l h hs true b4 h1 h4 hs2
        | false => exact us1f w p l h hs true b4 h1 h4 hs2
    by_cases e5 : f = 5
    · subst e5
      cases b1 with
      | false => exact un5 w p l h hs false b4 h1 h4 (unused_no 5 (u1 rfl))
      | true =>
        cases hs2 : snd (setF p 5) with
        | true => exact us5t w p l h hs true b4 h1 h4 hs2
        | false => exact us5f w p l h hs true b4 h1 h4 hs2
    by_cases e6 : f = 6
    · subst e6
      cases b1 with
      | false => exact un6 w p l h hs false b4 h1 h4 (unused_no 6 (u1 rfl))
      | true =>
        cases hs2 : snd (setF p 6) with
        | true => exact us6t w p l h hs true b4 h1 h4 hs2
        | false => exact us6f w p l h hs true b4 h1 h4 hs2
    by_cases e3 : f = 3
    · subst e3
      cases b4 with
      | false => exact un3 w p l h hs b1 false h1 h4 (unused_no 3 (u4 rfl))
      | true =>
        cases hs2 : snd (setF p 3) with
        | true => exact us3t w p l h hs b1 true h1 h4 hs2
        | false => exact us3f w p l h hs b1 true h1 h4 hs2
    by_cases e4 : f = 4
    · subst e4
      cases b4 with
      | false => exact un4 w p l h hs b1 false h1 h4 (unused_no 4 (u4 rfl))
      | true =>
        cases hs2 : snd (setF p 4) with
        | true => exact us4t w p l h hs b1 true h1 h4 hs2
        | false => exact us4f w p l h hs b1 true h1 h4 hs2
    by_cases e2 : f = 2
    · subst e2
      cases b4 with
      | true =>
        cases hs2 : snd (setF p 2) with
        | true => exact us2at w p l h hs b1 true h1 h4 hs2
        | false => exact us2af w p l h hs b1 true h1 h4 hs2
      | false =>
        by_cases k2 : p.kind = 2
        · cases hs2 : snd (setF p 2) with
          | true => exact us2bt w p l h hs b1 false h1 h4 (by rw [k2]; rfl) (by rw [k2]; rfl) hs2
          | false => exact us2bf w p l h hs b1 false h1 h4 (by rw [k2]; rfl) (by rw [k2]; rfl) hs2
        · exact un2 w p l h hs b1 false h1 h4 (by simpa using k2) (by simpa using k2) (unused_no 2 ⟨u4 rfl, k2⟩)
    by_cases e7 : f = 7
    · subst e7
      cases b1 with
      | false => exact un7a w p l h hs false b4 h1 h4 (unused_no 7 (Or.inl (u1 rfl)))
      | true =>
        by_cases k3 : p.okind = 3
        · exact un7b w p l h hs true b4 h1 h4 (by rw [k3]; rfl) (unused_no 7 (Or.inr k3))
        · cases hs2 : snd (setF p 7) with
          | true => exact us7t w p l h hs true b4 h1 h4 (by simpa using k3) hs2
          | false => exact us7f w p l h hs true b4 h1 h4 (by simpa using k3) hs2
    by_cases e8 : f = 8
    · subst e8
      cases b1 with
      | false => exact un8a w p l h hs false b4 h1 h4 (unused_no 8 (Or.inl (u1 rfl)))
      | true =>
        by_cases k4 : p.okind = 4
        · cases hs2 : snd (setF p 8) with
          | true => exact us8t w p l h hs true b4 h1 h4 (by rw [k4]; rfl) (by rw [k4]; rfl) hs2
          | false => exact us8f w p l h hs true b4 h1 h4 (by rw [k4]; rfl) (by rw [k4]; rfl) hs2
        · exact un8b w p l h hs true b4 h1 h4 (by simpa using k4) (by simpa using k4) (unused_no 8 (Or.inr k4))
    exact unNo w p l h hs b1 b4 h1 h4 f (by simpa using e0) (by simpa using e1) (by simpa using e2) (by simpa using e3) (by simpa using e4) (by simpa using e5) (by simpa using e6) (by simpa using e7) (by simpa using e8)
end Go.Proofs.Ytocmgfmfalaebab
