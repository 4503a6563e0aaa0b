/- The table says what Hear says. -/
import Derived.Test.YtnpabeodakncfaaGAns
namespace Go.Proofs.Ytnpabeodakncfaa

theorem look_her {s : Int} {l : Ld} {k x y : Int} (hv : vld s l = true) (ho : oth s y = true) (hg : ¬ (k = 3 ∧ 1073741824 ≤ x ∧ l.ep < x)) : look l k x y tbl = her s l k x y := by
  rw [her, if_neg (by simp [hv, ho])]
  obtain ⟨ph, ep, pe⟩ := l
  simp only [vld, decide_eq_true_eq] at hv
  dsimp only at hg
  by_cases k3 : k = 3
  · subst k3
    simp [look, tbl, fit, off, met]
    (repeat' split) <;> first | rfl | omega
  by_cases k4 : k = 4
  · subst k4
    simp [look, tbl, fit, hav, met]
    (repeat' split) <;> first | rfl | omega
  by_cases k5 : k = 5
  · subst k5
    simp [look, tbl, fit, cmt, met]
    (repeat' split) <;> first | rfl | omega
  by_cases k6 : k = 6
  · subst k6
    simp [look, tbl, fit, eof, met]
    (repeat' split) <;> first | rfl | omega
  by_cases k7 : k = 7
  · subst k7
    simp [look, tbl, fit, eof, met]
    (repeat' split) <;> first | rfl | omega
  by_cases k8 : k = 8
  · subst k8
    simp [look, tbl, fit, eof, met]
    (repeat' split) <;> first | rfl | omega
  have e3 : ¬ (3 : Int) = k := by omega
  have e4 : ¬ (4 : Int) = k := by omega
  have e5 : ¬ (5 : Int) = k := by omega
  have e6 : ¬ (6 : Int) = k := by omega
  have e7 : ¬ (7 : Int) = k := by omega
  have e8 : ¬ (8 : Int) = k := by omega
  simp [look, tbl, fit, k3, k4, k5, k6, k7, k8, e3, e4, e5, e6, e7, e8]
theorem her_guard {s : Int} {l : Ld} {k x y : Int} (hg : k = 3 ∧ 1073741824 ≤ x ∧ l.ep < x) : her s l k x y = (0, 0) := by
  obtain ⟨rfl, h1, h2⟩ := hg
  unfold her
  split
  · rfl
  · simp only [if_true]
    unfold off
    rw [if_neg (by simp [met]; omega), if_neg (by omega)]
end Go.Proofs.Ytnpabeodakncfaa
