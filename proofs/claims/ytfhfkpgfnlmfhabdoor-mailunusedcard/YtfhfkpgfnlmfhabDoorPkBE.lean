/- Texts laid one behind the other: MUnuP MUnuI. -/
import Derived.Test.YtfhfkpgfnlmfhabDoorPkBD
import Derived.OpenShut
/- MailUnused: fields that a kind has not. -/
namespace Go.Proofs.YtfhfkpgfnlmfhabDoor
open Go.RowKit

/-- A field that says something. -/
def setF (p : Ml) : Nat → Ml
  | 0 => { p with epoch := 1 }
  | 1 => { p with root := 1 }
  | 2 => { p with copy := [0] }
  | 3 => { p with client := 1 }
  | 4 => { p with seq := 1 }
  | 5 => { p with okind := 1 }
  | 6 => { p with key := [0] }
  | 7 => { p with val := [0] }
  | 8 => { p with rev := 1 }
  | 9 => { p with verd := 221 }
  | 10 => { p with done := true }
  | 11 => { p with akey := [0] }
  | 12 => { p with aat := 1 }
  | 13 => { p with hint := 1 }
  | _ => p
/-- Where the lists lie then. -/
def setLm (l : Lm) (a : Option Addr) : Nat → Lm
  | 2 => { l with ca := a, cc := 1 }
  | 6 => { l with ka := a, kc := 1 }
  | 7 => { l with va := a, vc := 1 }
  | 11 => { l with xa := a, xc := 1 }
  | _ => l
/-- The kind, or the verdict, has it not. -/
def unB (p : Ml) : Nat → Bool
  | 0 => (p.kind == 1) || (p.kind == 2)
  | 1 => !(p.kind == 3)
  | 2 => !(p.kind == 3)
  | 3 => !(p.kind == 1) && !(p.kind == 2)
  | 4 => !(p.kind == 1) && !(p.kind == 2)
  | 5 => !(p.kind == 1)
  | 6 => !(p.kind == 1)
  | 7 => !(p.kind == 1) || ((p.okind != 2) && (p.okind != 4))
  | 8 => !(p.kind == 1) || (p.okind != 4)
  | 9 => !(p.kind == 2)
  | 10 => !((p.kind == 2) && (p.verd == 0))
  | 11 => !((p.kind == 2) && (p.verd == 0))
  | 12 => !((p.kind == 2) && (p.verd == 0))
  | 13 => !((p.kind == 2) && ((p.verd == 220) || (p.verd == 221)))
  | _ => false
set_option linter.unusedSimpArgs false in
set_option maxHeartbeats 1600000 in
theorem unused_no {p : Ml} (hs : snd p = true) (k : Nat) (hu : unB p k = true) : snd (setF p k) = false := by
  cases h : snd (setF p k) with
  | false => rfl
  | true =>
    exfalso
    have h0 := ((snd_iff p).1 hs).2
    obtain ⟨_, h1⟩ := (snd_iff _).1 h
    have hrg := @rgt_iff (setF p k).okind (setF p k).key.length (setF p k).val.length (setF p k).rev
    match k with
    | 0 =>
      simp only [setF, unB, Bool.or_eq_true, Bool.and_eq_true, Bool.not_eq_true', beq_iff_eq, bne_iff_ne, ne_eq, beq_eq_false_iff_ne, Bool.and_eq_false_iff, Bool.or_eq_false_iff, List.length_cons, List.length_nil] at hu h1 hrg
      rcases h1 with ⟨a1, a2, a3, a4, a5, ⟨a6, ⟨b1, b2, b3, b4, b5⟩, a7⟩, a8, a9, a10⟩ | ⟨a1, a2, a3, a4, ⟨c1, c2, c3, c4⟩, a6, a8, a9, a10⟩ | ⟨a1, a0, a2, a3, a4, a5, a11, a12, ⟨c1, c2, c3, c4⟩, ⟨a6, ⟨b1, b2, b3, b4, b5⟩, a7⟩⟩ | ⟨a1, ⟨a2, a3, a4, a5, a11, a12, ⟨c1, c2, c3, c4⟩, ⟨a6, ⟨b1, b2, b3, b4, b5⟩, a7⟩⟩, a9, a10⟩
      all_goals (try have a5' := hrg a5)
      all_goals (first | (simp_all; done) | (simp_all; omega) | (simp [verdP, noAnsP, fitP, srvP] at a6; simp_all; omega) | (simp [verdP, noAnsP, fitP, srvP] at a6; omega) | omega)
    | 1 =>
      simp only [setF, unB, Bool.or_eq_true, Bool.and_eq_true, Bool.not_eq_true', beq_iff_eq, bne_iff_ne, ne_eq, beq_eq_false_iff_ne, Bool.and_eq_false_iff, Bool.or_eq_false_iff, List.length_cons, List.length_nil] at hu h1 hrg
      rcases h1 with ⟨a1, a2, a3, a4, a5, ⟨a6, ⟨b1, b2, b3, b4, b5⟩, a7⟩, a8, a9, a10⟩ | ⟨a1, a2, a3, a4, ⟨c1, c2, c3, c4⟩, a6, a8, a9, a10⟩ | ⟨a1, a0, a2, a3, a4, a5, a11, a12, ⟨c1, c2, c3, c4⟩, ⟨a6, ⟨b1, b2, b3, b4, b5⟩, a7⟩⟩ | ⟨a1, ⟨a2, a3, a4, a5, a11, a12, ⟨c1, c2, c3, c4⟩, ⟨a6, ⟨b1, b2, b3, b4, b5⟩, a7⟩⟩, a9, a10⟩
      all_goals (try have a5' := hrg a5)
      all_goals (first | (simp_all; done) | (simp_all; omega) | (simp [verdP, noAnsP, fitP, srvP] at a6; simp_all; omega) | (simp [verdP, noAnsP, fitP, srvP] at a6; omega) | omega)
    | 2 =>
      simp only [setF, unB, Bool.or_eq_true, Bool.and_eq_true, Bool.not_eq_true', beq_iff_eq, bne_iff_ne, ne_eq, beq_eq_false_iff_ne, Bool.and_eq_false_iff, Bool.or_eq_false_iff, List.length_cons, List.length_nil] at hu h1 hrg
      rcases h1 with ⟨a1, a2, a3, a4, a5, ⟨a6, ⟨b1, b2, b3, b4, b5⟩, a7⟩, a8, a9, a10⟩ | ⟨a1, a2, a3, a4, ⟨c1, c2, c3, c4⟩, a6, a8, a9, a10⟩ | ⟨a1, a0, a2, a3, a4, a5, a11, a12, ⟨c1, c2, c3, c4⟩, ⟨a6, ⟨b1, b2, b3, b4, b5⟩, a7⟩⟩ | ⟨a1, ⟨a2, a3, a4, a5, a11, a12, ⟨c1, c2, c3, c4⟩, ⟨a6, ⟨b1, b2, b3, b4, b5⟩, a7⟩⟩, a9, a10⟩
      all_goals (try have a5' := hrg a5)
      all_goals (first | (simp_all; done) | (simp_all; omega) | (simp [verdP, noAnsP, fitP, srvP] at a6; simp_all; omega) | (simp [verdP, noAnsP, fitP, srvP] at a6; omega) | omega)
    | 3 =>
      simp only [setF, unB, Bool.or_eq_true, Bool.and_eq_true, Bool.not_eq_true', beq_iff_eq, bne_iff_ne, ne_eq, beq_eq_false_iff_ne, Bool.and_eq_false_iff, Bool.or_eq_false_iff, List.length_cons, List.length_nil] at hu h1 hrg
      rcases h1 with ⟨a1, a2, a3, a4, a5, ⟨a6, ⟨b1, b2, b3, b4, b5⟩, a7⟩, a8, a9, a10⟩ | ⟨a1, a2, a3, a4, ⟨c1, c2, c3, c4⟩, a6, a8, a9, a10⟩ | ⟨a1, a0, a2, a3, a4, a5, a11, a12, ⟨c1, c2, c3, c4⟩, ⟨a6, ⟨b1, b2, b3, b4, b5⟩, a7⟩⟩ | ⟨a1, ⟨a2, a3, a4, a5, a11, a12, ⟨c1, c2, c3, c4⟩, ⟨a6, ⟨b1, b2, b3, b4, b5⟩, a7⟩⟩, a9, a10⟩
      all_goals (try have a5' := hrg a5)
      all_goals (first | (simp_all; done) | (simp_all; omega) | (simp [verdP, noAnsP, fitP, srvP] at a6; simp_all; omega) | (simp [verdP, noAnsP, fitP, srvP] at a6; omega) | omega)
    | 4 =>
      simp only [setF, unB, Bool.or_eq_true, Bool.and_eq_true, Bool.not_eq_true', beq_iff_eq, bne_iff_ne, ne_eq, beq_eq_false_iff_ne, Bool.and_eq_false_iff, Bool.or_eq_false_iff, List.length_cons, List.length_nil] at hu h1 hrg
      rcases h1 with ⟨a1, a2, a3, a4, a5, ⟨a6, ⟨b1, b2, b3, b4, b5⟩, a7⟩, a8, a9, a10⟩ | ⟨a1, a2, a3, a4, ⟨c1, c2, c3, c4⟩, a6, a8, a9, a10⟩ | ⟨a1, a0, a2, a3, a4, a5, a11, a12, ⟨c1, c2, c3, c4⟩, ⟨a6, ⟨b1, b2, b3, b4, b5⟩, a7⟩⟩ | ⟨a1, ⟨a2, a3, a4, a5, a11, a12, ⟨c1, c2, c3, c4⟩, ⟨a6, ⟨b1, b2, b3, b4, b5⟩, a7⟩⟩, a9, a10⟩
      all_goals (try have a5' := hrg a5)
      all_goals (first | (simp_all; done) | (simp_all; omega) | (simp [verdP, noAnsP, fitP, srvP] at a6; simp_all; omega) | (simp [verdP, noAnsP, fitP, srvP] at a6; omega) | omega)
    | 5 =>
      simp only [setF, unB, Bool.or_eq_true, Bool.and_eq_true, Bool.not_eq_true', beq_iff_eq, bne_iff_ne, ne_eq, beq_eq_false_iff_ne, Bool.and_eq_false_iff, Bool.or_eq_false_iff, List.length_cons, List.length_nil] at hu h1 hrg
      rcases h1 with ⟨a1, a2, a3, a4, a5, ⟨a6, ⟨b1, b2, b3, b4, b5⟩, a7⟩, a8, a9, a10⟩ | ⟨a1, a2, a3, a4, ⟨c1, c2, c3, c4⟩, a6, a8, a9, a10⟩ | ⟨a1, a0, a2, a3, a4, a5, a11, a12, ⟨c1, c2, c3, c4⟩, ⟨a6, ⟨b1, b2, b3, b4, b5⟩, a7⟩⟩ | ⟨a1, ⟨a2, a3, a4, a5, a11, a12, ⟨c1, c2, c3, c4⟩, ⟨a6, ⟨b1, b2, b3, b4, b5⟩, a7⟩⟩, a9, a10⟩
      all_goals (try have a5' := hrg a5)
      all_goals (first | (simp_all; done) | (simp_all; omega) | (simp [verdP, noAnsP, fitP, srvP] at a6; simp_all; omega) | (simp [verdP, noAnsP, fitP, srvP] at a6; omega) | omega)
    | 6 =>
      simp only [setF, unB, Bool.or_eq_true, Bool.and_eq_true, Bool.not_eq_true', beq_iff_eq, bne_iff_ne, ne_eq, beq_eq_false_iff_ne, Bool.and_eq_false_iff, Bool.or_eq_false_iff, List.length_cons, List.length_nil] at hu h1 hrg
      rcases h1 with ⟨a1, a2, a3, a4, a5, ⟨a6, ⟨b1, b2, b3, b4, b5⟩, a7⟩, a8, a9, a10⟩ | ⟨a1, a2, a3, a4, ⟨c1, c2, c3, c4⟩, a6, a8, a9, a10⟩ | ⟨a1, a0, a2, a3, a4, a5, a11, a12, ⟨c1, c2, c3, c4⟩, ⟨a6, ⟨b1, b2, b3, b4, b5⟩, a7⟩⟩ | ⟨a1, ⟨a2, a3, a4, a5, a11, a12, ⟨c1, c2, c3, c4⟩, ⟨a6, ⟨b1, b2, b3, b4, b5⟩, a7⟩⟩, a9, a10⟩
      all_goals (try have a5' := hrg a5)
      all_goals (first | (simp_all; done) | (simp_all; omega) | (simp [verdP, noAnsP, fitP, srvP] at a6; simp_all; omega) | (simp [verdP, noAnsP, fitP, srvP] at a6; omega) | omega)
    | 7 =>
      simp only [setF, unB, Bool.or_eq_true, Bool.and_eq_true, Bool.not_eq_true', beq_iff_eq, bne_iff_ne, ne_eq, beq_eq_false_iff_ne, Bool.and_eq_false_iff, Bool.or_eq_false_iff, List.length_cons, List.length_nil] at hu h1 hrg
      rcases h1 with ⟨a1, a2, a3, a4, a5, ⟨a6, ⟨b1, b2, b3, b4, b5⟩, a7⟩, a8, a9, a10⟩ | ⟨a1, a2, a3, a4, ⟨c1, c2, c3, c4⟩, a6, a8, a9, a10⟩ | ⟨a1, a0, a2, a3, a4, a5, a11, a12, ⟨c1, c2, c3, c4⟩, ⟨a6, ⟨b1, b2, b3, b4, b5⟩, a7⟩⟩ | ⟨a1, ⟨a2, a3, a4, a5, a11, a12, ⟨c1, c2, c3, c4⟩, ⟨a6, ⟨b1, b2, b3, b4, b5⟩, a7⟩⟩, a9, a10⟩
      all_goals (try have a5' := hrg a5)
      all_goals (first | (simp_all; done) | (simp_all; omega) | (simp [verdP, noAnsP, fitP, srvP] at a6; simp_all; omega) | (simp [verdP, noAnsP, fitP, srvP] at a6; omega) | omega)
    | 8 =>
      simp only [setF, unB, Bool.or_eq_true, Bool.and_eq_true, Bool.not_eq_true', beq_iff_eq, bne_iff_ne, ne_eq, beq_eq_false_iff_ne, Bool.and_eq_false_iff, Bool.or_eq_false_iff, List.length_cons, List.length_nil] at hu h1 hrg
      rcases h1 with ⟨a1, a2, a3, a4, a5, ⟨a6, ⟨b1, b2, b3, b4, b5⟩, a7⟩, a8, a9, a10⟩ | ⟨a1, a2, a3, a4, ⟨c1, c2, c3, c4⟩, a6, a8, a9, a10⟩ | ⟨a1, a0, a2, a3, a4, a5, a11, a12, ⟨c1, c2, c3, c4⟩, ⟨a6, ⟨b1, b2, b3, b4, b5⟩, a7⟩⟩ | ⟨a1, ⟨a2, a3, a4, a5, a11, a12, ⟨c1, c2, c3, c4⟩, ⟨a6, ⟨b1, b2, b3, b4, b5⟩, a7⟩⟩, a9, a10⟩
      all_goals (try have a5' := hrg a5)
      all_goals (first | (simp_all; done) | (simp_all; omega) | (simp [verdP, noAnsP, fitP, srvP] at a6; simp_all; omega) | (simp [verdP, noAnsP, fitP, srvP] at a6; omega) | omega)
    | 9 =>
      simp only [setF, unB, Bool.or_eq_true, Bool.and_eq_true, Bool.not_eq_true', beq_iff_eq, bne_iff_ne, ne_eq, beq_eq_false_iff_ne, Bool.and_eq_false_iff, Bool.or_eq_false_iff, List.length_cons, List.length_nil] at hu h1 hrg
      rcases h1 with ⟨a1, a2, a3, a4, a5, ⟨a6, ⟨b1, b2, b3, b4, b5⟩, a7⟩, a8, a9, a10⟩ | ⟨a1, a2, a3, a4, ⟨c1, c2, c3, c4⟩, a6, a8, a9, a10⟩ | ⟨a1, a0, a2, a3, a4, a5, a11, a12, ⟨c1, c2, c3, c4⟩, ⟨a6, ⟨b1, b2, b3, b4, b5⟩, a7⟩⟩ | ⟨a1, ⟨a2, a3, a4, a5, a11, a12, ⟨c1, c2, c3, c4⟩, ⟨a6, ⟨b1, b2, b3, b4, b5⟩, a7⟩⟩, a9, a10⟩
      all_goals (try have a5' := hrg a5)
      all_goals (first | (simp_all; done) | (simp_all; omega) | (simp [verdP, noAnsP, fitP, srvP] at a6; simp_all; omega) | (simp [verdP, noAnsP, fitP, srvP] at a6; omega) | omega)
    | 10 =>
      simp only [setF, unB, Bool.or_eq_true, Bool.and_eq_true, Bool.not_eq_true', beq_iff_eq, bne_iff_ne, ne_eq, beq_eq_false_iff_ne, Bool.and_eq_false_iff, Bool.or_eq_false_iff, List.length_cons, List.length_nil] at hu h1 hrg
      rcases h1 with ⟨a1, a2, a3, a4, a5, ⟨a6, ⟨b1, b2, b3, b4, b5⟩, a7⟩, a8, a9, a10⟩ | ⟨a1, a2, a3, a4, ⟨c1, c2, c3, c4⟩, a6, a8, a9, a10⟩ | ⟨a1, a0, a2, a3, a4, a5, a11, a12, ⟨c1, c2, c3, c4⟩, ⟨a6, ⟨b1, b2, b3, b4, b5⟩, a7⟩⟩ | ⟨a1, ⟨a2, a3, a4, a5, a11, a12, ⟨c1, c2, c3, c4⟩, ⟨a6, ⟨b1, b2, b3, b4, b5⟩, a7⟩⟩, a9, a10⟩
      · exact absurd (show true = false from b1) (by decide)
      · have a1' : p.kind = 2 := a1
        rcases a6 with ⟨e1, e2, e3⟩ | ⟨e1, ⟨n1, n2, n3, n4, n5⟩, e3⟩ | ⟨e1, ⟨n1, n2, n3, n4, n5⟩, e3⟩
        · have e1' : p.verd = 0 := e1
          omega
        · exact absurd (show true = false from n1) (by decide)
        · exact absurd (show true = false from n1) (by decide)
      · exact absurd (show true = false from b1) (by decide)
      · exact absurd (show true = false from b1) (by decide)
    | 11 =>
      simp only [setF, unB, Bool.or_eq_true, Bool.and_eq_true, Bool.not_eq_true', beq_iff_eq, bne_iff_ne, ne_eq, beq_eq_false_iff_ne, Bool.and_eq_false_iff, Bool.or_eq_false_iff, List.length_cons, List.length_nil] at hu h1 hrg
      rcases h1 with ⟨a1, a2, a3, a4, a5, ⟨a6, ⟨b1, b2, b3, b4, b5⟩, a7⟩, a8, a9, a10⟩ | ⟨a1, a2, a3, a4, ⟨c1, c2, c3, c4⟩, a6, a8, a9, a10⟩ | ⟨a1, a0, a2, a3, a4, a5, a11, a12, ⟨c1, c2, c3, c4⟩, ⟨a6, ⟨b1, b2, b3, b4, b5⟩, a7⟩⟩ | ⟨a1, ⟨a2, a3, a4, a5, a11, a12, ⟨c1, c2, c3, c4⟩, ⟨a6, ⟨b1, b2, b3, b4, b5⟩, a7⟩⟩, a9, a10⟩
      · exact absurd (show ([0] : List Nat) = [] from b2) (by decide)
      · have a1' : p.kind = 2 := a1
        rcases a6 with ⟨e1, e2, e3⟩ | ⟨e1, ⟨n1, n2, n3, n4, n5⟩, e3⟩ | ⟨e1, ⟨n1, n2, n3, n4, n5⟩, e3⟩
        · have e1' : p.verd = 0 := e1
          omega
        · exact absurd (show ([0] : List Nat) = [] from n2) (by decide)
        · exact absurd (show ([0] : List Nat) = [] from n2) (by decide)
      · exact absurd (show ([0] : List Nat) = [] from b2) (by decide)
      · exact absurd (show ([0] : List Nat) = [] from b2) (by decide)
    | 12 =>
      simp only [setF, unB, Bool.or_eq_true, Bool.and_eq_true, Bool.not_eq_true', beq_iff_eq, bne_iff_ne, ne_eq, beq_eq_false_iff_ne, Bool.and_eq_false_iff, Bool.or_eq_false_iff, List.length_cons, List.length_nil] at hu h1 hrg
      rcases h1 with ⟨a1, a2, a3, a4, a5, ⟨a6, ⟨b1, b2, b3, b4, b5⟩, a7⟩, a8, a9, a10⟩ | ⟨a1, a2, a3, a4, ⟨c1, c2, c3, c4⟩, a6, a8, a9, a10⟩ | ⟨a1, a0, a2, a3, a4, a5, a11, a12, ⟨c1, c2, c3, c4⟩, ⟨a6, ⟨b1, b2, b3, b4, b5⟩, a7⟩⟩ | ⟨a1, ⟨a2, a3, a4, a5, a11, a12, ⟨c1, c2, c3, c4⟩, ⟨a6, ⟨b1, b2, b3, b4, b5⟩, a7⟩⟩, a9, a10⟩
      · exact absurd (show (1 : Int) = 0 from b5) (by decide)
      · have a1' : p.kind = 2 := a1
        rcases a6 with ⟨e1, e2, e3⟩ | ⟨e1, ⟨n1, n2, n3, n4, n5⟩, e3⟩ | ⟨e1, ⟨n1, n2, n3, n4, n5⟩, e3⟩
        · have e1' : p.verd = 0 := e1
          omega
        · exact absurd (show (1 : Int) = 0 from n5) (by decide)
        · exact absurd (show (1 : Int) = 0 from n5) (by decide)
      · exact absurd (show (1 : Int) = 0 from b5) (by decide)
      · exact absurd (show (1 : Int) = 0 from b5) (by decide)
    | 13 =>
      simp only [setF, unB, Bool.or_eq_true, Bool.and_eq_true, Bool.not_eq_true', beq_iff_eq, bne_iff_ne, ne_eq, beq_eq_false_iff_ne, Bool.and_eq_false_iff, Bool.or_eq_false_iff, List.length_cons, List.length_nil] at hu h1 hrg
      rcases h1 with ⟨a1, a2, a3, a4, a5, ⟨a6, ⟨b1, b2, b3, b4, b5⟩, a7⟩, a8, a9, a10⟩ | ⟨a1, a2, a3, a4, ⟨c1, c2, c3, c4⟩, a6, a8, a9, a10⟩ | ⟨a1, a0, a2, a3, a4, a5, a11, a12, ⟨c1, c2, c3, c4⟩, ⟨a6, ⟨b1, b2, b3, b4, b5⟩, a7⟩⟩ | ⟨a1, ⟨a2, a3, a4, a5, a11, a12, ⟨c1, c2, c3, c4⟩, ⟨a6, ⟨b1, b2, b3, b4, b5⟩, a7⟩⟩, a9, a10⟩
      · exact absurd (show (1 : Int) = 0 from a7) (by decide)
      · have a1' : p.kind = 2 := a1
        rcases a6 with ⟨e1, e2, e3⟩ | ⟨e1, ⟨n1, n2, n3, n4, n5⟩, e3⟩ | ⟨e1, ⟨n1, n2, n3, n4, n5⟩, e3⟩
        · exact absurd (show (1 : Int) = 0 from e3) (by decide)
        · exact absurd (show (1 : Int) = 0 from e3) (by decide)
        · have e1' : p.verd = 220 ∨ p.verd = 221 := e1
          omega
      · exact absurd (show (1 : Int) = 0 from a7) (by decide)
      · exact absurd (show (1 : Int) = 0 from a7) (by decide)
    | k + 14 => simp [unB] at hu
theorem MW.num {Z : World} {p : Ml} {l : Lm} (h : MW Z p l) (k : Nat) (hk : k ≠ 2 ∧ k ≠ 6 ∧ k ≠ 7 ∧ k ≠ 11) : MW Z (setF p k) l := by
  have hr : (setF p k).root < 18446744073709551616 := by
    match k with
    | 0 => exact h.root
    | 1 => exact by show (1 : Nat) < _; omega
    | 2 => exact h.root
    | 3 => exact h.root
    | 4 => exact h.root
    | 5 => exact h.root
    | 6 => exact h.root
    | 7 => exact h.root
    | 8 => exact h.root
    | 9 => exact h.root
    | 10 => exact h.root
    | 11 => exact h.root
    | 12 => exact h.root
    | 13 => exact h.root
    | k + 14 => exact h.root
  have e6 : getT (setF p k) 6 = getT p 6 ∧ getT (setF p k) 10 = getT p 10 ∧ getT (setF p k) 11 = getT p 11 ∧ getT (setF p k) 15 = getT p 15 ∧ getT (setF p k) 16 = getT p 16 := by
    match k with
    | 0 => exact ⟨rfl, rfl, rfl, rfl, rfl⟩
    | 1 => exact ⟨rfl, rfl, rfl, rfl, rfl⟩
    | 2 => omega
    | 3 => exact ⟨rfl, rfl, rfl, rfl, rfl⟩
    | 4 => exact ⟨rfl, rfl, rfl, rfl, rfl⟩
    | 5 => exact ⟨rfl, rfl, rfl, rfl, rfl⟩
    | 6 => omega
    | 7 => omega
    | 8 => exact ⟨rfl, rfl, rfl, rfl, rfl⟩
    | 9 => exact ⟨rfl, rfl, rfl, rfl, rfl⟩
    | 10 => exact ⟨rfl, rfl, rfl, rfl, rfl⟩
    | 11 => omega
    | 12 => exact ⟨rfl, rfl, rfl, rfl, rfl⟩
    | 13 => exact ⟨rfl, rfl, rfl, rfl, rfl⟩
    | k + 14 => exact ⟨rfl, rfl, rfl, rfl, rfl⟩
  have e7 : ∀ o, isT o → getT (setF p k) o = getT p o := by
    rintro o (rfl | rfl | rfl | rfl | rfl)
    · exact e6.1
    · exact e6.2.1
    · exact e6.2.2.1
    · exact e6.2.2.2.1
    · exact e6.2.2.2.2
  have e8 : ∀ o, isT o → slT l (setF p k) o = slT l p o := by
    rintro o (rfl | rfl | rfl | rfl | rfl)
    · show Value.slice l.ca (getT (setF p k) 6).length l.cc = _; rw [e6.1]; rfl
    · show Value.slice l.ka (getT (setF p k) 10).length l.kc = _; rw [e6.2.1]; rfl
    · show Value.slice l.va (getT (setF p k) 11).length l.vc = _; rw [e6.2.2.1]; rfl
    · show Value.slice l.xa (getT (setF p k) 15).length l.xc = _; rw [e6.2.2.2.1]; rfl
    · show Value.slice l.ya (getT (setF p k) 16).length l.yc = _; rw [e6.2.2.2.2]; rfl
  exact ⟨fun o ho => by rw [e7 o ho, e8 o ho]; exact h.wide o ho, fun o ho => by rw [e7 o ho]; exact h.len o ho, fun o ho => by rw [e7 o ho]; exact h.byt o ho, hr⟩
theorem MW.lst2 {Z : World} {p : Ml} {l : Lm} {a : Option Addr} (h : MW Z p l) (hn : Wide Z (.slice a 1 1) [0]) : MW Z (setF p 2) (setLm l a 2) := by
  refine ⟨?_, ?_, ?_, h.root⟩
  · rintro o (rfl | rfl | rfl | rfl | rfl)
    · exact hn
    · exact h.wide 10 (by simp [isT])
    · exact h.wide 11 (by simp [isT])
    · exact h.wide 15 (by simp [isT])
    · exact h.wide 16 (by simp [isT])
  · rintro o (rfl | rfl | rfl | rfl | rfl)
    · exact by show (1 : Nat) ≤ _; omega
    · exact h.len 10 (by simp [isT])
    · exact h.len 11 (by simp [isT])
    · exact h.len 15 (by simp [isT])
    · exact h.len 16 (by simp [isT])
  · rintro o (rfl | rfl | rfl | rfl | rfl)
    · exact fun x hx => by have h0 : x = 0 := (by simpa [getT, setF] using hx); omega
    · exact h.byt 10 (by simp [isT])
    · exact h.byt 11 (by simp [isT])
    · exact h.byt 15 (by simp [isT])
    · exact h.byt 16 (by simp [isT])
theorem MW.lst6 {Z : World} {p : Ml} {l : Lm} {a : Option Addr} (h : MW Z p l) (hn : Wide Z (.slice a 1 1) [0]) : MW Z (setF p 6) (setLm l a 6) := by
  refine ⟨?_, ?_, ?_, h.root⟩
  · rintro o (rfl | rfl | rfl | rfl | rfl)
    · exact h.wide 6 (by simp [isT])
    · exact hn
    · exact h.wide 11 (by simp [isT])
    · exact h.wide 15 (by simp [isT])
    · exact h.wide 16 (by simp [isT])
  · rintro o (rfl | rfl | rfl | rfl | rfl)
    · exact h.len 6 (by simp [isT])
    · exact by show (1 : Nat) ≤ _; omega
    · exact h.len 11 (by simp [isT])
    · exact h.len 15 (by simp [isT])
    · exact h.len 16 (by simp [isT])
  · rintro o (rfl | rfl | rfl | rfl | rfl)
    · exact h.byt 6 (by simp [isT])
    · exact fun x hx => by have h0 : x = 0 := (by simpa [getT, setF] using hx); omega
    · exact h.byt 11 (by simp [isT])
    · exact h.byt 15 (by simp [isT])
    · exact h.byt 16 (by simp [isT])
theorem MW.lst7 {Z : World} {p : Ml} {l : Lm} {a : Option Addr} (h : MW Z p l) (hn : Wide Z (.slice a 1 1) [0]) : MW Z (setF p 7) (setLm l a 7) := by
  refine ⟨?_, ?_, ?_, h.root⟩
  · rintro o (rfl | rfl | rfl | rfl | rfl)
    · exact h.wide 6 (by simp [isT])
    · exact h.wide 10 (by simp [isT])
    · exact hn
    · exact h.wide 15 (by simp [isT])
    · exact h.wide 16 (by simp [isT])
  · rintro o (rfl | rfl | rfl | rfl | rfl)
    · exact h.len 6 (by simp [isT])
    · exact h.len 10 (by simp [isT])
    · exact by show (1 : Nat) ≤ _; omega
    · exact h.len 15 (by simp [isT])
    · exact h.len 16 (by simp [isT])
  · rintro o (rfl | rfl | rfl | rfl | rfl)
    · exact h.byt 6 (by simp [isT])
    · exact h.byt 10 (by simp [isT])
    · exact fun x hx => by have h0 : x = 0 := (by simpa [getT, setF] using hx); omega
    · exact h.byt 15 (by simp [isT])
    · exact h.byt 16 (by simp [isT])
theorem MW.lst11 {Z : World} {p : Ml} {l : Lm} {a : Option Addr} (h : MW Z p l) (hn : Wide Z (.slice a 1 1) [0]) : MW Z (setF p 11) (setLm l a 11) := by
  refine ⟨?_, ?_, ?_, h.root⟩
  · rintro o (rfl | rfl | rfl | rfl | rfl)
    · exact h.wide 6 (by simp [isT])
    · exact h.wide 10 (by simp [isT])
    · exact h.wide 11 (by simp [isT])
    · exact hn
    · exact h.wide 16 (by simp [isT])
  · rintro o (rfl | rfl | rfl | rfl | rfl)
    · exact h.len 6 (by simp [isT])
    · exact h.len 10 (by simp [isT])
    · exact h.len 11 (by simp [isT])
    · exact by show (1 : Nat) ≤ _; omega
    · exact h.len 16 (by simp [isT])
  · rintro o (rfl | rfl | rfl | rfl | rfl)
    · exact h.byt 6 (by simp [isT])
    · exact h.byt 10 (by simp [isT])
    · exact h.byt 11 (by simp [isT])
    · exact fun x hx => by have h0 : x = 0 := (by simpa [getT, setF] using hx); omega
    · exact h.byt 16 (by simp [isT])
end Go.Proofs.YtfhfkpgfnlmfhabDoor

/- What MailUnused has behind its switch. -/
namespace Go.Proofs.YtfhfkpgfnlmfhabDoor
open Go.RowKit

/-- What MailUnused has behind its switch. -/
structure UnI (w : World) (p' : Ml) (l' : Lm) (u : Bool) (Z : World) : Prop where
  blk : Blk Z w.heap.size (mcc p' l') 30
  mw : MW Z p' l'
  no : u = true → snd p' = false
  kept : Kept [] w Z
end Go.Proofs.YtfhfkpgfnlmfhabDoor
