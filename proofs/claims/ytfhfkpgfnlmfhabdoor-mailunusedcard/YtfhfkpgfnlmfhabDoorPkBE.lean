/- Texts laid one behind the other: MUnuP MUnuI MUnW. -/
import Derived.Test.YtfhfkpgfnlmfhabDoorPkBD
import Derived.OpenShut
import Derived.Test.YtfhfkpgfnlmfhabDoorMUnA
import Derived.Test.YtfhfkpgfnlmfhabDoorMUnB
import Derived.Test.YtfhfkpgfnlmfhabDoorMUnC
import Derived.Test.YtfhfkpgfnlmfhabDoorMUnD
import Derived.Test.YtfhfkpgfnlmfhabDoorMUnE
/- MailUnused: fields that a kind has not. -/
namespace Go.Proofs.YtfhfkpgfnlmfhabDoor
open Go.RowKit

/-- A field that says something. -/
def setF (p : Ml) : Nat → Ml
  | 0 => { p with epoch := 1 }
  | 1 => { p with root := 1 }
  | 2 => { p with copy := [0] }
  | 3 => { p with client := 1 }
  | 4 => { p with seq := 1 }
  | 5 => { p with okind := 1 }
  | 6 => { p with key := [0] }
  | 7 => { p with val := [0] }
  | 8 => { p with rev := 1 }
  | 9 => { p with verd := 221 }
  | 10 => { p with done := true }
  | 11 => { p with akey := [0] }
  | 12 => { p with aat := 1 }
  | 13 => { p with hint := 1 }
  | _ => p
/-- Where the lists lie then. -/
def setLm (l : Lm) (a : Option Addr) : Nat → Lm
  | 2 => { l with ca := a, cc := 1 }
  | 6 => { l with ka := a, kc := 1 }
  | 7 => { l with va := a, vc := 1 }
  | 11 => { l with xa := a, xc := 1 }
  | _ => l
/-- The kind, or the verdict, has it not. -/
def unB (p : Ml) : Nat → Bool
  | 0 => (p.kind == 1) || (p.kind == 2)
  | 1 => !(p.kind == 3)
  | 2 => !(p.kind == 3)
  | 3 => !(p.kind == 1) && !(p.kind == 2)
  | 4 => !(p.kind == 1) && !(p.kind == 2)
  | 5 => !(p.kind == 1)
  | 6 => !(p.kind == 1)
  | 7 => !(p.kind == 1) || ((p.okind != 2) && (p.okind != 4))
  | 8 => !(p.kind == 1) || (p.okind != 4)
  | 9 => !(p.kind == 2)
  | 10 => !((p.kind == 2) && (p.verd == 0))
  | 11 => !((p.kind == 2) && (p.verd == 0))
  | 12 => !((p.kind == 2) && (p.verd == 0))
  | 13 => !((p.kind == 2) && ((p.verd == 220) || (p.verd == 221)))
  | _ => false
set_option linter.unusedSimpArgs false in
set_option maxHeartbeats 1600000 in
theorem unused_no {p : Ml} (hs : snd p = true) (k : Nat) (hu : unB p k = true) : snd (setF p k) = false := by
  cases h : snd (setF p k) with
  | false => rfl
  | true =>
    exfalso
    have h0 := ((snd_iff p).1 hs).2
    obtain ⟨_, h1⟩ := (snd_iff _).1 h
    have hrg := @rgt_iff (setF p k).okind (setF p k).key.length (setF p k).val.length (setF p k).rev
    match k with
    | 0 =>
      simp only [setF, unB, Bool.or_eq_true, Bool.and_eq_true, Bool.not_eq_true', beq_iff_eq, bne_iff_ne, ne_eq, beq_eq_false_iff_ne, Bool.and_eq_false_iff, Bool.or_eq_false_iff, List.length_cons, List.length_nil] at hu h1 hrg
      rcases h1 with ⟨a1, a2, a3, a4, a5, ⟨a6, ⟨b1, b2, b3, b4, b5⟩, a7⟩, a8, a9, a10⟩ | ⟨a1, a2, a3, a4, ⟨c1, c2, c3, c4⟩, a6, a8, a9, a10⟩ | ⟨a1, a0, a2, a3, a4, a5, a11, a12, ⟨c1, c2, c3, c4⟩, ⟨a6, ⟨b1, b2, b3, b4, b5⟩, a7⟩⟩ | ⟨a1, ⟨a2, a3, a4, a5, a11, a12, ⟨c1, c2, c3, c4⟩, ⟨a6, ⟨b1, b2, b3, b4, b5⟩, a7⟩⟩, a9, a10⟩
      all_goals (try have a5' := hrg a5)
      all_goals (first | (simp_all; done) | (simp_all; omega) | (simp [verdP, noAnsP, fitP, srvP] at a6; simp_all; omega) | (simp [verdP, noAnsP, fitP, srvP] at a6; omega) | omega)
    | 1 =>
      simp only [setF, unB, Bool.or_eq_true, Bool.and_eq_true, Bool.not_eq_true', beq_iff_eq, bne_iff_ne, ne_eq, beq_eq_false_iff_ne, Bool.and_eq_false_iff, Bool.or_eq_false_iff, List.length_cons, List.length_nil] at hu h1 hrg
      rcases h1 with ⟨a1, a2, a3, a4, a5, ⟨a6, ⟨b1, b2, b3, b4, b5⟩, a7⟩, a8, a9, a10⟩ | ⟨a1, a2, a3, a4, ⟨c1, c2, c3, c4⟩, a6, a8, a9, a10⟩ | ⟨a1, a0, a2, a3, a4, a5, a11, a12, ⟨c1, c2, c3, c4⟩, ⟨a6, ⟨b1, b2, b3, b4, b5⟩, a7⟩⟩ | ⟨a1, ⟨a2, a3, a4, a5, a11, a12, ⟨c1, c2, c3, c4⟩, ⟨a6, ⟨b1, b2, b3, b4, b5⟩, a7⟩⟩, a9, a10⟩
      all_goals (try have a5' := hrg a5)
      all_goals (first | (simp_all; done) | (simp_all; omega) | (simp [verdP, noAnsP, fitP, srvP] at a6; simp_all; omega) | (simp [verdP, noAnsP, fitP, srvP] at a6; omega) | omega)
    | 2 =>
      simp only [setF, unB, Bool.or_eq_true, Bool.and_eq_true, Bool.not_eq_true', beq_iff_eq, bne_iff_ne, ne_eq, beq_eq_false_iff_ne, Bool.and_eq_false_iff, Bool.or_eq_false_iff, List.length_cons, List.length_nil] at hu h1 hrg
      rcases h1 with ⟨a1, a2, a3, a4, a5, ⟨a6, ⟨b1, b2, b3, b4, b5⟩, a7⟩, a8, a9, a10⟩ | ⟨a1, a2, a3, a4, ⟨c1, c2, c3, c4⟩, a6, a8, a9, a10⟩ | ⟨a1, a0, a2, a3, a4, a5, a11, a12, ⟨c1, c2, c3, c4⟩, ⟨a6, ⟨b1, b2, b3, b4, b5⟩, a7⟩⟩ | ⟨a1, ⟨a2, a3, a4, a5, a11, a12, ⟨c1, c2, c3, c4⟩, ⟨a6, ⟨b1, b2, b3, b4, b5⟩, a7⟩⟩, a9, a10⟩
      all_goals (try have a5' := hrg a5)
      all_goals (first | (simp_all; done) | (simp_all; omega) | (simp [verdP, noAnsP, fitP, srvP] at a6; simp_all; omega) | (simp [verdP, noAnsP, fitP, srvP] at a6; omega) | omega)
    | 3 =>
      simp only [setF, unB, Bool.or_eq_true, Bool.and_eq_true, Bool.not_eq_true', beq_iff_eq, bne_iff_ne, ne_eq, beq_eq_false_iff_ne, Bool.and_eq_false_iff, Bool.or_eq_false_iff, List.length_cons, List.length_nil] at hu h1 hrg
      rcases h1 with ⟨a1, a2, a3, a4, a5, ⟨a6, ⟨b1, b2, b3, b4, b5⟩, a7⟩, a8, a9, a10⟩ | ⟨a1, a2, a3, a4, ⟨c1, c2, c3, c4⟩, a6, a8, a9, a10⟩ | ⟨a1, a0, a2, a3, a4, a5, a11, a12, ⟨c1, c2, c3, c4⟩, ⟨a6, ⟨b1, b2, b3, b4, b5⟩, a7⟩⟩ | ⟨a1, ⟨a2, a3, a4, a5, a11, a12, ⟨c1, c2, c3, c4⟩, ⟨a6, ⟨b1, b2, b3, b4, b5⟩, a7⟩⟩, a9, a10⟩
      all_goals (try have a5' := hrg a5)
      all_goals (first | (simp_all; done) | (simp_all; omega) | (simp [verdP, noAnsP, fitP, srvP] at a6; simp_all; omega) | (simp [verdP, noAnsP, fitP, srvP] at a6; omega) | omega)
    | 4 =>
      simp only [setF, unB, Bool.or_eq_true, Bool.and_eq_true, Bool.not_eq_true', beq_iff_eq, bne_iff_ne, ne_eq, beq_eq_false_iff_ne, Bool.and_eq_false_iff, Bool.or_eq_false_iff, List.length_cons, List.length_nil] at hu h1 hrg
      rcases h1 with ⟨a1, a2, a3, a4, a5, ⟨a6, ⟨b1, b2, b3, b4, b5⟩, a7⟩, a8, a9, a10⟩ | ⟨a1, a2, a3, a4, ⟨c1, c2, c3, c4⟩, a6, a8, a9, a10⟩ | ⟨a1, a0, a2, a3, a4, a5, a11, a12, ⟨c1, c2, c3, c4⟩, ⟨a6, ⟨b1, b2, b3, b4, b5⟩, a7⟩⟩ | ⟨a1, ⟨a2, a3, a4, a5, a11, a12, ⟨c1, c2, c3, c4⟩, ⟨a6, ⟨b1, b2, b3, b4, b5⟩, a7⟩⟩, a9, a10⟩
      all_goals (try have a5' := hrg a5)
      all_goals (first | (simp_all; done) | (simp_all; omega) | (simp [verdP, noAnsP, fitP, srvP] at a6; simp_all; omega) | (simp [verdP, noAnsP, fitP, srvP] at a6; omega) | omega)
    | 5 =>
      simp only [setF, unB, Bool.or_eq_true, Bool.and_eq_true, Bool.not_eq_true', beq_iff_eq, bne_iff_ne, ne_eq, beq_eq_false_iff_ne, Bool.and_eq_false_iff, Bool.or_eq_false_iff, List.length_cons, List.length_nil] at hu h1 hrg
      rcases h1 with ⟨a1, a2, a3, a4, a5, ⟨a6, ⟨b1, b2, b3, b4, b5⟩, a7⟩, a8, a9, a10⟩ | ⟨a1, a2, a3, a4, ⟨c1, c2, c3, c4⟩, a6, a8, a9, a10⟩ | ⟨a1, a0, a2, a3, a4, a5, a11, a12, ⟨c1, c2, c3, c4⟩, ⟨a6, ⟨b1, b2, b3, b4, b5⟩, a7⟩⟩ | ⟨a1, ⟨a2, a3, a4, a5, a11, a12, ⟨c1, c2, c3, c4⟩, ⟨a6, ⟨b1, b2, b3, b4, b5⟩, a7⟩⟩, a9, a10⟩
      all_goals (try have a5' := hrg a5)
      all_goals (first | (simp_all; done) | (simp_all; omega) | (simp [verdP, noAnsP, fitP, srvP] at a6; simp_all; omega) | (simp [verdP, noAnsP, fitP, srvP] at a6; omega) | omega)
    | 6 =>
      simp only [setF, unB, Bool.or_eq_true, Bool.and_eq_true, Bool.not_eq_true', beq_iff_eq, bne_iff_ne, ne_eq, beq_eq_false_iff_ne, Bool.and_eq_false_iff, Bool.or_eq_false_iff, List.length_cons, List.length_nil] at hu h1 hrg
      rcases h1 with ⟨a1, a2, a3, a4, a5, ⟨a6, ⟨b1, b2, b3, b4, b5⟩, a7⟩, a8, a9, a10⟩ | ⟨a1, a2, a3, a4, ⟨c1, c2, c3, c4⟩, a6, a8, a9, a10⟩ | ⟨a1, a0, a2, a3, a4, a5, a11, a12, ⟨c1, c2, c3, c4⟩, ⟨a6, ⟨b1, b2, b3, b4, b5⟩, a7⟩⟩ | ⟨a1, ⟨a2, a3, a4, a5, a11, a12, ⟨c1, c2, c3, c4⟩, ⟨a6, ⟨b1, b2, b3, b4, b5⟩, a7⟩⟩, a9, a10⟩
      all_goals (try have a5' := hrg a5)
      all_goals (first | (simp_all; done) | (simp_all; omega) | (simp [verdP, noAnsP, fitP, srvP] at a6; simp_all; omega) | (simp [verdP, noAnsP, fitP, srvP] at a6; omega) | omega)
    | 7 =>
      simp only [setF, unB, Bool.or_eq_true, Bool.and_eq_true, Bool.not_eq_true', beq_iff_eq, bne_iff_ne, ne_eq, beq_eq_false_iff_ne, Bool.and_eq_false_iff, Bool.or_eq_false_iff, List.length_cons, List.length_nil] at hu h1 hrg
      rcases h1 with ⟨a1, a2, a3, a4, a5, ⟨a6, ⟨b1, b2, b3, b4, b5⟩, a7⟩, a8, a9, a10⟩ | ⟨a1, a2, a3, a4, ⟨c1, c2, c3, c4⟩, a6, a8, a9, a10⟩ | ⟨a1, a0, a2, a3, a4, a5, a11, a12, ⟨c1, c2, c3, c4⟩, ⟨a6, ⟨b1, b2, b3, b4, b5⟩, a7⟩⟩ | ⟨a1, ⟨a2, a3, a4, a5, a11, a12, ⟨c1, c2, c3, c4⟩, ⟨a6, ⟨b1, b2, b3, b4, b5⟩, a7⟩⟩, a9, a10⟩
      all_goals (try have a5' := hrg a5)
      all_goals (first | (simp_all; done) | (simp_all; omega) | (simp [verdP, noAnsP, fitP, srvP] at a6; simp_all; omega) | (simp [verdP, noAnsP, fitP, srvP] at a6; omega) | omega)
    | 8 =>
      simp only [setF, unB, Bool.or_eq_true, Bool.and_eq_true, Bool.not_eq_true', beq_iff_eq, bne_iff_ne, ne_eq, beq_eq_false_iff_ne, Bool.and_eq_false_iff, Bool.or_eq_false_iff, List.length_cons, List.length_nil] at hu h1 hrg
      rcases h1 with ⟨a1, a2, a3, a4, a5, ⟨a6, ⟨b1, b2, b3, b4, b5⟩, a7⟩, a8, a9, a10⟩ | ⟨a1, a2, a3, a4, ⟨c1, c2, c3, c4⟩, a6, a8, a9, a10⟩ | ⟨a1, a0, a2, a3, a4, a5, a11, a12, ⟨c1, c2, c3, c4⟩, ⟨a6, ⟨b1, b2, b3, b4, b5⟩, a7⟩⟩ | ⟨a1, ⟨a2, a3, a4, a5, a11, a12, ⟨c1, c2, c3, c4⟩, ⟨a6, ⟨b1, b2, b3, b4, b5⟩, a7⟩⟩, a9, a10⟩
      all_goals (try have a5' := hrg a5)
      all_goals (first | (simp_all; done) | (simp_all; omega) | (simp [verdP, noAnsP, fitP, srvP] at a6; simp_all; omega) | (simp [verdP, noAnsP, fitP, srvP] at a6; omega) | omega)
    | 9 =>
      simp only [setF, unB, Bool.or_eq_true, Bool.and_eq_true, Bool.not_eq_true', beq_iff_eq, bne_iff_ne, ne_eq, beq_eq_false_iff_ne, Bool.and_eq_false_iff, Bool.or_eq_false_iff, List.length_cons, List.length_nil] at hu h1 hrg
      rcases h1 with ⟨a1, a2, a3, a4, a5, ⟨a6, ⟨b1, b2, b3, b4, b5⟩, a7⟩, a8, a9, a10⟩ | ⟨a1, a2, a3, a4, ⟨c1, c2, c3, c4⟩, a6, a8, a9, a10⟩ | ⟨a1, a0, a2, a3, a4, a5, a11, a12, ⟨c1, c2, c3, c4⟩, ⟨a6, ⟨b1, b2, b3, b4, b5⟩, a7⟩⟩ | ⟨a1, ⟨a2, a3, a4, a5, a11, a12, ⟨c1, c2, c3, c4⟩, ⟨a6, ⟨b1, b2, b3, b4, b5⟩, a7⟩⟩, a9, a10⟩
      all_goals (try have a5' := hrg a5)
      all_goals (first | (simp_all; done) | (simp_all; omega) | (simp [verdP, noAnsP, fitP, srvP] at a6; simp_all; omega) | (simp [verdP, noAnsP, fitP, srvP] at a6; omega) | omega)
    | 10 =>
      simp only [setF, unB, Bool.or_eq_true, Bool.and_eq_true, Bool.not_eq_true', beq_iff_eq, bne_iff_ne, ne_eq, beq_eq_false_iff_ne, Bool.and_eq_false_iff, Bool.or_eq_false_iff, List.length_cons, List.length_nil] at hu h1 hrg
      rcases h1 with ⟨a1, a2, a3, a4, a5, ⟨a6, ⟨b1, b2, b3, b4, b5⟩, a7⟩, a8, a9, a10⟩ | ⟨a1, a2, a3, a4, ⟨c1, c2, c3, c4⟩, a6, a8, a9, a10⟩ | ⟨a1, a0, a2, a3, a4, a5, a11, a12, ⟨c1, c2, c3, c4⟩, ⟨a6, ⟨b1, b2, b3, b4, b5⟩, a7⟩⟩ | ⟨a1, ⟨a2, a3, a4, a5, a11, a12, ⟨c1, c2, c3, c4⟩, ⟨a6, ⟨b1, b2, b3, b4, b5⟩, a7⟩⟩, a9, a10⟩
      · exact absurd (show true = false from b1) (by decide)
      · have a1' : p.kind = 2 := a1
        rcases a6 with ⟨e1, e2, e3⟩ | ⟨e1, ⟨n1, n2, n3, n4, n5⟩, e3⟩ | ⟨e1, ⟨n1, n2, n3, n4, n5⟩, e3⟩
        · have e1' : p.verd = 0 := e1
          omega
        · exact absurd (show true = false from n1) (by decide)
        · exact absurd (show true = false from n1) (by decide)
      · exact absurd (show true = false from b1) (by decide)
      · exact absurd (show true = false from b1) (by decide)
    | 11 =>
      simp only [setF, unB, Bool.or_eq_true, Bool.and_eq_true, Bool.not_eq_true', beq_iff_eq, bne_iff_ne, ne_eq, beq_eq_false_iff_ne, Bool.and_eq_false_iff, Bool.or_eq_false_iff, List.length_cons, List.length_nil] at hu h1 hrg
      rcases h1 with ⟨a1, a2, a3, a4, a5, ⟨a6, ⟨b1, b2, b3, b4, b5⟩, a7⟩, a8, a9, a10⟩ | ⟨a1, a2, a3, a4, ⟨c1, c2, c3, c4⟩, a6, a8, a9, a10⟩ | ⟨a1, a0, a2, a3, a4, a5, a11, a12, ⟨c1, c2, c3, c4⟩, ⟨a6, ⟨b1, b2, b3, b4, b5⟩, a7⟩⟩ | ⟨a1, ⟨a2, a3, a4, a5, a11, a12, ⟨c1, c2, c3, c4⟩, ⟨a6, ⟨b1, b2, b3, b4, b5⟩, a7⟩⟩, a9, a10⟩
      · exact absurd (show ([0] : List Nat) = [] from b2) (by decide)
      · have a1' : p.kind = 2 := a1
        rcases a6 with ⟨e1, e2, e3⟩ | ⟨e1, ⟨n1, n2, n3, n4, n5⟩, e3⟩ | ⟨e1, ⟨n1, n2, n3, n4, n5⟩, e3⟩
        · have e1' : p.verd = 0 := e1
          omega
        · exact absurd (show ([0] : List Nat) = [] from n2) (by decide)
        · exact absurd (show ([0] : List Nat) = [] from n2) (by decide)
      · exact absurd (show ([0] : List Nat) = [] from b2) (by decide)
      · exact absurd (show ([0] : List Nat) = [] from b2) (by decide)
    | 12 =>
      simp only [setF, unB, Bool.or_eq_true, Bool.and_eq_true, Bool.not_eq_true', beq_iff_eq, bne_iff_ne, ne_eq, beq_eq_false_iff_ne, Bool.and_eq_false_iff, Bool.or_eq_false_iff, List.length_cons, List.length_nil] at hu h1 hrg
      rcases h1 with ⟨a1, a2, a3, a4, a5, ⟨a6, ⟨b1, b2, b3, b4, b5⟩, a7⟩, a8, a9, a10⟩ | ⟨a1, a2, a3, a4, ⟨c1, c2, c3, c4⟩, a6, a8, a9, a10⟩ | ⟨a1, a0, a2, a3, a4, a5, a11, a12, ⟨c1, c2, c3, c4⟩, ⟨a6, ⟨b1, b2, b3, b4, b5⟩, a7⟩⟩ | ⟨a1, ⟨a2, a3, a4, a5, a11, a12, ⟨c1, c2, c3, c4⟩, ⟨a6, ⟨b1, b2, b3, b4, b5⟩, a7⟩⟩, a9, a10⟩
      · exact absurd (show (1 : Int) = 0 from b5) (by decide)
      · have a1' : p.kind = 2 := a1
        rcases a6 with ⟨e1, e2, e3⟩ | ⟨e1, ⟨n1, n2, n3, n4, n5⟩, e3⟩ | ⟨e1, ⟨n1, n2, n3, n4, n5⟩, e3⟩
        · have e1' : p.verd = 0 := e1
          omega
        · exact absurd (show (1 : Int) = 0 from n5) (by decide)
        · exact absurd (show (1 : Int) = 0 from n5) (by decide)
      · exact absurd (show (1 : Int) = 0 from b5) (by decide)
      · exact absurd (show (1 : Int) = 0 from b5) (by decide)
    | 13 =>
      simp only [setF, unB, Bool.or_eq_true, Bool.and_eq_true, Bool.not_eq_true', beq_iff_eq, bne_iff_ne, ne_eq, beq_eq_false_iff_ne, Bool.and_eq_false_iff, Bool.or_eq_false_iff, List.length_cons, List.length_nil] at hu h1 hrg
      rcases h1 with ⟨a1, a2, a3, a4, a5, ⟨a6, ⟨b1, b2, b3, b4, b5⟩, a7⟩, a8, a9, a10⟩ | ⟨a1, a2, a3, a4, ⟨c1, c2, c3, c4⟩, a6, a8, a9, a10⟩ | ⟨a1, a0, a2, a3, a4, a5, a11, a12, ⟨c1, c2, c3, c4⟩, ⟨a6, ⟨b1, b2, b3, b4, b5⟩, a7⟩⟩ | ⟨a1, ⟨a2, a3, a4, a5, a11, a12, ⟨c1, c2, c3, c4⟩, ⟨a6, ⟨b1, b2, b3, b4, b5⟩, a7⟩⟩, a9, a10⟩
      · exact absurd (show (1 : Int) = 0 from a7) (by decide)
      · have a1' : p.kind = 2 := a1
        rcases a6 with ⟨e1, e2, e3⟩ | ⟨e1, ⟨n1, n2, n3, n4, n5⟩, e3⟩ | ⟨e1, ⟨n1, n2, n3, n4, n5⟩, e3⟩
        · exact absurd (show (1 : Int) = 0 from e3) (by decide)
        · exact absurd (show (1 : Int) = 0 from e3) (by decide)
        · have e1' : p.verd = 220 ∨ p.verd = 221 := e1
          omega
      · exact absurd (show (1 : Int) = 0 from a7) (by decide)
      · exact absurd (show (1 : Int) = 0 from a7) (by decide)
    | k + 14 => simp [unB] at hu
theorem MW.num {Z : World} {p : Ml} {l : Lm} (h : MW Z p l) (k : Nat) (hk : k ≠ 2 ∧ k ≠ 6 ∧ k ≠ 7 ∧ k ≠ 11) : MW Z (setF p k) l := by
  have hr : (setF p k).root < 18446744073709551616 := by
    match k with
    | 0 => exact h.root
    | 1 => exact by show (1 : Nat) < _; omega
    | 2 => exact h.root
    | 3 => exact h.root
    | 4 => exact h.root
    | 5 => exact h.root
    | 6 => exact h.root
    | 7 => exact h.root
    | 8 => exact h.root
    | 9 => exact h.root
    | 10 => exact h.root
    | 11 => exact h.root
    | 12 => exact h.root
    | 13 => exact h.root
    | k + 14 => exact h.root
  have e6 : getT (setF p k) 6 = getT p 6 ∧ getT (setF p k) 10 = getT p 10 ∧ getT (setF p k) 11 = getT p 11 ∧ getT (setF p k) 15 = getT p 15 ∧ getT (setF p k) 16 = getT p 16 := by
    match k with
    | 0 => exact ⟨rfl, rfl, rfl, rfl, rfl⟩
    | 1 => exact ⟨rfl, rfl, rfl, rfl, rfl⟩
    | 2 => omega
    | 3 => exact ⟨rfl, rfl, rfl, rfl, rfl⟩
    | 4 => exact ⟨rfl, rfl, rfl, rfl, rfl⟩
    | 5 => exact ⟨rfl, rfl, rfl, rfl, rfl⟩
    | 6 => omega
    | 7 => omega
    | 8 => exact ⟨rfl, rfl, rfl, rfl, rfl⟩
    | 9 => exact ⟨rfl, rfl, rfl, rfl, rfl⟩
    | 10 => exact ⟨rfl, rfl, rfl, rfl, rfl⟩
    | 11 => omega
    | 12 => exact ⟨rfl, rfl, rfl, rfl, rfl⟩
    | 13 => exact ⟨rfl, rfl, rfl, rfl, rfl⟩
    | k + 14 => exact ⟨rfl, rfl, rfl, rfl, rfl⟩
  have e7 : ∀ o, isT o → getT (setF p k) o = getT p o := by
    rintro o (rfl | rfl | rfl | rfl | rfl)
    · exact e6.1
    · exact e6.2.1
    · exact e6.2.2.1
    · exact e6.2.2.2.1
    · exact e6.2.2.2.2
  have e8 : ∀ o, isT o → slT l (setF p k) o = slT l p o := by
    rintro o (rfl | rfl | rfl | rfl | rfl)
    · show Value.slice l.ca (getT (setF p k) 6).length l.cc = _; rw [e6.1]; rfl
    · show Value.slice l.ka (getT (setF p k) 10).length l.kc = _; rw [e6.2.1]; rfl
    · show Value.slice l.va (getT (setF p k) 11).length l.vc = _; rw [e6.2.2.1]; rfl
    · show Value.slice l.xa (getT (setF p k) 15).length l.xc = _; rw [e6.2.2.2.1]; rfl
    · show Value.slice l.ya (getT (setF p k) 16).length l.yc = _; rw [e6.2.2.2.2]; rfl
  exact ⟨fun o ho => by rw [e7 o ho, e8 o ho]; exact h.wide o ho, fun o ho => by rw [e7 o ho]; exact h.len o ho, fun o ho => by rw [e7 o ho]; exact h.byt o ho, hr⟩
theorem MW.lst2 {Z : World} {p : Ml} {l : Lm} {a : Option Addr} (h : MW Z p l) (hn : Wide Z (.slice a 1 1) [0]) : MW Z (setF p 2) (setLm l a 2) := by
  refine ⟨?_, ?_, ?_, h.root⟩
  · rintro o (rfl | rfl | rfl | rfl | rfl)
    · exact hn
    · exact h.wide 10 (by simp [isT])
    · exact h.wide 11 (by simp [isT])
    · exact h.wide 15 (by simp [isT])
    · exact h.wide 16 (by simp [isT])
  · rintro o (rfl | rfl | rfl | rfl | rfl)
    · exact by show (1 : Nat) ≤ _; omega
    · exact h.len 10 (by simp [isT])
    · exact h.len 11 (by simp [isT])
    · exact h.len 15 (by simp [isT])
    · exact h.len 16 (by simp [isT])
  · rintro o (rfl | rfl | rfl | rfl | rfl)
    · exact fun x hx => by have h0 : x = 0 := (by simpa [getT, setF] using hx); omega
    · exact h.byt 10 (by simp [isT])
    · exact h.byt 11 (by simp [isT])
    · exact h.byt 15 (by simp [isT])
    · exact h.byt 16 (by simp [isT])
theorem MW.lst6 {Z : World} {p : Ml} {l : Lm} {a : Option Addr} (h : MW Z p l) (hn : Wide Z (.slice a 1 1) [0]) : MW Z (setF p 6) (setLm l a 6) := by
  refine ⟨?_, ?_, ?_, h.root⟩
  · rintro o (rfl | rfl | rfl | rfl | rfl)
    · exact h.wide 6 (by simp [isT])
    · exact hn
    · exact h.wide 11 (by simp [isT])
    · exact h.wide 15 (by simp [isT])
    · exact h.wide 16 (by simp [isT])
  · rintro o (rfl | rfl | rfl | rfl | rfl)
    · exact h.len 6 (by simp [isT])
    · exact by show (1 : Nat) ≤ _; omega
    · exact h.len 11 (by simp [isT])
    · exact h.len 15 (by simp [isT])
    · exact h.len 16 (by simp [isT])
  · rintro o (rfl | rfl | rfl | rfl | rfl)
    · exact h.byt 6 (by simp [isT])
    · exact fun x hx => by have h0 : x = 0 := (by simpa [getT, setF] using hx); omega
    · exact h.byt 11 (by simp [isT])
    · exact h.byt 15 (by simp [isT])
    · exact h.byt 16 (by simp [isT])
theorem MW.lst7 {Z : World} {p : Ml} {l : Lm} {a : Option Addr} (h : MW Z p l) (hn : Wide Z (.slice a 1 1) [0]) : MW Z (setF p 7) (setLm l a 7) := by
  refine ⟨?_, ?_, ?_, h.root⟩
  · rintro o (rfl | rfl | rfl | rfl | rfl)
    · exact h.wide 6 (by simp [isT])
    · exact h.wide 10 (by simp [isT])
    · exact hn
    · exact h.wide 15 (by simp [isT])
    · exact h.wide 16 (by simp [isT])
  · rintro o (rfl | rfl | rfl | rfl | rfl)
    · exact h.len 6 (by simp [isT])
    · exact h.len 10 (by simp [isT])
    · exact by show (1 : Nat) ≤ _; omega
    · exact h.len 15 (by simp [isT])
    · exact h.len 16 (by simp [isT])
  · rintro o (rfl | rfl | rfl | rfl | rfl)
    · exact h.byt 6 (by simp [isT])
    · exact h.byt 10 (by simp [isT])
    · exact fun x hx => by have h0 : x = 0 := (by simpa [getT, setF] using hx); omega
    · exact h.byt 15 (by simp [isT])
    · exact h.byt 16 (by simp [isT])
theorem MW.lst11 {Z : World} {p : Ml} {l : Lm} {a : Option Addr} (h : MW Z p l) (hn : Wide Z (.slice a 1 1) [0]) : MW Z (setF p 11) (setLm l a 11) := by
  refine ⟨?_, ?_, ?_, h.root⟩
  · rintro o (rfl | rfl | rfl | rfl | rfl)
    · exact h.wide 6 (by simp [isT])
    · exact h.wide 10 (by simp [isT])
    · exact h.wide 11 (by simp [isT])
    · exact hn
    · exact h.wide 16 (by simp [isT])
  · rintro o (rfl | rfl | rfl | rfl | rfl)
    · exact h.len 6 (by simp [isT])
    · exact h.len 10 (by simp [isT])
    · exact h.len 11 (by simp [isT])
    · exact by show (1 : Nat) ≤ _; omega
    · exact h.len 16 (by simp [isT])
  · rintro o (rfl | rfl | rfl | rfl | rfl)
    · exact h.byt 6 (by simp [isT])
    · exact h.byt 10 (by simp [isT])
    · exact h.byt 11 (by simp [isT])
    · exact fun x hx => by have h0 : x = 0 := (by simpa [getT, setF] using hx); omega
    · exact h.byt 16 (by simp [isT])
end Go.Proofs.YtfhfkpgfnlmfhabDoor

/- What MailUnused has behind its switch. -/
namespace Go.Proofs.YtfhfkpgfnlmfhabDoor
open Go.RowKit

/-- What MailUnused has behind its switch. -/
structure UnI (w : World) (p' : Ml) (l' : Lm) (u : Bool) (Z : World) : Prop where
  blk : Blk Z w.heap.size (mcc p' l') 30
  mw : MW Z p' l'
  no : u = true → snd p' = false
  kept : Kept [] w Z
end Go.Proofs.YtfhfkpgfnlmfhabDoor

/- MailUnused. -/
namespace Go.Proofs.YtfhfkpgfnlmfhabDoor
open Go.RowKit

set_option maxRecDepth 100000 in
set_option maxHeartbeats 1600000 in
theorem unused_none (w : World) (p : Ml) (l : Lm) (f : Int) (ht : Tab w) (hm : MW w p l) (hs : snd p = false) : Calls Tryd.prog 3 #[mv p l, .int .i64 f] w fun e w' => e = .returned (.bool true) ∧ Kept [] w w' := by
  have HT := hide (fun W (k : Kept [] w W) => ht.kept k (by simp))
  have HM := hide (fun W (k : Kept [] w W) => hm.kept k)
  have HS := hide hs
  clear ht hm hs
  unfold mv
  go_enter Tryd.func3, Tryd.ntmps3
  go_upto_region 1 with fail
  refine world_at (R := fun X => Blk X w.heap.size (mcc p l) 30 ∧ Kept [] w X) ⟨Blk.new _ _ _, (Kept.refl [] w).alloc _⟩ ?_
  rintro X ⟨hb, hk⟩
  have HB := hide hb
  have HK := hide hk
  clear hb hk
  go_wp2_with (first
    | (go_at_call 5; refine (awake_any _ (unhide HT _ (unhide HK))).mono ?_; rintro e w1 ⟨rfl, k1⟩; have HB1 := hide ((unhide HB).kept k1 (by simp)); have HK1 := hide ((unhide HK).step k1); clear k1 HB HK)
    | (refine wpList_load_guard 30 _ rfl _ rfl 30 _ (0, 0) _ (unhide HB1) Tryd.underlying30 rfl infoMail rfl ?_)
    | (go_at_call 6; refine (enc_bad (unhide HT _ (unhide HK1)) (unhide HM _ (unhide HK1)) (unhide HS)).mono ?_; rintro e w2 ⟨rfl, k2⟩; have HK2 := hide ((unhide HK1).step k2); clear k2))
  all_goals
    go_ret
    exact ⟨rfl, unhide HK2⟩
theorem unused_walk (w : World) (p : Ml) (l : Lm) (f : Int) (ht : Tab w) (hm : MW w p l) : Calls Tryd.prog 3 #[mv p l, .int .i64 f] w fun e w' => e = .returned (.bool true) ∧ Kept [] w w' := by
  cases hs : snd p with
  | false => exact unused_none w p l f ht hm hs
  | true =>
    by_cases e0 : f = 0
    · subst e0; exact un0 w p l ht hm hs
    by_cases e1 : f = 1
    · subst e1; exact un1 w p l ht hm hs
    by_cases e2 : f = 2
    · subst e2; exact un2 w p l ht hm hs
    by_cases e3 : f = 3
    · subst e3; exact un3 w p l ht hm hs
    by_cases e4 : f = 4
    · subst e4; exact un4 w p l ht hm hs
    by_cases e5 : f = 5
    · subst e5; exact un5 w p l ht hm hs
    by_cases e6 : f = 6
    · subst e6; exact un6 w p l ht hm hs
    by_cases e7 : f = 7
    · subst e7; exact un7 w p l ht hm hs
    by_cases e8 : f = 8
    · subst e8; exact un8 w p l ht hm hs
    by_cases e9 : f = 9
    · subst e9; exact un9 w p l ht hm hs
    by_cases e10 : f = 10
    · subst e10; exact un10 w p l ht hm hs
    by_cases e11 : f = 11
    · subst e11; exact un11 w p l ht hm hs
    by_cases e12 : f = 12
    · subst e12; exact un12 w p l ht hm hs
    by_cases e13 : f = 13
    · subst e13; exact un13 w p l ht hm hs
    refine uno w p l f ht hm hs ?_
    intro k hk
    match k, hk with
    | 0, _ => exact e0
    | 1, _ => exact e1
    | 2, _ => exact e2
    | 3, _ => exact e3
    | 4, _ => exact e4
    | 5, _ => exact e5
    | 6, _ => exact e6
    | 7, _ => exact e7
    | 8, _ => exact e8
    | 9, _ => exact e9
    | 10, _ => exact e10
    | 11, _ => exact e11
    | 12, _ => exact e12
    | 13, _ => exact e13
    | k + 14, hk => omega
end Go.Proofs.YtfhfkpgfnlmfhabDoor
