/- The document's Decode, whatever the bytes. -/
import Derived.Test.YtocmgfmfalaebaaFKSZ
import Derived.Test.YtocmgfmfalaebaaPkBH
import Derived.Test.YtocmgfmfalaebaaFKOZ
import Derived.Test.YtocmgfmfalaebaaFKIZ
import Derived.Test.YtocmgfmfalaebaaFKW2Z
import Derived.Test.YtocmgfmfalaebaaFKW4Z
import Derived.Test.YtocmgfmfalaebaaFKWxZ
namespace Go.Proofs.Ytocmgfmfalaebaa
open Go.RowKit

theorem wrapI (n : Nat) : IntKind.i64.wrap (n : Int) = toI n := by
  unfold toI wrap64
  rw [IntKind.wrap_i64]
theorem rdec_join {w : World} {ps : List Nat} {v : Value} (hb : Bytes ps) {p : Pl} (hp : loose ps = p)
    (Hno : snd p = false → Calls Try.prog 17 #[v] w fun e w' => Kept [] w w' ∧ (e = .returned (.tuple #[rv zeroP nilL, .int .i64 160])))
    (Heq : snd p = true → enc p = ps → Calls Try.prog 17 #[v] w fun e w' => Kept [] w w' ∧ (∃ l, e = .returned (.tuple #[rv p l, .int .i64 0]) ∧ RecW w' p l))
    (Hne : snd p = true → ((strB (enc p)).toList == (strB ps).toList) = false → Calls Try.prog 17 #[v] w fun e w' => Kept [] w w' ∧ (e = .returned (.tuple #[rv zeroP nilL, .int .i64 160]))) :
    Calls Try.prog 17 #[v] w (RDecP w ps) := by
  subst hp
  cases hs : snd (loose ps) with
  | false =>
    refine (Hno hs).mono ?_
    rintro e w' ⟨k, rfl⟩
    exact ⟨k, Or.inr ⟨dec_loose_no hb (fun h => by rw [hs] at h; cases h.1), rfl⟩⟩
  | true =>
    by_cases he : enc (loose ps) = ps
    · refine (Heq hs he).mono ?_
      rintro e w' ⟨k, l, rfl, hr⟩
      exact ⟨k, Or.inl ⟨_, l, dec_loose_yes hs he, rfl, hr⟩⟩
    · obtain ⟨b1, b2, b3⟩ := loose_by hb
      have hn : ((strB (enc (loose ps))).toList == (strB ps).toList) = false := by
        rw [beq_eq_false_iff_ne]
        intro h
        refine he (strB_inj (enc_bytes hs b1 b2 b3) hb ?_)
        rw [ByteArray.toList_eq, ByteArray.toList_eq] at h
        exact WideShapes.bytes_inj h
      refine (Hne hs hn).mono ?_
      rintro e w' ⟨k, rfl⟩
      exact ⟨k, Or.inr ⟨dec_loose_no hb (fun h => he h.2), rfl⟩⟩

theorem rdecode_any (w : World) {ps : List Nat} {a : Option Addr} {cap : Nat} (h : Wide w (.slice a ps.length cap) ps) (hb : Bytes ps) (hl : ps.length ≤ 140737488355328) : Calls Try.prog 17 #[.slice a ps.length cap] w (RDecP w ps) := by
  obtain ⟨s1, kn, e1⟩ : ∃ s1 kn, rByte ⟨0, ps, []⟩ = (s1, kn) := ⟨_, _, rfl⟩
  obtain ⟨s2, n2, e2⟩ : ∃ s2 n2, rNum s1 = (s2, n2) := ⟨_, _, rfl⟩
  obtain ⟨s3, n3, e3⟩ : ∃ s3 n3, rNum s2 = (s3, n3) := ⟨_, _, rfl⟩
  obtain ⟨s4, n4, e4⟩ : ∃ s4 n4, rNum s3 = (s4, n4) := ⟨_, _, rfl⟩
  by_cases k1 : kn = 1
  · obtain ⟨s5, on, e5⟩ : ∃ s5 on, rByte s4 = (s5, on) := ⟨_, _, rfl⟩
    obtain ⟨s6, x6, e6⟩ : ∃ s6 x6, rText s5 263144 = (s6, x6) := ⟨_, _, rfl⟩
    obtain ⟨s7, x7, e7⟩ : ∃ s7 x7, rText s6 263144 = (s7, x7) := ⟨_, _, rfl⟩
    obtain ⟨s8, n8, e8⟩ : ∃ s8 n8, rNum s7 = (s8, n8) := ⟨_, _, rfl⟩
    have c1 : ((kn : Int) == 1) = true := by rw [k1]; rfl
    by_cases o2 : on = 2
    · have c2 : ((on : Int) == 2) = true := by rw [o2]; rfl
      have c4 : ((on : Int) == 4) = false := by rw [o2]; rfl
      have hL : loose ps = { zeroP with kind := (kn : Int), shard := toI n2, client := toI n3, seq := toI n4, okind := (on : Int), key := x6, val := x7 } := by
        unfold loose lsO; simp only [e1, e2, e3, e4, e5, e6, e7]; rw [if_pos k1]; simp [o2]; rfl
      exact rdec_join hb hL (fun hs => rdec_W2_no w e1 e2 (wrapI n2) e3 (wrapI n3) e4 (wrapI n4) e5 e6 e7 c1 c2 c4 rfl h hb hl hs) (fun hs he => rdec_W2_eq w e1 e2 (wrapI n2) e3 (wrapI n3) e4 (wrapI n4) e5 e6 e7 c1 c2 c4 rfl h hb hl hs he) (fun hs he => rdec_W2_ne w e1 e2 (wrapI n2) e3 (wrapI n3) e4 (wrapI n4) e5 e6 e7 c1 c2 c4 rfl h hb hl hs he)
    · have c2 : ((on : Int) == 2) = false := by simp; omega
      by_cases o4 : on = 4
      · have c4 : ((on : Int) == 4) = true := by rw [o4]; rfl
        have hL : loose ps = { zeroP with kind := (kn : Int), shard := toI n2, client := toI n3, seq := toI n4, okind := (on : Int), key := x6, val := x7, rev := toI n8 } := by
          unfold loose lsO; simp only [e1, e2, e3, e4, e5, e6]; rw [if_pos k1]; simp [o4, e7, e8]
        exact rdec_join hb hL (fun hs => rdec_W4_no w e1 e2 (wrapI n2) e3 (wrapI n3) e4 (wrapI n4) e5 e6 e7 e8 (wrapI n8) c1 c2 c4 rfl h hb hl hs) (fun hs he => rdec_W4_eq w e1 e2 (wrapI n2) e3 (wrapI n3) e4 (wrapI n4) e5 e6 e7 e8 (wrapI n8) c1 c2 c4 rfl h hb hl hs he) (fun hs he => rdec_W4_ne w e1 e2 (wrapI n2) e3 (wrapI n3) e4 (wrapI n4) e5 e6 e7 e8 (wrapI n8) c1 c2 c4 rfl h hb hl hs he)
      · have c4 : ((on : Int) == 4) = false := by simp; omega
        have hL : loose ps = { zeroP with kind := (kn : Int), shard := toI n2, client := toI n3, seq := toI n4, okind := (on : Int), key := x6 } := by
          unfold loose lsO; simp only [e1, e2, e3, e4, e5, e6]; rw [if_pos k1]; simp [o2, o4]; exact ⟨rfl, rfl⟩
        exact rdec_join hb hL (fun hs => rdec_Wx_no w e1 e2 (wrapI n2) e3 (wrapI n3) e4 (wrapI n4) e5 e6 c1 c2 c4 rfl h hb hl hs) (fun hs he => rdec_Wx_eq w e1 e2 (wrapI n2) e3 (wrapI n3) e4 (wrapI n4) e5 e6 c1 c2 c4 rfl h hb hl hs he) (fun hs he => rdec_Wx_ne w e1 e2 (wrapI n2) e3 (wrapI n3) e4 (wrapI n4) e5 e6 c1 c2 c4 rfl h hb hl hs he)
  · have c1 : ((kn : Int) == 1) = false := by simp; omega
    by_cases k2 : kn = 2
    · have c2 : ((kn : Int) == 2) = true := by rw [k2]; rfl
      have hL : loose ps = { zeroP with kind := (kn : Int), shard := toI n2, peer := toI n3 } := by
        unfold loose; simp only [e1, e2, e3]; rw [if_neg k1, if_pos k2]
      exact rdec_join hb hL (fun hs => rdec_O_no w e1 e2 (wrapI n2) e3 (wrapI n3) c1 c2 rfl h hb hl hs) (fun hs he => rdec_O_eq w e1 e2 (wrapI n2) e3 (wrapI n3) c1 c2 rfl h hb hl hs he) (fun hs he => rdec_O_ne w e1 e2 (wrapI n2) e3 (wrapI n3) c1 c2 rfl h hb hl hs he)
    · have c2 : ((kn : Int) == 2) = false := by simp; omega
      by_cases k4 : kn = 4
      · obtain ⟨s5, x5, e5⟩ : ∃ s5 x5, rText s4 263144 = (s5, x5) := ⟨_, _, rfl⟩
        have c4 : ((kn : Int) == 4) = true := by rw [k4]; rfl
        have hL : loose ps = { zeroP with kind := (kn : Int), shard := toI n2, epoch := toI n3, peer := toI n4, copy := x5 } := by
          unfold loose; simp only [e1, e2, e3, e4, e5]; rw [if_neg k1, if_neg k2, if_pos k4]
        exact rdec_join hb hL (fun hs => rdec_I_no w e1 e2 (wrapI n2) e3 (wrapI n3) e4 (wrapI n4) e5 c1 c2 c4 rfl h hb hl hs) (fun hs he => rdec_I_eq w e1 e2 (wrapI n2) e3 (wrapI n3) e4 (wrapI n4) e5 c1 c2 c4 rfl h hb hl hs he) (fun hs he => rdec_I_ne w e1 e2 (wrapI n2) e3 (wrapI n3) e4 (wrapI n4) e5 c1 c2 c4 rfl h hb hl hs he)
      · have c4 : ((kn : Int) == 4) = false := by simp; omega
        have hL : loose ps = { zeroP with kind := (kn : Int), shard := toI n2 } := by
          unfold loose; simp only [e1, e2]; rw [if_neg k1, if_neg k2, if_neg k4]
        exact rdec_join hb hL (fun hs => rdec_S_no w e1 e2 (wrapI n2) c1 c2 c4 rfl h hb hl hs) (fun hs he => rdec_S_eq w e1 e2 (wrapI n2) c1 c2 c4 rfl h hb hl hs he) (fun hs he => rdec_S_ne w e1 e2 (wrapI n2) c1 c2 c4 rfl h hb hl hs he)
end Go.Proofs.Ytocmgfmfalaebaa
