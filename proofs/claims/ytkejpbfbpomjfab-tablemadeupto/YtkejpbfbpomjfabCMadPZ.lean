/- TableMade: rows put in the order of their revisions; plain. -/
import Derived.Test.YtkejpbfbpomjfabCRdPZ
import Derived.Test.YtkejpbfbpomjfabCBakSZ
namespace Go.Proofs.Ytkejpbfbpomjfab.tre
open Go.RowKit
set_option linter.unusedVariables false

def upto (r : Nat) (L : List (ByteArray × VT)) : List (ByteArray × VT) := L.filter fun e => decide (e.2.2 ≤ (r : Int))
theorem upto_app (r : Nat) (A B : List (ByteArray × VT)) : upto r (A ++ B) = upto r A ++ upto r B := by simp [upto]
theorem upto_mem {r : Nat} {L : List (ByteArray × VT)} {e : ByteArray × VT} (h : e ∈ upto r L) : e ∈ L := (List.mem_filter.1 h).1
theorem upto_step {r : Nat} {L : List (ByteArray × VT)} (h : ∀ e ∈ L, e.2.2 ≠ (r : Int) + 1) : upto (r + 1) L = upto r L := by
  unfold upto
  refine List.filter_congr fun e he => ?_
  have := h e he
  rw [Bool.eq_iff_iff]
  simp only [decide_eq_true_eq]
  omega
theorem upto_all {T : Tb} (h : Snd T) : upto T.rev T.t.list = T.t.list := List.filter_eq_self.2 fun e he => by
  have := (h.tok.up e he).2
  simpa using this
theorem upto_0 {T : Tb} (h : Snd T) : upto 0 T.t.list = [] := List.filter_eq_nil_iff.2 fun e he => by
  have := (h.tok.up e he).1
  simp
  omega
theorem upto_put {T : Tb} (h : Snd T) {e : ByteArray × VT} (he : e ∈ T.t.list) {r : Nat} (her : e.2.2 = (r : Int) + 1) : lowL e.1 (upto r T.t.list) ++ (e.1, e.2) :: highL e.1 (upto r T.t.list) = upto (r + 1) T.t.list := by
  have hrise := h.tok.ok.rise
  obtain ⟨A, B, hL⟩ := List.append_of_mem he
  have hnd := h.nd
  rw [hL] at hrise hnd ⊢
  obtain ⟨-, -, hA, hB⟩ := rise_node hrise
  rw [List.map_append, List.map_cons, List.nodup_append] at hnd
  obtain ⟨-, n2, n3⟩ := hnd
  have hup := h.tok.up
  rw [hL] at hup
  have u0 := hup e (by simp)
  have fA : ∀ x ∈ A, x.2.2 ≠ (r : Int) + 1 := fun x hx hr => by
    have u1 := hup x (by simp [hx])
    refine n3 _ (List.mem_map.2 ⟨x, hx, rfl⟩) _ (List.mem_cons_self ..) ?_
    rw [hr, her]
  have fB : ∀ x ∈ B, x.2.2 ≠ (r : Int) + 1 := fun x hx hr => by
    have n4 := (List.nodup_cons.1 n2).1
    refine n4 (List.mem_map.2 ⟨x, hx, ?_⟩)
    rw [hr, her]
  have e1 : upto r (A ++ e :: B) = upto r A ++ upto r B := by
    rw [upto_app]
    congr 1
    unfold upto
    rw [List.filter_cons, if_neg (by simp; omega)]
  have e2 : upto (r + 1) (A ++ e :: B) = upto (r + 1) A ++ e :: upto (r + 1) B := by
    rw [upto_app]
    congr 1
    unfold upto
    rw [List.filter_cons, if_pos (by simp; omega)]
  rw [e1, e2, upto_step fA, upto_step fB, lowL_append, highL_append, lowL_all (fun x hx => hA x (upto_mem hx)), lowL_none (fun x hx => klt_asym (hB x (upto_mem hx))), highL_none (fun x hx => klt_asym (hA x (upto_mem hx))), highL_all (fun x hx => hB x (upto_mem hx))]
  simp
/-- the table that is made, behind r writes -/
structure MdI (T V : Tb) (r : Nat) : Prop where
  s : Snd V
  rev : V.rev = r
  list : V.t.list = upto r T.t.list
theorem MdI.zero {T : Tb} (h : Snd T) : MdI T ⟨.nil, 0⟩ 0 := ⟨Snd.zero, rfl, (upto_0 h).symm⟩
theorem MdI.put {T V : Tb} {r : Nat} (h : MdI T V r) (hT : Snd T) {e : ByteArray × VT} (he : e ∈ T.t.list) (her : e.2.2 = (r : Int) + 1) : rfs V ⟨2, byts e.1, byts e.2.1, 0⟩ = 0 ∧ MdI T (nxt V ⟨2, byts e.1, byts e.2.1, 0⟩) (r + 1) := by
  obtain ⟨h1, h2, h3, h4, h5⟩ := hT.row he
  have hrev := hT.tok.rev
  have hr : rfs V ⟨2, byts e.1, byts e.2.1, 0⟩ = 0 := by
    have hg : rgt ⟨2, byts e.1, byts e.2.1, 0⟩ = true := by
      unfold rgt
      simp [byts_len]
      omega
    unfold rfs
    rw [hg, if_neg (by simp), if_neg]
    rintro ⟨-, h6⟩
    rw [h.rev] at h6
    omega
  have hw : wrs ⟨2, byts e.1, byts e.2.1, 0⟩ = true := by unfold wrs; simp
  have hd : dn V ⟨2, byts e.1, byts e.2.1, 0⟩ = true := by unfold dn dne; simp
  have hrv : rvn V ⟨2, byts e.1, byts e.2.1, 0⟩ = r + 1 := by unfold rvn; rw [if_pos hw, h.rev]
  refine ⟨hr, h.s.nxt hr, ?_, ?_⟩
  · exact hrv
  · unfold nxt
    rw [if_pos hd, hrv]
    unfold chg
    rw [if_pos (Or.inl rfl)]
    simp only
    rw [set_list h.s.tok.ok.rise, strB_bytes, strB_bytes, h.list]
    have : ((r + 1 : Nat) : Int) = e.2.2 := by omega
    rw [this]
    exact upto_put hT he her
theorem MdI.del {T V : Tb} {r : Nat} (h : MdI T V r) (hT : Snd T) (hle : r + 1 ≤ T.rev) {fb : List Nat} (hf1 : 1 ≤ fb.length) (hf2 : fb.length ≤ 64) (hf3 : ∀ x ∈ fb, x < 256) (hno : ∀ e ∈ T.t.list, byts e.1 ≠ fb) (hnr : ∀ e ∈ T.t.list, e.2.2 ≠ (r : Int) + 1) : rfs V ⟨3, fb, [], 0⟩ = 0 ∧ MdI T (nxt V ⟨3, fb, [], 0⟩) (r + 1) := by
  have hrev := hT.tok.rev
  have hr : rfs V ⟨3, fb, [], 0⟩ = 0 := by
    have hg : rgt ⟨3, fb, [], 0⟩ = true := by
      unfold rgt
      simp
      omega
    unfold rfs
    rw [hg, if_neg (by simp), if_neg]
    rintro ⟨-, h6⟩
    rw [h.rev] at h6
    omega
  have hw : wrs ⟨3, fb, [], 0⟩ = true := by unfold wrs; simp
  have hfn : fnd V ⟨3, fb, [], 0⟩ = none := by
    unfold fnd
    rw [if_neg (by simp)]
    simp only
    rcases row_cases h.s.tok.ok.rise (strB fb) with ⟨x, h1, h2⟩ | ⟨h1, -⟩
    · exfalso
      have hm : (strB fb, x) ∈ V.t.list := by rw [h2]; simp
      rw [h.list] at hm
      exact hno _ (upto_mem hm) (byts_strB hf3)
    · exact h1
  have hd : dn V ⟨3, fb, [], 0⟩ = false := by unfold dn; rw [hfn]; simp [dne]
  have hrv : rvn V ⟨3, fb, [], 0⟩ = r + 1 := by unfold rvn; rw [if_pos hw, h.rev]
  refine ⟨hr, h.s.nxt hr, ?_, ?_⟩
  · exact hrv
  · unfold nxt
    rw [hd]
    simp only [Bool.false_eq_true, if_false]
    rw [h.list, upto_step hnr]
theorem MdI.last {T V : Tb} (h : MdI T V T.rev) (hT : Snd T) : Alk T V := ⟨hT, h.s, by rw [h.list, upto_all hT], h.rev⟩
end Go.Proofs.Ytkejpbfbpomjfab.tre
