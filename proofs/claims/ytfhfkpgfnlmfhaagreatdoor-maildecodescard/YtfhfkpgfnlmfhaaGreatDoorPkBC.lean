/- Texts laid one behind the other: XU XU2. -/
import Derived.Test.YtfhfkpgfnlmfhaaGreatDoorPkX
import Derived.Test.YtfhfkpgfnlmfhaaGreatDoorPkZ
/- There and back, in plain words: a form is read as its message. -/
namespace Go.Proofs.YtfhfkpgfnlmfhaaGreatDoor
open Go.RowKit

def rG (l : List Nat) : RS := ⟨0, l, []⟩
theorem rByte_G (x : Nat) (l : List Nat) : rByte (rG (x :: l)) = (rG l, x) := rfl
theorem rNum_G (n : Nat) (l : List Nat) (h : n < 18446744073709551616) : rNum (rG (form n ++ l)) = (rG l, n) := by
  unfold rNum rG
  rw [if_neg (by simp)]
  dsimp only
  rw [read_form0 n l h]
theorem rText_G (ps l : List Nat) (most : Int) (h : (ps.length : Int) ≤ most) (h2 : ps.length < 18446744073709551616) : rText (rG (form ps.length ++ (ps ++ l))) most = (rG l, ps) := by
  unfold rText rG
  rw [if_neg (by simp)]
  dsimp only
  rw [read_form0 ps.length (ps ++ l) h2]
  dsimp only
  rw [if_neg (by omega), if_neg (by simp)]
  simp
theorem rFixed_G (n : Nat) (l : List Nat) (h : n < 18446744073709551616) : rFixed (rG (le n 8 ++ l)) 8 = (rG l, n) := by
  have hl := le_len n 8
  unfold rFixed rG
  rw [if_neg (by simp), if_neg (by omega), if_neg (by simp only [List.length_append, hl]; omega)]
  have e : (8 : Int).toNat = 8 := rfl
  rw [e]
  have e1 : (le n 8 ++ l).drop 8 = l := by rw [List.drop_append_of_le_length (by omega), List.drop_of_length_le (by omega)]; rfl
  have e2 : (le n 8 ++ l).take 8 = le n 8 := by rw [List.take_append_of_le_length (by omega), List.take_of_length_le (by omega)]
  rw [e1, e2, leV_le]
  congr 1
  omega
theorem toI_small {n : Nat} (h : n < 9223372036854775808) : toI n = (n : Int) := by
  unfold toI wrap64
  omega
theorem toI_toNat {i : Int} (h0 : 0 ≤ i) (h1 : i < 9223372036854775808) : toI i.toNat = i := by
  rw [toI_small (by omega)]; omega
/-- The field of a piece, taken over. -/
def cpP (p q : Ml) : Pc → Ml
  | .byte o => setN q (getN p o) o
  | .num o => setN q (getN p o) o
  | .flag => { q with done := p.done }
  | .root => { q with root := p.root }
  | .text o => setT q (getT p o) o
theorem takP_G {p : Ml} (c : Pc) (h : okP p c) (q : Ml) (l : List Nat) : takP ⟨rG (encP p c ++ l), q, false⟩ c = ⟨rG l, cpP p q c, false⟩ := by
  cases c with
  | byte o =>
    obtain ⟨_, h1, h2⟩ := h
    have e : encP p (.byte o) ++ l = (getN p o).toNat :: l := rfl
    rw [e]
    simp only [takP, rByte_G, cpP]
    rw [show (((getN p o).toNat : Nat) : Int) = getN p o by omega]
  | num o =>
    obtain ⟨_, h1, h2⟩ := h
    have e : encP p (.num o) ++ l = form (getN p o).toNat ++ l := rfl
    rw [e]
    simp only [takP, rNum_G _ _ (show (getN p o).toNat < 18446744073709551616 by omega), cpP, toI_toNat h1 h2]
  | flag =>
    have e : encP p .flag ++ l = (if p.done then 1 else 0) :: l := rfl
    rw [e]
    simp only [takP, rByte_G, cpP]
    cases p.done <;> rfl
  | root =>
    have e : encP p .root ++ l = le p.root 8 ++ l := rfl
    rw [e]
    simp only [takP, rFixed_G _ _ (show p.root < 18446744073709551616 from h), cpP]
  | text o =>
    obtain ⟨_, h1⟩ := h
    have e : encP p (.text o) ++ l = form (getT p o).length ++ (getT p o ++ l) := by simp [encP]
    rw [e]
    simp only [takP, rText_G _ _ 524288 (show ((getT p o).length : Int) ≤ 524288 by omega) (by omega), cpP]
def cpL (p q : Ml) (ks : List Pc) : Ml := ks.foldl (cpP p) q
theorem takL_G {p : Ml} : ∀ (ks : List Pc) (q : Ml) (l : List Nat), (∀ c ∈ ks, okP p c) → takL ⟨rG (encL p ks ++ l), q, false⟩ ks = ⟨rG l, cpL p q ks, false⟩
  | [], q, l, _ => rfl
  | c :: ks, q, l, h => by
    have e : encL p (c :: ks) ++ l = encP p c ++ (encL p ks ++ l) := by rw [encL_cons, List.append_assoc]
    rw [e]
    show takL (takP ⟨rG (encP p c ++ (encL p ks ++ l)), q, false⟩ c) ks = _
    rw [takP_G c (h c (by simp)) q (encL p ks ++ l)]
    exact takL_G ks (cpP p q c) l (fun d hd => h d (by simp [hd]))
/-- The kind, the op's kind and the verdict stand where they are looked at. -/
theorem cpL_hd (p : Ml) : cpL p zeroM hd = { zeroM with kind := p.kind, frm := p.frm, dst := p.dst, shard := p.shard } := rfl
theorem mid_eq {p q : Ml} (h : q.kind = p.kind) : mid q = mid p := by unfold mid; rw [h]
theorem fin_eq {p q : Ml} (h : q.kind = p.kind) (h1 : p.kind = 1 → q.okind = p.okind) (h2 : p.kind = 2 → q.verd = p.verd) : fin q = fin p := by
  unfold fin
  rw [h]
  by_cases k1 : p.kind = 1
  · rw [if_pos k1, if_pos k1, h1 k1]
  · rw [if_neg k1, if_neg k1]
    by_cases k2 : p.kind = 2
    · rw [if_pos k2, if_pos k2, h2 k2]
    · rw [if_neg k2, if_neg k2]
theorem read3_G {p : Ml} (h : ∀ c ∈ pieces p, okP p c) (l : List Nat) : read3 (body p ++ l) = ⟨rG l, cpL p zeroM (pieces p), false⟩ := by
  unfold pieces at h
  simp only [List.mem_append] at h
  have e : body p ++ l = encL p hd ++ (encL p (mid p) ++ (encL p (fin p) ++ l)) := by
    unfold body pieces
    rw [encL_append, encL_append]
    simp only [List.append_assoc]
  have e1 : read1 (body p ++ l) = ⟨rG (encL p (mid p) ++ (encL p (fin p) ++ l)), cpL p zeroM hd, false⟩ := by
    unfold read1
    rw [e]
    exact takL_G hd zeroM _ (fun c hc => h c (Or.inl hc))
  have e2 : read2 (body p ++ l) = ⟨rG (encL p (fin p) ++ l), cpL p (cpL p zeroM hd) (mid p), false⟩ := by
    unfold read2
    rw [e1]
    have hm : mid (cpL p zeroM hd) = mid p := mid_eq rfl
    show takL _ (mid (cpL p zeroM hd)) = _
    rw [hm]
    exact takL_G (mid p) _ _ (fun c hc => h c (Or.inr (Or.inl hc)))
  unfold read3
  rw [e2]
  have hf : fin (cpL p (cpL p zeroM hd) (mid p)) = fin p := by
    rw [cpL_hd]
    by_cases k1 : p.kind = 1
    · have em : mid p = [.num 8, .byte 9, .text 10] := by unfold mid; rw [if_pos k1]
      rw [em]
      exact fin_eq rfl (fun _ => rfl) (fun h2 => by omega)
    · by_cases k2 : p.kind = 2
      · have em : mid p = [.num 8, .num 13] := by unfold mid; rw [if_neg k1, if_pos k2]
        rw [em]
        exact fin_eq rfl (fun h1 => by omega) (fun _ => rfl)
      · by_cases k3 : p.kind = 3
        · have em : mid p = [.num 4, .root, .text 6] := by unfold mid; rw [if_neg k1, if_neg k2, if_pos k3]
          rw [em]
          exact fin_eq rfl (fun h1 => by omega) (fun h2 => by omega)
        · have em : mid p = [.num 4] := by unfold mid; rw [if_neg k1, if_neg k2, if_neg k3]
          rw [em]
          exact fin_eq rfl (fun h1 => by omega) (fun h2 => by omega)
  show takL _ (fin (cpL p (cpL p zeroM hd) (mid p))) = _
  rw [hf]
  have := takL_G (p := p) (fin p) (cpL p (cpL p zeroM hd) (mid p)) l (fun c hc => h c (Or.inr (Or.inr hc)))
  rw [this]
  unfold pieces cpL
  rw [List.foldl_append, List.foldl_append]
end Go.Proofs.YtfhfkpgfnlmfhaaGreatDoor

/- There: what is encoded is decoded to the same message. -/
namespace Go.Proofs.YtfhfkpgfnlmfhaaGreatDoor
open Go.RowKit

theorem pcs_op {p : Ml} (h1 : p.kind = 1) : (p.okind = 2 ∧ pieces p = hd ++ [.num 8, .byte 9, .text 10, .text 11]) ∨ (p.okind = 4 ∧ pieces p = hd ++ [.num 8, .byte 9, .text 10, .text 11, .num 12]) ∨ (p.okind ≠ 2 ∧ p.okind ≠ 4 ∧ pieces p = hd ++ [.num 8, .byte 9, .text 10]) := by
  rw [pcs_0, pcs_1 h1]
  unfold opG hd
  by_cases h2 : p.okind = 2
  · left; rw [if_pos h2]; exact ⟨h2, rfl⟩
  · by_cases h4 : p.okind = 4
    · right; left; rw [if_neg h2, if_pos h4]; exact ⟨h4, rfl⟩
    · right; right; rw [if_neg h2, if_neg h4]; exact ⟨h2, h4, rfl⟩
theorem pcs_ve {p : Ml} (h1 : p.kind = 2) : (p.verd = 0 ∧ pieces p = hd ++ [.num 8, .num 13, .flag, .text 15, .text 16, .num 17, .num 18]) ∨ ((p.verd = 220 ∨ p.verd = 221) ∧ pieces p = hd ++ [.num 8, .num 13, .byte 19]) ∨ (p.verd ≠ 0 ∧ p.verd ≠ 220 ∧ p.verd ≠ 221 ∧ pieces p = hd ++ [.num 8, .num 13]) := by
  rw [pcs_0, pcs_2 h1]
  unfold veG hd
  by_cases h2 : p.verd = 0
  · left; rw [if_pos h2]; exact ⟨h2, rfl⟩
  · by_cases h4 : p.verd = 220 ∨ p.verd = 221
    · right; left; rw [if_neg h2, if_pos h4]; exact ⟨h4, rfl⟩
    · right; right; rw [if_neg h2, if_neg h4]; exact ⟨h2, by omega, by omega, rfl⟩
theorem wrap_cli {c n : Int} (h : cliP c n) : wrap64 (n - 100) = c := by
  obtain ⟨h1, h2, h3⟩ := h
  unfold wrap64
  omega
theorem ml_eta (p : Ml) : p = ⟨p.kind, p.frm, p.dst, p.shard, p.epoch, p.root, p.copy, p.client, p.seq, p.okind, p.key, p.val, p.rev, p.verd, p.done, p.akey, p.aval, p.arev, p.aat, p.hint⟩ := rfl
set_option maxHeartbeats 1600000 in
theorem named_all {p : Ml} (h : snd p = true) : named (cpL p zeroM (pieces p)) = p := by
  obtain ⟨_, hk⟩ := (snd_iff p).1 h
  rcases hk with ⟨h1, h2, _, _, h5, ⟨v1, ⟨a1, a2, a3, a4, a5⟩, v3⟩, t1, t2, t3⟩ | ⟨h1, _, h2, _, ⟨o1, o2, o3, o4⟩, h6, t1, t2, t3⟩ | ⟨h1, _, _, _, _, _, c1, c2, ⟨o1, o2, o3, o4⟩, v1, ⟨a1, a2, a3, a4, a5⟩, v3⟩ | ⟨h1, ⟨_, _, _, _, c1, c2, ⟨o1, o2, o3, o4⟩, v1, ⟨a1, a2, a3, a4, a5⟩, v3⟩, t2, t3⟩
  · have q := rgt_iff h5
    have hc := wrap_cli h2
    rcases pcs_op h1 with ⟨k, e⟩ | ⟨k, e⟩ | ⟨k, k', e⟩
    · have ec : cpL p zeroM (pieces p) = (⟨p.kind, p.frm, p.dst, p.shard, 0, 0, [], 0, p.seq, p.okind, p.key, p.val, 0, 0, false, [], [], 0, 0, 0⟩ : Ml) := by
        rw [e]
        simp only [cpL, hd, List.cons_append, List.nil_append, List.foldl_cons, List.foldl_nil, cpP, setN, getN, setT, getT, zeroM]
      rw [ec]
      unfold named
      rw [if_pos h1]
      conv => rhs; rw [ml_eta p]
      simp [hc, v1, a1, a2, a3, a4, a5, v3, t1, t2, t3, q.2.2.2.2.2 (by omega)]
    · have ec : cpL p zeroM (pieces p) = (⟨p.kind, p.frm, p.dst, p.shard, 0, 0, [], 0, p.seq, p.okind, p.key, p.val, p.rev, 0, false, [], [], 0, 0, 0⟩ : Ml) := by
        rw [e]
        simp only [cpL, hd, List.cons_append, List.nil_append, List.foldl_cons, List.foldl_nil, cpP, setN, getN, setT, getT, zeroM]
      rw [ec]
      unfold named
      rw [if_pos h1]
      conv => rhs; rw [ml_eta p]
      simp [hc, v1, a1, a2, a3, a4, a5, v3, t1, t2, t3]
    · have ec : cpL p zeroM (pieces p) = (⟨p.kind, p.frm, p.dst, p.shard, 0, 0, [], 0, p.seq, p.okind, p.key, [], 0, 0, false, [], [], 0, 0, 0⟩ : Ml) := by
        rw [e]
        simp only [cpL, hd, List.cons_append, List.nil_append, List.foldl_cons, List.foldl_nil, cpP, setN, getN, setT, getT, zeroM]
      rw [ec]
      unfold named
      rw [if_pos h1]
      conv => rhs; rw [ml_eta p]
      simp [hc, v1, a1, a2, a3, a4, a5, v3, t1, t2, t3, q.2.2.2.2.2 k', List.eq_nil_of_length_eq_zero (q.2.2.2.2.1 k k')]
  · have hc := wrap_cli h2
    rcases pcs_ve h1 with ⟨k, e⟩ | ⟨k, e⟩ | ⟨k, k', k2, e⟩
    · rcases h6 with ⟨_, _, b3⟩ | ⟨b1, _, _⟩ | ⟨b1, _, _⟩
      · have ec : cpL p zeroM (pieces p) = (⟨p.kind, p.frm, p.dst, p.shard, 0, 0, [], 0, p.seq, 0, [], [], 0, p.verd, p.done, p.akey, p.aval, p.arev, p.aat, 0⟩ : Ml) := by
          rw [e]
          simp only [cpL, hd, List.cons_append, List.nil_append, List.foldl_cons, List.foldl_nil, cpP, setN, getN, setT, getT, zeroM]
        rw [ec]
        unfold named
        rw [if_neg (by show ¬ p.kind = 1; omega), if_pos h1]
        conv => rhs; rw [ml_eta p]
        simp [hc, o1, o2, o3, o4, t1, t2, t3, b3]
      · omega
      · omega
    · rcases h6 with ⟨b1, _, _⟩ | ⟨b1, _, _⟩ | ⟨_, ⟨a1, a2, a3, a4, a5⟩, _⟩
      · omega
      · omega
      · have ec : cpL p zeroM (pieces p) = (⟨p.kind, p.frm, p.dst, p.shard, 0, 0, [], 0, p.seq, 0, [], [], 0, p.verd, false, [], [], 0, 0, p.hint⟩ : Ml) := by
          rw [e]
          simp only [cpL, hd, List.cons_append, List.nil_append, List.foldl_cons, List.foldl_nil, cpP, setN, getN, zeroM]
        rw [ec]
        unfold named
        rw [if_neg (by show ¬ p.kind = 1; omega), if_pos h1]
        conv => rhs; rw [ml_eta p]
        simp [hc, o1, o2, o3, o4, t1, t2, t3, a1, a2, a3, a4, a5]
    · rcases h6 with ⟨b1, _, _⟩ | ⟨_, ⟨a1, a2, a3, a4, a5⟩, b3⟩ | ⟨b1, _, _⟩
      · omega
      · have ec : cpL p zeroM (pieces p) = (⟨p.kind, p.frm, p.dst, p.shard, 0, 0, [], 0, p.seq, 0, [], [], 0, p.verd, false, [], [], 0, 0, 0⟩ : Ml) := by
          rw [e]
          simp only [cpL, hd, List.cons_append, List.nil_append, List.foldl_cons, List.foldl_nil, cpP, setN, getN, zeroM]
        rw [ec]
        unfold named
        rw [if_neg (by show ¬ p.kind = 1; omega), if_pos h1]
        conv => rhs; rw [ml_eta p]
        simp [hc, o1, o2, o3, o4, t1, t2, t3, a1, a2, a3, a4, a5, b3]
      · omega
  · have e : pieces p = hd ++ [.num 4, .root, .text 6] := by rw [pcs_0, pcs_3 h1]; rfl
    have ec : cpL p zeroM (pieces p) = (⟨p.kind, p.frm, p.dst, p.shard, p.epoch, p.root, p.copy, 0, 0, 0, [], [], 0, 0, false, [], [], 0, 0, 0⟩ : Ml) := by
      rw [e]
      simp only [cpL, hd, List.cons_append, List.nil_append, List.foldl_cons, List.foldl_nil, cpP, setN, getN, setT, getT, zeroM]
    rw [ec]
    unfold named
    rw [if_neg (by show ¬ p.kind = 1; omega), if_neg (by show ¬ p.kind = 2; omega)]
    conv => rhs; rw [ml_eta p]
    simp [c1, c2, o1, o2, o3, o4, v1, a1, a2, a3, a4, a5, v3]
  · have e : pieces p = hd ++ [.num 4] := by rw [pcs_0, pcs_4 (by omega) (by omega) (by omega)]; rfl
    have ec : cpL p zeroM (pieces p) = (⟨p.kind, p.frm, p.dst, p.shard, p.epoch, 0, [], 0, 0, 0, [], [], 0, 0, false, [], [], 0, 0, 0⟩ : Ml) := by
      rw [e]
      simp only [cpL, hd, List.cons_append, List.nil_append, List.foldl_cons, List.foldl_nil, cpP, setN, getN, zeroM]
    rw [ec]
    unfold named
    rw [if_neg (by show ¬ p.kind = 1; omega), if_neg (by show ¬ p.kind = 2; omega)]
    conv => rhs; rw [ml_eta p]
    simp [c1, c2, o1, o2, o3, o4, v1, a1, a2, a3, a4, a5, v3, t2, t3]
theorem readM_body {p : Ml} (h : snd p = true) (hr : p.root < 18446744073709551616) : readM (body p) = (p, true) := by
  have h1 := read3_G (snd_ok h hr) []
  rw [List.append_nil] at h1
  unfold readM
  rw [h1]
  simp only [named_all h]
  rfl
/-- Whatever stands behind a form's body is left over. -/
theorem readM_more {p : Ml} (h : snd p = true) (hr : p.root < 18446744073709551616) {l : List Nat} (hl : l ≠ []) : readM (body p ++ l) = (p, false) := by
  have h1 := read3_G (snd_ok h hr) l
  unfold readM
  rw [h1]
  simp only [named_all h]
  have : rDone (rG l) ≠ 0 := by simp [rDone, rG, hl]
  simp [this]
theorem enc_parts (p : Ml) : (enc p).take ((enc p).length - 4) = body p ∧ (enc p).drop ((enc p).length - 4) = le (crc (body p)) 4 := by
  have hl : (enc p).length = (body p).length + 4 := by unfold enc summed; rw [List.length_append, le_len]
  have : (enc p).length - 4 = (body p).length := by omega
  rw [this]
  unfold enc summed
  exact ⟨List.take_left .., List.drop_left ..⟩
theorem decE_enc {p : Ml} (h : snd p = true) (hr : p.root < 18446744073709551616) : decE (enc p) = 0 ∧ decM (enc p) = p := by
  have hl : (enc p).length = (body p).length + 4 := by unfold enc summed; rw [List.length_append, le_len]
  have hs := snd_len h
  obtain ⟨e1, e2⟩ := enc_parts p
  have h0 : decE (enc p) = 0 := by
    unfold decE
    rw [e1, e2, if_neg (by omega), if_neg (by omega), if_neg (by simp), readM_body h hr, if_pos ⟨rfl, h⟩]
  refine ⟨h0, ?_⟩
  unfold decM
  rw [if_pos h0, e1, readM_body h hr]
end Go.Proofs.YtfhfkpgfnlmfhaaGreatDoor
