/- Texts laid one behind the other: XU3 XU4 XU5 XU6 XU7 DLo. -/
import Derived.Test.YtfhfkpgfnlmfhaaGreatDoorPkBC
import Derived.Test.YtfhfkpgfnlmfhaaGreatDoorPkBA
import Derived.Test.YtfhfkpgfnlmfhaaGreatDoorPkY
/- And back: bytes that are decoded are the form of what they are decoded to. -/
namespace Go.Proofs.YtfhfkpgfnlmfhaaGreatDoor
open Go.RowKit

theorem read_one (l : List Nat) : ∀ (k acc n : Nat) (r : List Nat), (∀ x ∈ l, x < 256) → readNum k acc l = .inr (n, r) → ∃ m, n = acc + m * 128 ^ k ∧ l = form m ++ r ∧ (0 < k → 0 < m) := by
  induction l with
  | nil => intro k acc n r _ h; simp [readNum] at h
  | cons x l ih =>
    intro k acc n r hl h
    have hx := hl x (by simp)
    rw [readNum] at h
    split at h
    · cases h
    · split at h
      · rename_i h8
        split at h
        · cases h
        · rename_i h0
          cases h
          exact ⟨x, rfl, by rw [form_small h8]; rfl, fun hk => by omega⟩
      · rename_i h8
        obtain ⟨m, h1, h2, h3⟩ := ih (k + 1) _ n r (fun y hy => hl y (by simp [hy])) h
        have h4 := h3 (by omega)
        refine ⟨x % 128 + 128 * m, ?_, ?_, fun _ => by omega⟩
        · rw [h1, Nat.pow_succ, Nat.add_mul]
          have : m * (128 ^ k * 128) = 128 * m * 128 ^ k := by rw [Nat.mul_comm (128 ^ k), ← Nat.mul_assoc, Nat.mul_comm m]
          omega
        · rw [form_big (by omega), h2]
          have e1 : (x % 128 + 128 * m) % 128 + 128 = x := by omega
          have e2 : (x % 128 + 128 * m) / 128 = m := by omega
          rw [e1, e2]; rfl
theorem read_one0 {l r : List Nat} {n : Nat} (hl : ∀ x ∈ l, x < 256) (h : readNum 0 0 l = .inr (n, r)) : l = form n ++ r := by
  obtain ⟨m, h1, h2, _⟩ := read_one l 0 0 n r hl h
  have : n = m := by simp at h1; exact h1
  rw [this]; exact h2
theorem toI_back {n : Nat} (h : n < 18446744073709551616) (h0 : 0 ≤ toI n) : (toI n).toNat = n := by
  have h1 : toI n = if n < 9223372036854775808 then (n : Int) else (n : Int) - 18446744073709551616 := by
    unfold toI wrap64
    split <;> omega
  rw [h1] at h0 ⊢
  split at h0
  · rw [if_pos (by assumption)]; omega
  · omega
theorem rByte_B {l : List Nat} (hf : (rByte (rG l)).1.fault = 0) : ∃ l', l = (rByte (rG l)).2 :: l' ∧ (rByte (rG l)).1 = rG l' := by
  cases l with
  | nil => simp [rByte, rG, rF] at hf
  | cons x l => exact ⟨l, rfl, rfl⟩
theorem rNum_B {l : List Nat} (hl : ∀ x ∈ l, x < 256) (hf : (rNum (rG l)).1.fault = 0) : ∃ l', l = form (rNum (rG l)).2 ++ l' ∧ (rNum (rG l)).1 = rG l' ∧ (rNum (rG l)).2 < 18446744073709551616 := by
  have e : rNum (rG l) = match readNum 0 0 l with
    | .inl c => (rF c, 0)
    | .inr (n, r) => (⟨0, r, []⟩, n) := by unfold rNum rG; rw [if_neg (by simp)]; rfl
  cases hr : readNum 0 0 l with
  | inl c =>
    rw [e, hr] at hf
    have hc : c = 0 := hf
    rcases readNum_code _ _ _ hr with h | h <;> omega
  | inr q =>
    obtain ⟨n, r⟩ := q
    rw [e, hr]
    exact ⟨r, read_one0 hl hr, rfl, (readNum_lt _ 0 0 (by omega) (by simp) hl hr).1⟩
theorem rFixed_B {l : List Nat} (hl : ∀ x ∈ l, x < 256) (hf : (rFixed (rG l) 8).1.fault = 0) : ∃ l', l = le (rFixed (rG l) 8).2 8 ++ l' ∧ (rFixed (rG l) 8).1 = rG l' := by
  have e : rFixed (rG l) 8 = if (l.length : Int) < 8 then (rF 10, 0) else (⟨0, l.drop 8, []⟩, leV (l.take 8)) := by
    unfold rFixed rG
    rw [if_neg (by simp), if_neg (by omega)]
    rfl
  by_cases h : (l.length : Int) < 8
  · rw [e, if_pos h] at hf; cases hf
  · rw [e, if_neg h]
    refine ⟨l.drop 8, ?_, rfl⟩
    have h1 := le_leV (l.take 8) (fun x hx => hl x (List.mem_of_mem_take hx))
    rw [show (l.take 8).length = 8 by simp; omega] at h1
    show l = le (leV (l.take 8)) 8 ++ l.drop 8
    rw [h1, List.take_append_drop]
theorem rText_B {l : List Nat} (hl : ∀ x ∈ l, x < 256) (hf : (rText (rG l) 524288).1.fault = 0) : ∃ l', l = form (rText (rG l) 524288).2.length ++ ((rText (rG l) 524288).2 ++ l') ∧ (rText (rG l) 524288).1 = rG l' := by
  have e : rText (rG l) 524288 = match readNum 0 0 l with
    | .inl c => (rF c, [])
    | .inr (n, r) => if (524288 : Int).toNat < n then (rF 11, []) else if r.length < n then (rF 10, []) else (⟨0, r.drop n, []⟩, r.take n) := by unfold rText rG; rw [if_neg (by simp)]; rfl
  cases hr : readNum 0 0 l with
  | inl c =>
    rw [e, hr] at hf
    have hc : c = 0 := hf
    rcases readNum_code _ _ _ hr with h | h <;> omega
  | inr q =>
    obtain ⟨n, r⟩ := q
    have e2 : rText (rG l) 524288 = if (524288 : Int).toNat < n then (rF 11, []) else if r.length < n then (rF 10, []) else (⟨0, r.drop n, []⟩, r.take n) := by rw [e, hr]
    by_cases h1 : (524288 : Int).toNat < n
    · rw [e2, if_pos h1] at hf; cases hf
    · by_cases h2 : r.length < n
      · rw [e2, if_neg h1, if_pos h2] at hf; cases hf
      · rw [e2, if_neg h1, if_neg h2]
        refine ⟨r.drop n, ?_, rfl⟩
        show l = form (r.take n).length ++ (r.take n ++ r.drop n)
        rw [show (r.take n).length = n by simp; omega, List.take_append_drop]
        exact read_one0 hl hr
/-- The cell of a piece; is it one. -/
def cellP : Pc → Nat
  | .byte o => o
  | .num o => o
  | .flag => 14
  | .root => 5
  | .text o => o
def wfP : Pc → Prop
  | .byte o => isN o
  | .num o => isN o
  | .flag => True
  | .root => True
  | .text o => isT o
theorem getN_set {p : Ml} {n : Int} {o : Nat} (h : isN o) : getN (setN p n o) o = n := by
  rcases h with rfl | rfl | rfl | rfl | rfl | rfl | rfl | rfl | rfl | rfl | rfl | rfl <;> rfl
theorem getT_set {p : Ml} {t : List Nat} {o : Nat} (h : isT o) : getT (setT p t o) o = t := by
  rcases h with rfl | rfl | rfl | rfl | rfl <;> rfl
theorem getN_other {p : Ml} {n : Int} {o q : Nat} (h : isN o) (h2 : isN q) (hne : o ≠ q) : getN (setN p n o) q = getN p q := by
  rcases h with rfl | rfl | rfl | rfl | rfl | rfl | rfl | rfl | rfl | rfl | rfl | rfl <;> rcases h2 with rfl | rfl | rfl | rfl | rfl | rfl | rfl | rfl | rfl | rfl | rfl | rfl <;> first | rfl | exact absurd rfl hne
theorem getT_other {p : Ml} {t : List Nat} {o q : Nat} (h : isT o) (h2 : isT q) (hne : o ≠ q) : getT (setT p t o) q = getT p q := by
  rcases h with rfl | rfl | rfl | rfl | rfl <;> rcases h2 with rfl | rfl | rfl | rfl | rfl <;> first | rfl | exact absurd rfl hne
theorem getT_setN {p : Ml} {n : Int} {o q : Nat} (h : isN o) : getT (setN p n o) q = getT p q := by
  rcases h with rfl | rfl | rfl | rfl | rfl | rfl | rfl | rfl | rfl | rfl | rfl | rfl <;> rfl
theorem getN_setT {p : Ml} {t : List Nat} {o q : Nat} (h : isT o) : getN (setT p t o) q = getN p q := by
  rcases h with rfl | rfl | rfl | rfl | rfl <;> rfl
theorem setN_root {p : Ml} {n : Int} {o : Nat} (h : isN o) : (setN p n o).root = p.root ∧ (setN p n o).done = p.done := by
  rcases h with rfl | rfl | rfl | rfl | rfl | rfl | rfl | rfl | rfl | rfl | rfl | rfl <;> exact ⟨rfl, rfl⟩
theorem setT_root {p : Ml} {t : List Nat} {o : Nat} (h : isT o) : (setT p t o).root = p.root ∧ (setT p t o).done = p.done := by
  rcases h with rfl | rfl | rfl | rfl | rfl <;> exact ⟨rfl, rfl⟩
/-- A piece taken up leaves the others' forms. -/
theorem encP_other {s : Rdm} {c d : Pc} (hc : wfP c) (hd : wfP d) (hne : cellP c ≠ cellP d) : encP (takP s c).ml d = encP s.ml d := by
  cases c with
  | byte o =>
    simp only [takP]
    cases d with
    | byte q => simp only [encP, getN_other hc hd hne]
    | num q => simp only [encP, getN_other hc hd hne]
    | flag => simp only [encP, (setN_root hc).2]
    | root => simp only [encP, (setN_root hc).1]
    | text q => simp only [encP, getT_setN hc]
  | num o =>
    simp only [takP]
    cases d with
    | byte q => simp only [encP, getN_other hc hd hne]
    | num q => simp only [encP, getN_other hc hd hne]
    | flag => simp only [encP, (setN_root hc).2]
    | root => simp only [encP, (setN_root hc).1]
    | text q => simp only [encP, getT_setN hc]
  | flag =>
    cases d with
    | flag => exact absurd rfl hne
    | _ => rfl
  | root =>
    cases d with
    | root => exact absurd rfl hne
    | _ => rfl
  | text o =>
    simp only [takP]
    cases d with
    | byte q => simp only [encP, getN_setT hc]
    | num q => simp only [encP, getN_setT hc]
    | flag => simp only [encP, (setT_root hc).2]
    | root => simp only [encP, (setT_root hc).1]
    | text q => simp only [encP, getT_other hc hd hne]
end Go.Proofs.YtfhfkpgfnlmfhaaGreatDoor

/- And back, for all of a message. -/
namespace Go.Proofs.YtfhfkpgfnlmfhaaGreatDoor
open Go.RowKit

theorem fault_stays {s : Rdm} {c : Pc} (h : s.rs.fault ≠ 0) : (takP s c).rs = s.rs := by
  cases c with
  | byte o => simp only [takP]; unfold rByte; rw [if_pos h]
  | num o => simp only [takP]; unfold rNum; rw [if_pos h]
  | flag => simp only [takP]; unfold rByte; rw [if_pos h]
  | root => simp only [takP]; unfold rFixed; rw [if_pos h]
  | text o => simp only [takP]; unfold rText; rw [if_pos h]
theorem fault_stays_L (ks : List Pc) : ∀ (s : Rdm), s.rs.fault ≠ 0 → (takL s ks).rs = s.rs := by
  induction ks with
  | nil => intro s _; rfl
  | cons c ks ih =>
    intro s h
    have h1 := fault_stays (c := c) h
    show (takL (takP s c) ks).rs = s.rs
    rw [ih (takP s c) (by rw [h1]; exact h), h1]
theorem odd_stays (ks : List Pc) : ∀ (s : Rdm), Pc.flag ∉ ks → (takL s ks).odd = s.odd := by
  induction ks with
  | nil => intro s _; rfl
  | cons c ks ih =>
    intro s h
    simp only [List.mem_cons, not_or] at h
    show (takL (takP s c) ks).odd = s.odd
    rw [ih _ h.2]
    cases c with
    | flag => exact absurd rfl h.1
    | _ => rfl
/-- One piece, read without a fault and fit: what was there is its form. -/
theorem takP_B {l : List Nat} {q : Ml} {od : Bool} {c : Pc} (hl : ∀ x ∈ l, x < 256) (hw : wfP c) (hf : (takP ⟨rG l, q, od⟩ c).rs.fault = 0) (hn : ∀ o, c = .num o → 0 ≤ getN (takP ⟨rG l, q, od⟩ c).ml o) (ho : c = .flag → (takP ⟨rG l, q, od⟩ c).odd = false) : ∃ l', (takP ⟨rG l, q, od⟩ c).rs = rG l' ∧ l = encP (takP ⟨rG l, q, od⟩ c).ml c ++ l' := by
  cases c with
  | byte o =>
    simp only [takP] at hf ⊢
    obtain ⟨l', h1, h2⟩ := rByte_B hf
    refine ⟨l', h2, ?_⟩
    simp only [encP, getN_set hw]
    rw [show (((rByte (rG l)).2 : Nat) : Int).toNat = (rByte (rG l)).2 from rfl]
    exact h1
  | num o =>
    have hn2 := hn o rfl
    simp only [takP] at hf hn2 ⊢
    obtain ⟨l', h1, h2, h3⟩ := rNum_B hl hf
    refine ⟨l', h2, ?_⟩
    rw [getN_set hw] at hn2
    simp only [encP, getN_set hw, toI_back h3 hn2]
    exact h1
  | flag =>
    have ho2 := ho rfl
    simp only [takP] at hf ho2 ⊢
    obtain ⟨l', h1, h2⟩ := rByte_B hf
    refine ⟨l', h2, ?_⟩
    have h3 : ¬ 1 < (rByte (rG l)).2 := by simpa using ho2
    simp only [encP]
    generalize (rByte (rG l)).2 = x at h1 h3
    rw [h1]
    by_cases hx : x = 1
    · simp [hx]
    · simp [hx]; omega
  | root =>
    simp only [takP] at hf ⊢
    obtain ⟨l', h1, h2⟩ := rFixed_B hl hf
    exact ⟨l', h2, h1⟩
  | text o =>
    simp only [takP] at hf ⊢
    obtain ⟨l', h1, h2⟩ := rText_B hl hf
    refine ⟨l', h2, ?_⟩
    simp only [encP, getT_set hw, List.append_assoc]
    exact h1
theorem takL_other : ∀ (ks : List Pc) (s : Rdm) (d : Pc), (∀ c ∈ ks, wfP c) → wfP d → (∀ c ∈ ks, cellP c ≠ cellP d) → encP (takL s ks).ml d = encP s.ml d
  | [], _, _, _, _, _ => rfl
  | c :: ks, s, d, hw, hd, hne => by
    show encP (takL (takP s c) ks).ml d = encP s.ml d
    rw [takL_other ks (takP s c) d (fun x hx => hw x (by simp [hx])) hd (fun x hx => hne x (by simp [hx]))]
    exact encP_other (hw c (by simp)) hd (hne c (by simp))
theorem num_other : ∀ (ks : List Pc) (s : Rdm) (o : Nat), (∀ c ∈ ks, wfP c) → isN o → (∀ c ∈ ks, cellP c ≠ o) → getN (takL s ks).ml o = getN s.ml o
  | [], _, _, _, _, _ => rfl
  | c :: ks, s, o, hw, ho, hne => by
    show getN (takL (takP s c) ks).ml o = getN s.ml o
    rw [num_other ks (takP s c) o (fun x hx => hw x (by simp [hx])) ho (fun x hx => hne x (by simp [hx]))]
    have h1 := hw c (by simp)
    have h2 := hne c (by simp)
    cases c with
    | byte q => exact getN_other h1 ho h2
    | num q => exact getN_other h1 ho h2
    | flag => rcases ho with rfl | rfl | rfl | rfl | rfl | rfl | rfl | rfl | rfl | rfl | rfl | rfl <;> rfl
    | root => rcases ho with rfl | rfl | rfl | rfl | rfl | rfl | rfl | rfl | rfl | rfl | rfl | rfl <;> rfl
    | text q => exact getN_setT h1
theorem takL_B : ∀ (ks : List Pc) (l : List Nat) (q : Ml) (od : Bool), (∀ x ∈ l, x < 256) → (∀ c ∈ ks, wfP c) → (ks.map cellP).Nodup → (takL ⟨rG l, q, od⟩ ks).rs.fault = 0 → (∀ o, Pc.num o ∈ ks → 0 ≤ getN (takL ⟨rG l, q, od⟩ ks).ml o) → (Pc.flag ∈ ks → (takL ⟨rG l, q, od⟩ ks).odd = false) →
    ∃ l', (takL ⟨rG l, q, od⟩ ks).rs = rG l' ∧ l = encL (takL ⟨rG l, q, od⟩ ks).ml ks ++ l'
  | [], l, _, _, _, _, _, _, _, _ => ⟨l, rfl, rfl⟩
  | c :: ks, l, q, od, hl, hw, hnd, hf, hn, ho => by
    have e0 : takL ⟨rG l, q, od⟩ (c :: ks) = takL (takP ⟨rG l, q, od⟩ c) ks := rfl
    rw [e0] at hf hn ho ⊢
    rw [List.map_cons, List.nodup_cons] at hnd
    have hne : ∀ d ∈ ks, cellP d ≠ cellP c := fun d hd e => hnd.1 (by rw [← e]; exact List.mem_map_of_mem hd)
    have hwk : ∀ d ∈ ks, wfP d := fun d hd => hw d (by simp [hd])
    have hwc := hw c (by simp)
    have hf1 : (takP ⟨rG l, q, od⟩ c).rs.fault = 0 := by
      rcases Nat.eq_zero_or_pos (takP ⟨rG l, q, od⟩ c).rs.fault with h | h
      · exact h
      · have := fault_stays_L ks _ (show (takP ⟨rG l, q, od⟩ c).rs.fault ≠ 0 by omega)
        rw [this] at hf; exact hf
    obtain ⟨l1, g1, g2⟩ := takP_B hl hwc hf1 (fun o e => by
      subst e
      have h1 := hn o (by simp)
      rw [num_other ks _ o hwk hwc hne] at h1
      exact h1) (fun e => by
      subst e
      have h1 := ho (by simp)
      rw [odd_stays ks _ (fun hm => hne _ hm rfl)] at h1
      exact h1)
    have hl1 : ∀ x ∈ l1, x < 256 := fun x hx => hl x (by rw [g2]; simp [hx])
    have ec : encP (takL (takP ⟨rG l, q, od⟩ c) ks).ml c = encP (takP ⟨rG l, q, od⟩ c).ml c := takL_other ks _ c hwk hwc hne
    have e1 : takP ⟨rG l, q, od⟩ c = ⟨rG l1, (takP ⟨rG l, q, od⟩ c).ml, (takP ⟨rG l, q, od⟩ c).odd⟩ := by rw [← g1]
    rw [e1] at hf hn ho
    obtain ⟨l2, k1, k2⟩ := takL_B ks l1 _ _ hl1 hwk hnd.2 hf (fun o hm => hn o (by simp [hm])) (fun hm => ho (by simp [hm]))
    rw [← e1] at k1 k2
    refine ⟨l2, k1, ?_⟩
    rw [encL_cons, ec, List.append_assoc, ← k2]
    exact g2
end Go.Proofs.YtfhfkpgfnlmfhaaGreatDoor

/- One form: what is decoded is the form of what it is decoded to. -/
namespace Go.Proofs.YtfhfkpgfnlmfhaaGreatDoor
open Go.RowKit

theorem takL_append (s : Rdm) (a b : List Pc) : takL s (a ++ b) = takL (takL s a) b := by
  unfold takL
  rw [List.foldl_append]
theorem mem_mid {p : Ml} {c : Pc} (h : c ∈ mid p) : (c = .num 8 ∨ c = .num 13 ∨ c = .num 4 ∨ c = .root ∨ c = .text 6) ∨ (c = .byte 9 ∨ c = .text 10) := by
  unfold mid at h
  split at h
  · simp at h; rcases h with rfl | rfl | rfl <;> simp
  · split at h
    · simp at h; rcases h with rfl | rfl <;> simp
    · split at h
      · simp at h; rcases h with rfl | rfl | rfl <;> simp
      · simp at h; subst h; simp
theorem mem_fin {p : Ml} {c : Pc} (h : c ∈ fin p) : c = .text 11 ∨ c = .num 12 ∨ c = .flag ∨ c = .text 15 ∨ c = .text 16 ∨ c = .num 17 ∨ c = .num 18 ∨ c = .byte 19 := by
  unfold fin at h
  split at h
  · split at h
    · simp at h; subst h; simp
    · split at h
      · simp at h; rcases h with rfl | rfl <;> simp
      · simp at h
  · split at h
    · split at h
      · simp at h; rcases h with rfl | rfl | rfl | rfl | rfl <;> simp
      · split at h
        · simp at h; subst h; simp
        · simp at h
    · simp at h
theorem wf_pieces (p : Ml) : (∀ c ∈ hd, wfP c) ∧ (∀ c ∈ mid p, wfP c) ∧ (∀ c ∈ fin p, wfP c) := by
  refine ⟨fun c hc => ?_, fun c hc => ?_, fun c hc => ?_⟩
  · simp [hd] at hc; rcases hc with rfl | rfl | rfl | rfl <;> simp [wfP, isN]
  · rcases mem_mid hc with (rfl | rfl | rfl | rfl | rfl) | (rfl | rfl) <;> simp [wfP, isN, isT]
  · rcases mem_fin hc with rfl | rfl | rfl | rfl | rfl | rfl | rfl | rfl <;> simp [wfP, isN, isT]
/-- What stands in a later part does not turn what was looked at. -/
theorem kind_mid (s : Rdm) (q : Ml) : (takL s (mid q)).ml.kind = s.ml.kind :=
  num_other (mid q) s 0 (wf_pieces q).2.1 (by simp [isN]) (fun c hc => by rcases mem_mid hc with (rfl | rfl | rfl | rfl | rfl) | (rfl | rfl) <;> simp [cellP])
theorem kind_fin (s : Rdm) (q : Ml) : (takL s (fin q)).ml.kind = s.ml.kind :=
  num_other (fin q) s 0 (wf_pieces q).2.2 (by simp [isN]) (fun c hc => by rcases mem_fin hc with rfl | rfl | rfl | rfl | rfl | rfl | rfl | rfl <;> simp [cellP])
theorem okind_fin (s : Rdm) (q : Ml) : (takL s (fin q)).ml.okind = s.ml.okind :=
  num_other (fin q) s 9 (wf_pieces q).2.2 (by simp [isN]) (fun c hc => by rcases mem_fin hc with rfl | rfl | rfl | rfl | rfl | rfl | rfl | rfl <;> simp [cellP])
theorem verd_fin (s : Rdm) (q : Ml) : (takL s (fin q)).ml.verd = s.ml.verd :=
  num_other (fin q) s 13 (wf_pieces q).2.2 (by simp [isN]) (fun c hc => by rcases mem_fin hc with rfl | rfl | rfl | rfl | rfl | rfl | rfl | rfl <;> simp [cellP])
theorem fin_eq' {p q : Ml} (h : q.kind = p.kind) (h1 : q.okind = p.okind) (h2 : q.verd = p.verd) : fin q = fin p := fin_eq h (fun _ => h1) (fun _ => h2)
theorem read3_eq (bs : List Nat) : read3 bs = takL (read0 bs) (pieces (read3 bs).ml) := by
  have k2 : (read2 bs).ml.kind = (read1 bs).ml.kind := kind_mid _ _
  have k3 : (read3 bs).ml.kind = (read2 bs).ml.kind := kind_fin _ _
  have o3 : (read3 bs).ml.okind = (read2 bs).ml.okind := okind_fin _ _
  have v3 : (read3 bs).ml.verd = (read2 bs).ml.verd := verd_fin _ _
  have em : mid (read3 bs).ml = mid (read1 bs).ml := mid_eq (k3.trans k2)
  have ef : fin (read3 bs).ml = fin (read2 bs).ml := fin_eq' k3 o3 v3
  unfold pieces
  rw [em, ef, takL_append, takL_append]
  rfl
theorem nodup_pieces (p : Ml) : ((pieces p).map cellP).Nodup := by
  by_cases k1 : p.kind = 1
  · rcases pcs_op k1 with ⟨_, e⟩ | ⟨_, e⟩ | ⟨_, _, e⟩ <;> rw [e] <;> decide
  · by_cases k2 : p.kind = 2
    · rcases pcs_ve k2 with ⟨_, e⟩ | ⟨_, e⟩ | ⟨_, _, _, e⟩ <;> rw [e] <;> decide
    · by_cases k3 : p.kind = 3
      · rw [pcs_0, pcs_3 k3]; decide
      · rw [pcs_0, pcs_4 k1 k2 k3]; decide
theorem body_named (p : Ml) : body (named p) = body p ∧ pieces (named p) = pieces p := by
  unfold named
  split
  · exact ⟨rfl, rfl⟩
  · split
    · exact ⟨rfl, rfl⟩
    · exact ⟨rfl, rfl⟩
theorem num_named (p : Ml) (o : Nat) (h : isN o) : getN (named p) o = getN p o := by
  unfold named
  split
  · rcases h with rfl | rfl | rfl | rfl | rfl | rfl | rfl | rfl | rfl | rfl | rfl | rfl <;> rfl
  · split
    · rcases h with rfl | rfl | rfl | rfl | rfl | rfl | rfl | rfl | rfl | rfl | rfl | rfl <;> rfl
    · rfl
/-- What read answers is the message of which the bytes are the body. -/
theorem readM_back {bs : List Nat} (hb : ∀ x ∈ bs, x < 256) (h1 : (readM bs).2 = true) (h2 : snd (readM bs).1 = true) (hr : (readM bs).1.root < 18446744073709551616) : bs = body (readM bs).1 := by
  have e1 : (readM bs).1 = named (read3 bs).ml := rfl
  have e2 : (readM bs).2 = (!(read3 bs).odd && decide (rDone (read3 bs).rs = 0)) := rfl
  rw [e2, Bool.and_eq_true, Bool.not_eq_true', decide_eq_true_eq] at h1
  obtain ⟨ho, hd⟩ := h1
  have hok := snd_ok h2 hr
  rw [e1] at hok ⊢
  rw [(body_named _).1]
  rw [(body_named _).2] at hok
  have hfa : (read3 bs).rs.fault = 0 := by
    unfold rDone at hd
    split at hd
    · rename_i h; exact absurd hd h
    · rename_i h; simpa using h
  have er := read3_eq bs
  obtain ⟨w1, w2, w3⟩ := wf_pieces (read3 bs).ml
  have hw : ∀ c ∈ pieces (read3 bs).ml, wfP c := fun c hc => by
    unfold pieces at hc
    simp only [List.mem_append] at hc
    rcases hc with hc | hc | hc
    · exact w1 c hc
    · exact w2 c hc
    · exact w3 c hc
  obtain ⟨l', g1, g2⟩ := takL_B (pieces (read3 bs).ml) bs zeroM false hb hw (nodup_pieces _) (by have := hfa; rw [er] at this; exact this) (fun o hm => by
    have h3 := hok _ hm
    obtain ⟨h4, h5, _⟩ := h3
    rw [num_named _ _ h4, er] at h5
    exact h5) (fun _ => by have := ho; rw [er] at this; exact this)
  have er2 : takL ⟨rG bs, zeroM, false⟩ (pieces (read3 bs).ml) = read3 bs := er.symm
  rw [er2] at g1 g2
  have hl : l' = [] := by
    rw [g1] at hd
    unfold rDone rG at hd
    simp at hd
    exact hd
  rw [hl, List.append_nil] at g2
  exact g2
theorem decode_form {bs : List Nat} (hb : ∀ x ∈ bs, x < 256) (h : decE bs = 0) (hr : (decM bs).root < 18446744073709551616) : bs = enc (decM bs) ∧ snd (decM bs) = true := by
  have hm : decM bs = (readM (bs.take (bs.length - 4))).1 := by unfold decM; rw [if_pos h]
  have h0 := h
  unfold decE at h
  split at h
  · cases h
  · split at h
    · cases h
    · split at h
      · cases h
      · rename_i h5 h8 hs
        split at h
        · rename_i hk
          rw [hm] at hr ⊢
          have hb2 := readM_back (fun x hx => hb x (List.mem_of_mem_take hx)) hk.1 hk.2 hr
          refine ⟨?_, hk.2⟩
          unfold enc summed
          rw [← hb2]
          have hs2 : bs.drop (bs.length - 4) = le (crc (bs.take (bs.length - 4))) 4 := by simpa using hs
          rw [← hs2, List.take_append_drop]
        · cases h
end Go.Proofs.YtfhfkpgfnlmfhaaGreatDoor

/- What is read is made of bytes. -/
namespace Go.Proofs.YtfhfkpgfnlmfhaaGreatDoor
open Go.RowKit

structure GM (s : Rdm) : Prop where
  left : ∀ x ∈ s.rs.left, x < 256
  root : s.ml.root < 18446744073709551616
  byt : ∀ o, isT o → ∀ x ∈ getT s.ml o, x < 256
theorem rByte_l {s : RS} (h : ∀ x ∈ s.left, x < 256) : ∀ x ∈ (rByte s).1.left, x < 256 := by
  unfold rByte
  split
  · exact h
  · split
    · intro x hx; simp [rF] at hx
    · rename_i y l e
      intro x hx
      exact h x (by rw [e]; simp; exact Or.inr hx)
theorem rNum_l {s : RS} (h : ∀ x ∈ s.left, x < 256) : ∀ x ∈ (rNum s).1.left, x < 256 := by
  unfold rNum
  split
  · exact h
  · split
    · intro x hx; simp [rF] at hx
    · rename_i n r e
      exact (readNum_lt _ 0 0 (by omega) (by simp) h e).2.1
theorem rFixed_l {s : RS} (h : ∀ x ∈ s.left, x < 256) : (∀ x ∈ (rFixed s 8).1.left, x < 256) ∧ (rFixed s 8).2 < 18446744073709551616 := by
  unfold rFixed
  split
  · exact ⟨h, by omega⟩
  · split
    · exact ⟨fun x hx => by simp [rF] at hx, by omega⟩
    · split
      · exact ⟨fun x hx => by simp [rF] at hx, by omega⟩
      · rename_i hl
        refine ⟨fun x hx => h x (List.mem_of_mem_drop hx), ?_⟩
        show leV (s.left.take (8 : Int).toNat) < _
        have e : (8 : Int).toNat = 8 := rfl
        rw [e]
        have := leV_lt (s.left.take 8) (fun x hx => h x (List.mem_of_mem_take hx))
        rw [show (s.left.take 8).length = 8 by simp; omega] at this
        omega
theorem rText_l {s : RS} (h : ∀ x ∈ s.left, x < 256) : (∀ x ∈ (rText s 524288).1.left, x < 256) ∧ (∀ x ∈ (rText s 524288).2, x < 256) := by
  unfold rText
  split
  · exact ⟨h, by simp⟩
  · split
    · exact ⟨fun x hx => by simp [rF] at hx, by simp⟩
    · rename_i n r e
      have hr := (readNum_lt _ 0 0 (by omega) (by simp) h e).2.1
      split
      · exact ⟨fun x hx => by simp [rF] at hx, by simp⟩
      · split
        · exact ⟨fun x hx => by simp [rF] at hx, by simp⟩
        · exact ⟨fun x hx => hr x (List.mem_of_mem_drop hx), fun x hx => hr x (List.mem_of_mem_take hx)⟩
theorem GM.step {s : Rdm} (h : GM s) {c : Pc} (hw : wfP c) : GM (takP s c) := by
  cases c with
  | byte o => exact ⟨rByte_l h.left, by simp only [takP]; rw [(setN_root hw).1]; exact h.root, fun q hq => by simp only [takP]; rw [getT_setN hw]; exact h.byt q hq⟩
  | num o => exact ⟨rNum_l h.left, by simp only [takP]; rw [(setN_root hw).1]; exact h.root, fun q hq => by simp only [takP]; rw [getT_setN hw]; exact h.byt q hq⟩
  | flag => exact ⟨rByte_l h.left, h.root, h.byt⟩
  | root => exact ⟨(rFixed_l h.left).1, (rFixed_l h.left).2, h.byt⟩
  | text o =>
    refine ⟨(rText_l h.left).1, by simp only [takP]; rw [(setT_root hw).1]; exact h.root, fun q hq => ?_⟩
    simp only [takP]
    by_cases e : o = q
    · subst e
      rw [getT_set hw]
      exact (rText_l h.left).2
    · rw [getT_other hw hq e]
      exact h.byt q hq
theorem GM.steps : ∀ (ks : List Pc) (s : Rdm), GM s → (∀ c ∈ ks, wfP c) → GM (takL s ks)
  | [], _, h, _ => h
  | c :: ks, s, h, hw => GM.steps ks (takP s c) (h.step (hw c (by simp))) (fun d hd => hw d (by simp [hd]))
theorem named_T (p : Ml) : (named p).root = p.root ∧ ∀ o, getT (named p) o = getT p o := by
  unfold named
  split
  · exact ⟨rfl, fun _ => rfl⟩
  · split
    · exact ⟨rfl, fun _ => rfl⟩
    · exact ⟨rfl, fun _ => rfl⟩
theorem readM_byt {bs : List Nat} (hb : ∀ x ∈ bs, x < 256) : (readM bs).1.root < 18446744073709551616 ∧ ∀ o, isT o → ∀ x ∈ getT (readM bs).1 o, x < 256 := by
  have h0 : GM (read0 bs) := ⟨hb, by show (0 : Nat) < _; omega, fun o ho x hx => by rcases ho with rfl | rfl | rfl | rfl | rfl <;> simp [read0, zeroM, getT] at hx⟩
  have h1 := GM.steps hd _ h0 (wf_pieces zeroM).1
  have h2 := GM.steps (mid (read1 bs).ml) _ h1 (wf_pieces _).2.1
  have h3 : GM (read3 bs) := GM.steps (fin (read2 bs).ml) _ h2 (wf_pieces _).2.2
  have e1 : (readM bs).1 = named (read3 bs).ml := rfl
  rw [e1]
  obtain ⟨n1, n2⟩ := named_T (read3 bs).ml
  exact ⟨by rw [n1]; exact h3.root, fun o ho => by rw [n2]; exact h3.byt o ho⟩
theorem decM_byt {bs : List Nat} (hb : ∀ x ∈ bs, x < 256) : (decM bs).root < 18446744073709551616 ∧ ∀ o, isT o → ∀ x ∈ getT (decM bs) o, x < 256 := by
  unfold decM
  split
  · exact readM_byt (fun x hx => hb x (List.mem_of_mem_take hx))
  · exact ⟨by show (0 : Nat) < _; omega, fun o ho x hx => by rcases ho with rfl | rfl | rfl | rfl | rfl <;> simp [zeroM, getT] at hx⟩
/-- What is decoded is the form of its message, which is sound. -/
theorem decode_back {bs : List Nat} (hb : ∀ x ∈ bs, x < 256) (h : decE bs = 0) : bs = enc (decM bs) ∧ snd (decM bs) = true := decode_form hb h (decM_byt hb).1
end Go.Proofs.YtfhfkpgfnlmfhaaGreatDoor

/- A form cut off, or gone on with, its sum made anew; unlike messages have unlike forms. -/
namespace Go.Proofs.YtfhfkpgfnlmfhaaGreatDoor
open Go.RowKit

theorem summed_len (bs : List Nat) : (summed bs).length = bs.length + 4 := by unfold summed; rw [List.length_append, le_len]
theorem summed_parts (bs : List Nat) : (summed bs).take ((summed bs).length - 4) = bs ∧ (summed bs).drop ((summed bs).length - 4) = le (crc bs) 4 := by
  have : (summed bs).length - 4 = bs.length := by rw [summed_len]; omega
  rw [this]
  unfold summed
  exact ⟨List.take_left .., List.drop_left ..⟩
theorem decE_summed (bs : List Nat) : decE (summed bs) = if 524288 < bs.length + 4 then 3 else if bs.length + 4 < 8 then 190 else if (readM bs).2 = true ∧ snd (readM bs).1 = true then 0 else 190 := by
  obtain ⟨e1, e2⟩ := summed_parts bs
  unfold decE
  rw [e1, e2, summed_len]
  simp only [ne_eq, not_true_eq_false, if_false]
/-- What stands ahead of a right sum is decoded just where it is a sound message's body. -/
theorem decE_zero {bs : List Nat} (hb : ∀ x ∈ bs, x < 256) (h : decE (summed bs) = 0) : ∃ p, snd p = true ∧ p.root < 18446744073709551616 ∧ bs = body p := by
  rw [decE_summed] at h
  split at h
  · cases h
  · split at h
    · cases h
    · split at h
      · rename_i hk
        exact ⟨(readM bs).1, hk.2, (readM_byt hb).1, readM_back hb hk.1 hk.2 (readM_byt hb).1⟩
      · cases h
/-- No body is the beginning of another. -/
theorem body_free {p q : Ml} (hp : snd p = true) (hpr : p.root < 18446744073709551616) (hq : snd q = true) (hqr : q.root < 18446744073709551616) {l : List Nat} (h : body p ++ l = body q) : l = [] ∧ p = q := by
  by_cases hl : l = []
  · subst hl
    rw [List.append_nil] at h
    have h1 := readM_body hp hpr
    rw [h, readM_body hq hqr] at h1
    exact ⟨rfl, by injection h1 with h2 _; exact h2.symm⟩
  · have h1 := readM_more hp hpr hl
    rw [h, readM_body hq hqr] at h1
    injection h1 with _ h2
    cases h2
theorem enc_inj {p q : Ml} (hp : snd p = true) (hpr : p.root < 18446744073709551616) (hq : snd q = true) (hqr : q.root < 18446744073709551616) (h : enc p = enc q) : p = q := by
  have h1 := decE_enc hp hpr
  have h2 := decE_enc hq hqr
  rw [h, h2.2] at h1
  exact h1.2.symm
theorem decE_body {p : Ml} (hp : snd p = true) (hpr : p.root < 18446744073709551616) : decE (summed (body p)) = 0 := (decE_enc hp hpr).1
theorem decE_two (bs : List Nat) (h : bs.length + 4 ≤ 524288) : decE (summed bs) = 0 ∨ decE (summed bs) = 190 := by
  rw [decE_summed, if_neg (by omega)]
  split
  · exact Or.inr rfl
  · split
    · exact Or.inl rfl
    · exact Or.inr rfl
/-- Cut off. -/
theorem cut_form {p : Ml} (hp : snd p = true) (hpr : p.root < 18446744073709551616) (hb : ∀ o, isT o → ∀ x ∈ getT p o, x < 256) (k : Nat) (hk : k ≤ (body p).length) : (decE (summed ((body p).take k)) = 0 ↔ k = (body p).length) ∧ (decE (summed ((body p).take k)) = 0 ∨ decE (summed ((body p).take k)) = 190) := by
  have hl := snd_len hp
  refine ⟨⟨fun h => ?_, fun h => ?_⟩, decE_two _ (by simp; omega)⟩
  · obtain ⟨q, hq, hqr, e⟩ := decE_zero (fun x hx => body_lt hp hpr hb x (List.mem_of_mem_take hx)) h
    have h1 := (body_free hq hqr hp hpr (l := (body p).drop k) (by rw [← e, List.take_append_drop])).1
    have := congrArg List.length h1
    simp at this
    omega
  · rw [h, List.take_length]
    exact decE_body hp hpr
/-- Gone on with. -/
theorem more_form {p : Ml} (hp : snd p = true) (hpr : p.root < 18446744073709551616) (hb : ∀ o, isT o → ∀ x ∈ getT p o, x < 256) (l : List Nat) (hl : ∀ x ∈ l, x < 256) : (524288 < (body p ++ l).length + 4 → decE (summed (body p ++ l)) = 3) ∧ ((body p ++ l).length + 4 ≤ 524288 → (decE (summed (body p ++ l)) = 0 ↔ l = []) ∧ (decE (summed (body p ++ l)) = 0 ∨ decE (summed (body p ++ l)) = 190)) := by
  refine ⟨fun h => by rw [decE_summed, if_pos h], fun h => ⟨⟨fun h0 => ?_, fun h0 => ?_⟩, decE_two _ h⟩⟩
  · obtain ⟨q, hq, hqr, e⟩ := decE_zero (fun x hx => by
      rcases List.mem_append.1 hx with hx | hx
      · exact body_lt hp hpr hb x hx
      · exact hl x hx) h0
    exact (body_free hp hpr hq hqr e).1
  · rw [h0, List.append_nil]
    exact decE_body hp hpr
end Go.Proofs.YtfhfkpgfnlmfhaaGreatDoor

/- The document's loose reading of a message, in plain words. -/
namespace Go.Proofs.YtfhfkpgfnlmfhaaGreatDoor
open Go.RowKit

/-- The last pieces as the document reads them: of a reply without an answer the hint, whatever its verdict. -/
def finD (p : Ml) : List Pc :=
  if p.kind = 2 then (if p.verd = 0 then [.flag, .text 15, .text 16, .num 17, .num 18] else [.byte 19]) else fin p
def looR (bs : List Nat) : Rdm := takL (read2 bs) (finD (read2 bs).ml)
/-- What is read loosely. -/
def looM (bs : List Nat) : Ml := named (looR bs).ml
theorem finD_eq {p : Ml} (h : p.kind = 2 → p.verd = 0 ∨ p.verd = 220 ∨ p.verd = 221) : finD p = fin p := by
  unfold finD
  by_cases hk : p.kind = 2
  · have h1 : ¬ p.kind = 1 := by omega
    unfold fin
    simp only [hk, if_true, show ((2 : Int) = 1) = False by simp, if_false]
    by_cases hv : p.verd = 0
    · simp only [hv, if_true]
    · have h2 : p.verd = 220 ∨ p.verd = 221 := (h hk).resolve_left hv
      simp only [hv, if_false, h2, if_true]
  · simp only [hk, if_false]
theorem named_k (q : Ml) : (named q).kind = q.kind ∧ (named q).verd = q.verd ∧ (named q).hint = q.hint := by
  unfold named
  split
  · exact ⟨rfl, rfl, rfl⟩
  · split <;> exact ⟨rfl, rfl, rfl⟩
theorem named_hint (q : Ml) (n : Int) : named { q with hint := n } = { named q with hint := n } := by
  unfold named
  by_cases h1 : q.kind = 1
  · rw [if_pos (show ({ q with hint := n } : Ml).kind = 1 from h1), if_pos h1]
  · by_cases h2 : q.kind = 2
    · rw [if_neg (show ¬ ({ q with hint := n } : Ml).kind = 1 from h1), if_neg h1, if_pos (show ({ q with hint := n } : Ml).kind = 2 from h2), if_pos h2]
    · rw [if_neg (show ¬ ({ q with hint := n } : Ml).kind = 1 from h1), if_neg h1, if_neg (show ¬ ({ q with hint := n } : Ml).kind = 2 from h2), if_neg h2]
theorem looM_body {p : Ml} (h : snd p = true) (hr : p.root < 18446744073709551616) : looM (body p) = p := by
  have e1 : named (read3 (body p)).ml = p := congrArg Prod.fst (readM_body h hr)
  have hG := read3_G (snd_ok h hr) []
  rw [List.append_nil] at hG
  by_cases hq : (read2 (body p)).ml.kind = 2 → (read2 (body p)).ml.verd = 0 ∨ (read2 (body p)).ml.verd = 220 ∨ (read2 (body p)).ml.verd = 221
  · unfold looM looR
    rw [finD_eq hq]
    exact e1
  · have hk : (read2 (body p)).ml.kind = 2 := Decidable.byContradiction fun hc => hq (fun h0 => absurd h0 hc)
    have hv : (read2 (body p)).ml.verd ≠ 0 ∧ (read2 (body p)).ml.verd ≠ 220 ∧ (read2 (body p)).ml.verd ≠ 221 := ⟨fun h0 => hq (fun _ => Or.inl h0), fun h0 => hq (fun _ => Or.inr (Or.inl h0)), fun h0 => hq (fun _ => Or.inr (Or.inr h0))⟩
    have hf : fin (read2 (body p)).ml = [] := by
      unfold fin
      rw [if_neg (by omega), if_pos hk, if_neg hv.1, if_neg (fun h0 => h0.elim hv.2.1 hv.2.2)]
    have hd : finD (read2 (body p)).ml = [.byte 19] := by
      unfold finD
      rw [if_pos hk, if_neg hv.1]
    have e3 : read3 (body p) = read2 (body p) := by
      unfold read3
      rw [hf]
      rfl
    have hkp : p.kind = 2 := by
      have := (named_k (read3 (body p)).ml).1
      rw [e1, e3] at this
      omega
    have hvp : p.verd = (read2 (body p)).ml.verd := by
      have := (named_k (read3 (body p)).ml).2.1
      rw [e1, e3] at this
      exact this
    have hh : p.hint = 0 := by
      rcases ((snd_iff p).1 h).2 with h2 | h2 | h2 | h2
      · have := h2.1; omega
      · rcases h2.2.2.2.2.2.1 with ⟨h3, _⟩ | ⟨_, _, h3⟩ | ⟨h3, _⟩
        · rw [hvp] at h3; exact absurd h3 hv.1
        · exact h3
        · rw [hvp] at h3; exact absurd h3 (fun h0 => h0.elim hv.2.1 hv.2.2)
      · have := h2.1; omega
      · have := h2.1.1; omega
    unfold looM looR
    rw [hd, ← e3, hG]
    show named { (cpL p zeroM (pieces p)) with hint := 0 } = p
    rw [named_hint]
    have e4 : named (cpL p zeroM (pieces p)) = p := by
      have e5 : (read3 (body p)).ml = cpL p zeroM (pieces p) := congrArg Rdm.ml hG
      rw [← e5]
      exact e1
    rw [e4, ← hh]
theorem dec_loo_yes {bs : List Nat} (hr : (looM (bs.take (bs.length - 4))).root < 18446744073709551616) (h1 : snd (looM (bs.take (bs.length - 4))) = true) (h2 : enc (looM (bs.take (bs.length - 4))) = bs) : decE bs = 0 ∧ decM bs = looM (bs.take (bs.length - 4)) := by
  have := decE_enc h1 hr
  rw [h2] at this
  exact this
theorem dec_loo_no {bs : List Nat} (hb : ∀ x ∈ bs, x < 256) (l8 : 8 ≤ bs.length) (l5 : bs.length ≤ 524288) (hs : bs.drop (bs.length - 4) = le (crc (bs.take (bs.length - 4))) 4) (h : ¬ (snd (looM (bs.take (bs.length - 4))) = true ∧ enc (looM (bs.take (bs.length - 4))) = bs)) : decE bs = 190 := by
  by_cases h0 : decE bs = 0
  · obtain ⟨e1, e2⟩ := decode_back hb h0
    have hr := (decM_byt hb).1
    have e3 := (enc_parts (decM bs)).1
    rw [← e1] at e3
    have e4 := looM_body e2 hr
    rw [← e3] at e4
    exact absurd ⟨by rw [e4]; exact e2, by rw [e4]; exact e1.symm⟩ h
  · unfold decE at h0 ⊢
    rw [if_neg (by omega), if_neg (by omega), if_neg (by simp [hs])] at h0 ⊢
    split
    · rename_i hc
      rw [if_pos hc] at h0
      exact absurd rfl h0
    · rfl
theorem wf_finD (p : Ml) : ∀ c ∈ finD p, wfP c := by
  unfold finD
  split
  · split
    · intro c hc
      simp at hc
      rcases hc with rfl | rfl | rfl | rfl | rfl <;> simp [wfP, isN, isT]
    · intro c hc
      simp at hc
      subst hc
      simp [wfP, isN]
  · exact (wf_pieces p).2.2
theorem looM_byt {bs : List Nat} (hb : ∀ x ∈ bs, x < 256) : (looM bs).root < 18446744073709551616 ∧ ∀ o, isT o → ∀ x ∈ getT (looM bs) o, x < 256 := by
  have h0 : GM (read0 bs) := ⟨hb, by show (0 : Nat) < _; omega, fun o ho x hx => by rcases ho with rfl | rfl | rfl | rfl | rfl <;> simp [read0, zeroM, getT] at hx⟩
  have h1 := GM.steps hd _ h0 (wf_pieces zeroM).1
  have h2 := GM.steps (mid (read1 bs).ml) _ h1 (wf_pieces _).2.1
  have h3 : GM (looR bs) := GM.steps (finD (read2 bs).ml) _ h2 (wf_finD _)
  obtain ⟨n1, n2⟩ := named_T (looR bs).ml
  exact ⟨by unfold looM; rw [n1]; exact h3.root, fun o ho => by unfold looM; rw [n2]; exact h3.byt o ho⟩
end Go.Proofs.YtfhfkpgfnlmfhaaGreatDoor
