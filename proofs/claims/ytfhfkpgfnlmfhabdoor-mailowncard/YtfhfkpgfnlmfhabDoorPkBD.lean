/- Texts laid one behind the other: XU3 XU4 XU5 XU6 XU7 XU8 MAwP MSum MEq XD2 XD3 MAwk MDec MOB MOA MOC MOL MOP MOW0. -/
import Derived.Test.YtfhfkpgfnlmfhabDoorPkBC
import Derived.Test.YtfhfkpgfnlmfhabDoorPkBA
import Derived.Test.YtfhfkpgfnlmfhabDoorPkY
/- And back: bytes that are decoded are the form of what they are decoded to. -/
namespace Go.Proofs.YtfhfkpgfnlmfhabDoor
open Go.RowKit

theorem read_one (l : List Nat) : ∀ (k acc n : Nat) (r : List Nat), (∀ x ∈ l, x < 256) → readNum k acc l = .inr (n, r) → ∃ m, n = acc + m * 128 ^ k ∧ l = form m ++ r ∧ (0 < k → 0 < m) := by
  induction l with
  | nil => intro k acc n r _ h; simp [readNum] at h
  | cons x l ih =>
    intro k acc n r hl h
    have hx := hl x (by simp)
    rw [readNum] at h
    split at h
    · cases h
    · split at h
      · rename_i h8
        split at h
        · cases h
        · rename_i h0
          cases h
          exact ⟨x, rfl, by rw [form_small h8]; rfl, fun hk => by omega⟩
      · rename_i h8
        obtain ⟨m, h1, h2, h3⟩ := ih (k + 1) _ n r (fun y hy => hl y (by simp [hy])) h
        have h4 := h3 (by omega)
        refine ⟨x % 128 + 128 * m, ?_, ?_, fun _ => by omega⟩
        · rw [h1, Nat.pow_succ, Nat.add_mul]
          have : m * (128 ^ k * 128) = 128 * m * 128 ^ k := by rw [Nat.mul_comm (128 ^ k), ← Nat.mul_assoc, Nat.mul_comm m]
          omega
        · rw [form_big (by omega), h2]
          have e1 : (x % 128 + 128 * m) % 128 + 128 = x := by omega
          have e2 : (x % 128 + 128 * m) / 128 = m := by omega
          rw [e1, e2]; rfl
theorem read_one0 {l r : List Nat} {n : Nat} (hl : ∀ x ∈ l, x < 256) (h : readNum 0 0 l = .inr (n, r)) : l = form n ++ r := by
  obtain ⟨m, h1, h2, _⟩ := read_one l 0 0 n r hl h
  have : n = m := by simp at h1; exact h1
  rw [this]; exact h2
theorem toI_back {n : Nat} (h : n < 18446744073709551616) (h0 : 0 ≤ toI n) : (toI n).toNat = n := by
  have h1 : toI n = if n < 9223372036854775808 then (n : Int) else (n : Int) - 18446744073709551616 := by
    unfold toI wrap64
    split <;> omega
  rw [h1] at h0 ⊢
  split at h0
  · rw [if_pos (by assumption)]; omega
  · omega
theorem rByte_B {l : List Nat} (hf : (rByte (rG l)).1.fault = 0) : ∃ l', l = (rByte (rG l)).2 :: l' ∧ (rByte (rG l)).1 = rG l' := by
  cases l with
  | nil => simp [rByte, rG, rF] at hf
  | cons x l => exact ⟨l, rfl, rfl⟩
theorem rNum_B {l : List Nat} (hl : ∀ x ∈ l, x < 256) (hf : (rNum (rG l)).1.fault = 0) : ∃ l', l = form (rNum (rG l)).2 ++ l' ∧ (rNum (rG l)).1 = rG l' ∧ (rNum (rG l)).2 < 18446744073709551616 := by
  have e : rNum (rG l) = match readNum 0 0 l with
    | .inl c => (rF c, 0)
    | .inr (n, r) => (⟨0, r, []⟩, n) := by unfold rNum rG; rw [if_neg (by simp)]; rfl
  cases hr : readNum 0 0 l with
  | inl c =>
    rw [e, hr] at hf
    have hc : c = 0 := hf
    rcases readNum_code _ _ _ hr with h | h <;> omega
  | inr q =>
    obtain ⟨n, r⟩ := q
    rw [e, hr]
    exact ⟨r, read_one0 hl hr, rfl, (readNum_lt _ 0 0 (by omega) (by simp) hl hr).1⟩
theorem rFixed_B {l : List Nat} (hl : ∀ x ∈ l, x < 256) (hf : (rFixed (rG l) 8).1.fault = 0) : ∃ l', l = le (rFixed (rG l) 8).2 8 ++ l' ∧ (rFixed (rG l) 8).1 = rG l' := by
  have e : rFixed (rG l) 8 = if (l.length : Int) < 8 then (rF 10, 0) else (⟨0, l.drop 8, []⟩, leV (l.take 8)) := by
    unfold rFixed rG
    rw [if_neg (by simp), if_neg (by omega)]
    rfl
  by_cases h : (l.length : Int) < 8
  · rw [e, if_pos h] at hf; cases hf
  · rw [e, if_neg h]
    refine ⟨l.drop 8, ?_, rfl⟩
    have h1 := le_leV (l.take 8) (fun x hx => hl x (List.mem_of_mem_take hx))
    rw [show (l.take 8).length = 8 by simp; omega] at h1
    show l = le (leV (l.take 8)) 8 ++ l.drop 8
    rw [h1, List.take_append_drop]
theorem rText_B {l : List Nat} (hl : ∀ x ∈ l, x < 256) (hf : (rText (rG l) 524288).1.fault = 0) : ∃ l', l = form (rText (rG l) 524288).2.length ++ ((rText (rG l) 524288).2 ++ l') ∧ (rText (rG l) 524288).1 = rG l' := by
  have e : rText (rG l) 524288 = match readNum 0 0 l with
    | .inl c => (rF c, [])
    | .inr (n, r) => if (524288 : Int).toNat < n then (rF 11, []) else if r.length < n then (rF 10, []) else (⟨0, r.drop n, []⟩, r.take n) := by unfold rText rG; rw [if_neg (by simp)]; rfl
  cases hr : readNum 0 0 l with
  | inl c =>
    rw [e, hr] at hf
    have hc : c = 0 := hf
    rcases readNum_code _ _ _ hr with h | h <;> omega
  | inr q =>
    obtain ⟨n, r⟩ := q
    have e2 : rText (rG l) 524288 = if (524288 : Int).toNat < n then (rF 11, []) else if r.length < n then (rF 10, []) else (⟨0, r.drop n, []⟩, r.take n) := by rw [e, hr]
    by_cases h1 : (524288 : Int).toNat < n
    · rw [e2, if_pos h1] at hf; cases hf
    · by_cases h2 : r.length < n
      · rw [e2, if_neg h1, if_pos h2] at hf; cases hf
      · rw [e2, if_neg h1, if_neg h2]
        refine ⟨r.drop n, ?_, rfl⟩
        show l = form (r.take n).length ++ (r.take n ++ r.drop n)
        rw [show (r.take n).length = n by simp; omega, List.take_append_drop]
        exact read_one0 hl hr
/-- The cell of a piece; is it one. -/
def cellP : Pc → Nat
  | .byte o => o
  | .num o => o
  | .flag => 14
  | .root => 5
  | .text o => o
def wfP : Pc → Prop
  | .byte o => isN o
  | .num o => isN o
  | .flag => True
  | .root => True
  | .text o => isT o
theorem getN_set {p : Ml} {n : Int} {o : Nat} (h : isN o) : getN (setN p n o) o = n := by
  rcases h with rfl | rfl | rfl | rfl | rfl | rfl | rfl | rfl | rfl | rfl | rfl | rfl <;> rfl
theorem getT_set {p : Ml} {t : List Nat} {o : Nat} (h : isT o) : getT (setT p t o) o = t := by
  rcases h with rfl | rfl | rfl | rfl | rfl <;> rfl
theorem getN_other {p : Ml} {n : Int} {o q : Nat} (h : isN o) (h2 : isN q) (hne : o ≠ q) : getN (setN p n o) q = getN p q := by
  rcases h with rfl | rfl | rfl | rfl | rfl | rfl | rfl | rfl | rfl | rfl | rfl | rfl <;> rcases h2 with rfl | rfl | rfl | rfl | rfl | rfl | rfl | rfl | rfl | rfl | rfl | rfl <;> first | rfl | exact absurd rfl hne
theorem getT_other {p : Ml} {t : List Nat} {o q : Nat} (h : isT o) (h2 : isT q) (hne : o ≠ q) : getT (setT p t o) q = getT p q := by
  rcases h with rfl | rfl | rfl | rfl | rfl <;> rcases h2 with rfl | rfl | rfl | rfl | rfl <;> first | rfl | exact absurd rfl hne
theorem getT_setN {p : Ml} {n : Int} {o q : Nat} (h : isN o) : getT (setN p n o) q = getT p q := by
  rcases h with rfl | rfl | rfl | rfl | rfl | rfl | rfl | rfl | rfl | rfl | rfl | rfl <;> rfl
theorem getN_setT {p : Ml} {t : List Nat} {o q : Nat} (h : isT o) : getN (setT p t o) q = getN p q := by
  rcases h with rfl | rfl | rfl | rfl | rfl <;> rfl
theorem setN_root {p : Ml} {n : Int} {o : Nat} (h : isN o) : (setN p n o).root = p.root ∧ (setN p n o).done = p.done := by
  rcases h with rfl | rfl | rfl | rfl | rfl | rfl | rfl | rfl | rfl | rfl | rfl | rfl <;> exact ⟨rfl, rfl⟩
theorem setT_root {p : Ml} {t : List Nat} {o : Nat} (h : isT o) : (setT p t o).root = p.root ∧ (setT p t o).done = p.done := by
  rcases h with rfl | rfl | rfl | rfl | rfl <;> exact ⟨rfl, rfl⟩
/-- A piece taken up leaves the others' forms. -/
theorem encP_other {s : Rdm} {c d : Pc} (hc : wfP c) (hd : wfP d) (hne : cellP c ≠ cellP d) : encP (takP s c).ml d = encP s.ml d := by
  cases c with
  | byte o =>
    simp only [takP]
    cases d with
    | byte q => simp only [encP, getN_other hc hd hne]
    | num q => simp only [encP, getN_other hc hd hne]
    | flag => simp only [encP, (setN_root hc).2]
    | root => simp only [encP, (setN_root hc).1]
    | text q => simp only [encP, getT_setN hc]
  | num o =>
    simp only [takP]
    cases d with
    | byte q => simp only [encP, getN_other hc hd hne]
    | num q => simp only [encP, getN_other hc hd hne]
    | flag => simp only [encP, (setN_root hc).2]
    | root => simp only [encP, (setN_root hc).1]
    | text q => simp only [encP, getT_setN hc]
  | flag =>
    cases d with
    | flag => exact absurd rfl hne
    | _ => rfl
  | root =>
    cases d with
    | root => exact absurd rfl hne
    | _ => rfl
  | text o =>
    simp only [takP]
    cases d with
    | byte q => simp only [encP, getN_setT hc]
    | num q => simp only [encP, getN_setT hc]
    | flag => simp only [encP, (setT_root hc).2]
    | root => simp only [encP, (setT_root hc).1]
    | text q => simp only [encP, getT_other hc hd hne]
end Go.Proofs.YtfhfkpgfnlmfhabDoor

/- And back, for all of a message. -/
namespace Go.Proofs.YtfhfkpgfnlmfhabDoor
open Go.RowKit

theorem fault_stays {s : Rdm} {c : Pc} (h : s.rs.fault ≠ 0) : (takP s c).rs = s.rs := by
  cases c with
  | byte o => simp only [takP]; unfold rByte; rw [if_pos h]
  | num o => simp only [takP]; unfold rNum; rw [if_pos h]
  | flag => simp only [takP]; unfold rByte; rw [if_pos h]
  | root => simp only [takP]; unfold rFixed; rw [if_pos h]
  | text o => simp only [takP]; unfold rText; rw [if_pos h]
theorem fault_stays_L (ks : List Pc) : ∀ (s : Rdm), s.rs.fault ≠ 0 → (takL s ks).rs = s.rs := by
  induction ks with
  | nil => intro s _; rfl
  | cons c ks ih =>
    intro s h
    have h1 := fault_stays (c := c) h
    show (takL (takP s c) ks).rs = s.rs
    rw [ih (takP s c) (by rw [h1]; exact h), h1]
theorem odd_stays (ks : List Pc) : ∀ (s : Rdm), Pc.flag ∉ ks → (takL s ks).odd = s.odd := by
  induction ks with
  | nil => intro s _; rfl
  | cons c ks ih =>
    intro s h
    simp only [List.mem_cons, not_or] at h
    show (takL (takP s c) ks).odd = s.odd
    rw [ih _ h.2]
    cases c with
    | flag => exact absurd rfl h.1
    | _ => rfl
/-- One piece, read without a fault and fit: what was there is its form. -/
theorem takP_B {l : List Nat} {q : Ml} {od : Bool} {c : Pc} (hl : ∀ x ∈ l, x < 256) (hw : wfP c) (hf : (takP ⟨rG l, q, od⟩ c).rs.fault = 0) (hn : ∀ o, c = .num o → 0 ≤ getN (takP ⟨rG l, q, od⟩ c).ml o) (ho : c = .flag → (takP ⟨rG l, q, od⟩ c).odd = false) : ∃ l', (takP ⟨rG l, q, od⟩ c).rs = rG l' ∧ l = encP (takP ⟨rG l, q, od⟩ c).ml c ++ l' := by
  cases c with
  | byte o =>
    simp only [takP] at hf ⊢
    obtain ⟨l', h1, h2⟩ := rByte_B hf
    refine ⟨l', h2, ?_⟩
    simp only [encP, getN_set hw]
    rw [show (((rByte (rG l)).2 : Nat) : Int).toNat = (rByte (rG l)).2 from rfl]
    exact h1
  | num o =>
    have hn2 := hn o rfl
    simp only [takP] at hf hn2 ⊢
    obtain ⟨l', h1, h2, h3⟩ := rNum_B hl hf
    refine ⟨l', h2, ?_⟩
    rw [getN_set hw] at hn2
    simp only [encP, getN_set hw, toI_back h3 hn2]
    exact h1
  | flag =>
    have ho2 := ho rfl
    simp only [takP] at hf ho2 ⊢
    obtain ⟨l', h1, h2⟩ := rByte_B hf
    refine ⟨l', h2, ?_⟩
    have h3 : ¬ 1 < (rByte (rG l)).2 := by simpa using ho2
    simp only [encP]
    generalize (rByte (rG l)).2 = x at h1 h3
    rw [h1]
    by_cases hx : x = 1
    · simp [hx]
    · simp [hx]; omega
  | root =>
    simp only [takP] at hf ⊢
    obtain ⟨l', h1, h2⟩ := rFixed_B hl hf
    exact ⟨l', h2, h1⟩
  | text o =>
    simp only [takP] at hf ⊢
    obtain ⟨l', h1, h2⟩ := rText_B hl hf
    refine ⟨l', h2, ?_⟩
    simp only [encP, getT_set hw, List.append_assoc]
    exact h1
theorem takL_other : ∀ (ks : List Pc) (s : Rdm) (d : Pc), (∀ c ∈ ks, wfP c) → wfP d → (∀ c ∈ ks, cellP c ≠ cellP d) → encP (takL s ks).ml d = encP s.ml d
  | [], _, _, _, _, _ => rfl
  | c :: ks, s, d, hw, hd, hne => by
    show encP (takL (takP s c) ks).ml d = encP s.ml d
    rw [takL_other ks (takP s c) d (fun x hx => hw x (by simp [hx])) hd (fun x hx => hne x (by simp [hx]))]
    exact encP_other (hw c (by simp)) hd (hne c (by simp))
theorem num_other : ∀ (ks : List Pc) (s : Rdm) (o : Nat), (∀ c ∈ ks, wfP c) → isN o → (∀ c ∈ ks, cellP c ≠ o) → getN (takL s ks).ml o = getN s.ml o
  | [], _, _, _, _, _ => rfl
  | c :: ks, s, o, hw, ho, hne => by
    show getN (takL (takP s c) ks).ml o = getN s.ml o
    rw [num_other ks (takP s c) o (fun x hx => hw x (by simp [hx])) ho (fun x hx => hne x (by simp [hx]))]
    have h1 := hw c (by simp)
    have h2 := hne c (by simp)
    cases c with
    | byte q => exact getN_other h1 ho h2
    | num q => exact getN_other h1 ho h2
    | flag => rcases ho with rfl | rfl | rfl | rfl | rfl | rfl | rfl | rfl | rfl | rfl | rfl | rfl <;> rfl
    | root => rcases ho with rfl | rfl | rfl | rfl | rfl | rfl | rfl | rfl | rfl | rfl | rfl | rfl <;> rfl
    | text q => exact getN_setT h1
theorem takL_B : ∀ (ks : List Pc) (l : List Nat) (q : Ml) (od : Bool), (∀ x ∈ l, x < 256) → (∀ c ∈ ks, wfP c) → (ks.map cellP).Nodup → (takL ⟨rG l, q, od⟩ ks).rs.fault = 0 → (∀ o, Pc.num o ∈ ks → 0 ≤ getN (takL ⟨rG l, q, od⟩ ks).ml o) → (Pc.flag ∈ ks → (takL ⟨rG l, q, od⟩ ks).odd = false) →
    ∃ l', (takL ⟨rG l, q, od⟩ ks).rs = rG l' ∧ l = encL (takL ⟨rG l, q, od⟩ ks).ml ks ++ l'
  | [], l, _, _, _, _, _, _, _, _ => ⟨l, rfl, rfl⟩
  | c :: ks, l, q, od, hl, hw, hnd, hf, hn, ho => by
    have e0 : takL ⟨rG l, q, od⟩ (c :: ks) = takL (takP ⟨rG l, q, od⟩ c) ks := rfl
    rw [e0] at hf hn ho ⊢
    rw [List.map_cons, List.nodup_cons] at hnd
    have hne : ∀ d ∈ ks, cellP d ≠ cellP c := fun d hd e => hnd.1 (by rw [← e]; exact List.mem_map_of_mem hd)
    have hwk : ∀ d ∈ ks, wfP d := fun d hd => hw d (by simp [hd])
    have hwc := hw c (by simp)
    have hf1 : (takP ⟨rG l, q, od⟩ c).rs.fault = 0 := by
      rcases Nat.eq_zero_or_pos (takP ⟨rG l, q, od⟩ c).rs.fault with h | h
      · exact h
      · have := fault_stays_L ks _ (show (takP ⟨rG l, q, od⟩ c).rs.fault ≠ 0 by omega)
        rw [this] at hf; exact hf
    obtain ⟨l1, g1, g2⟩ := takP_B hl hwc hf1 (fun o e => by
      subst e
      have h1 := hn o (by simp)
      rw [num_other ks _ o hwk hwc hne] at h1
      exact h1) (fun e => by
      subst e
      have h1 := ho (by simp)
      rw [odd_stays ks _ (fun hm => hne _ hm rfl)] at h1
      exact h1)
    have hl1 : ∀ x ∈ l1, x < 256 := fun x hx => hl x (by rw [g2]; simp [hx])
    have ec : encP (takL (takP ⟨rG l, q, od⟩ c) ks).ml c = encP (takP ⟨rG l, q, od⟩ c).ml c := takL_other ks _ c hwk hwc hne
    have e1 : takP ⟨rG l, q, od⟩ c = ⟨rG l1, (takP ⟨rG l, q, od⟩ c).ml, (takP ⟨rG l, q, od⟩ c).odd⟩ := by rw [← g1]
    rw [e1] at hf hn ho
    obtain ⟨l2, k1, k2⟩ := takL_B ks l1 _ _ hl1 hwk hnd.2 hf (fun o hm => hn o (by simp [hm])) (fun hm => ho (by simp [hm]))
    rw [← e1] at k1 k2
    refine ⟨l2, k1, ?_⟩
    rw [encL_cons, ec, List.append_assoc, ← k2]
    exact g2
end Go.Proofs.YtfhfkpgfnlmfhabDoor

/- One form: what is decoded is the form of what it is decoded to. -/
namespace Go.Proofs.YtfhfkpgfnlmfhabDoor
open Go.RowKit

theorem takL_append (s : Rdm) (a b : List Pc) : takL s (a ++ b) = takL (takL s a) b := by
  unfold takL
  rw [List.foldl_append]
theorem mem_mid {p : Ml} {c : Pc} (h : c ∈ mid p) : (c = .num 8 ∨ c = .num 13 ∨ c = .num 4 ∨ c = .root ∨ c = .text 6) ∨ (c = .byte 9 ∨ c = .text 10) := by
  unfold mid at h
  split at h
  · simp at h; rcases h with rfl | rfl | rfl <;> simp
  · split at h
    · simp at h; rcases h with rfl | rfl <;> simp
    · split at h
      · simp at h; rcases h with rfl | rfl | rfl <;> simp
      · simp at h; subst h; simp
theorem mem_fin {p : Ml} {c : Pc} (h : c ∈ fin p) : c = .text 11 ∨ c = .num 12 ∨ c = .flag ∨ c = .text 15 ∨ c = .text 16 ∨ c = .num 17 ∨ c = .num 18 ∨ c = .byte 19 := by
  unfold fin at h
  split at h
  · split at h
    · simp at h; subst h; simp
    · split at h
      · simp at h; rcases h with rfl | rfl <;> simp
      · simp at h
  · split at h
    · split at h
      · simp at h; rcases h with rfl | rfl | rfl | rfl | rfl <;> simp
      · split at h
        · simp at h; subst h; simp
        · simp at h
    · simp at h
theorem wf_pieces (p : Ml) : (∀ c ∈ hd, wfP c) ∧ (∀ c ∈ mid p, wfP c) ∧ (∀ c ∈ fin p, wfP c) := by
  refine ⟨fun c hc => ?_, fun c hc => ?_, fun c hc => ?_⟩
  · simp [hd] at hc; rcases hc with rfl | rfl | rfl | rfl <;> simp [wfP, isN]
  · rcases mem_mid hc with (rfl | rfl | rfl | rfl | rfl) | (rfl | rfl) <;> simp [wfP, isN, isT]
  · rcases mem_fin hc with rfl | rfl | rfl | rfl | rfl | rfl | rfl | rfl <;> simp [wfP, isN, isT]
/-- What stands in a later part does not turn what was looked at. -/
theorem kind_mid (s : Rdm) (q : Ml) : (takL s (mid q)).ml.kind = s.ml.kind :=
  num_other (mid q) s 0 (wf_pieces q).2.1 (by simp [isN]) (fun c hc => by rcases mem_mid hc with (rfl | rfl | rfl | rfl | rfl) | (rfl | rfl) <;> simp [cellP])
theorem kind_fin (s : Rdm) (q : Ml) : (takL s (fin q)).ml.kind = s.ml.kind :=
  num_other (fin q) s 0 (wf_pieces q).2.2 (by simp [isN]) (fun c hc => by rcases mem_fin hc with rfl | rfl | rfl | rfl | rfl | rfl | rfl | rfl <;> simp [cellP])
theorem okind_fin (s : Rdm) (q : Ml) : (takL s (fin q)).ml.okind = s.ml.okind :=
  num_other (fin q) s 9 (wf_pieces q).2.2 (by simp [isN]) (fun c hc => by rcases mem_fin hc with rfl | rfl | rfl | rfl | rfl | rfl | rfl | rfl <;> simp [cellP])
theorem verd_fin (s : Rdm) (q : Ml) : (takL s (fin q)).ml.verd = s.ml.verd :=
  num_other (fin q) s 13 (wf_pieces q).2.2 (by simp [isN]) (fun c hc => by rcases mem_fin hc with rfl | rfl | rfl | rfl | rfl | rfl | rfl | rfl <;> simp [cellP])
theorem fin_eq' {p q : Ml} (h : q.kind = p.kind) (h1 : q.okind = p.okind) (h2 : q.verd = p.verd) : fin q = fin p := fin_eq h (fun _ => h1) (fun _ => h2)
theorem read3_eq (bs : List Nat) : read3 bs = takL (read0 bs) (pieces (read3 bs).ml) := by
  have k2 : (read2 bs).ml.kind = (read1 bs).ml.kind := kind_mid _ _
  have k3 : (read3 bs).ml.kind = (read2 bs).ml.kind := kind_fin _ _
  have o3 : (read3 bs).ml.okind = (read2 bs).ml.okind := okind_fin _ _
  have v3 : (read3 bs).ml.verd = (read2 bs).ml.verd := verd_fin _ _
  have em : mid (read3 bs).ml = mid (read1 bs).ml := mid_eq (k3.trans k2)
  have ef : fin (read3 bs).ml = fin (read2 bs).ml := fin_eq' k3 o3 v3
  unfold pieces
  rw [em, ef, takL_append, takL_append]
  rfl
theorem nodup_pieces (p : Ml) : ((pieces p).map cellP).Nodup := by
  by_cases k1 : p.kind = 1
  · rcases pcs_op k1 with ⟨_, e⟩ | ⟨_, e⟩ | ⟨_, _, e⟩ <;> rw [e] <;> decide
  · by_cases k2 : p.kind = 2
    · rcases pcs_ve k2 with ⟨_, e⟩ | ⟨_, e⟩ | ⟨_, _, _, e⟩ <;> rw [e] <;> decide
    · by_cases k3 : p.kind = 3
      · rw [pcs_0, pcs_3 k3]; decide
      · rw [pcs_0, pcs_4 k1 k2 k3]; decide
theorem body_named (p : Ml) : body (named p) = body p ∧ pieces (named p) = pieces p := by
  unfold named
  split
  · exact ⟨rfl, rfl⟩
  · split
    · exact ⟨rfl, rfl⟩
    · exact ⟨rfl, rfl⟩
theorem num_named (p : Ml) (o : Nat) (h : isN o) : getN (named p) o = getN p o := by
  unfold named
  split
  · rcases h with rfl | rfl | rfl | rfl | rfl | rfl | rfl | rfl | rfl | rfl | rfl | rfl <;> rfl
  · split
    · rcases h with rfl | rfl | rfl | rfl | rfl | rfl | rfl | rfl | rfl | rfl | rfl | rfl <;> rfl
    · rfl
/-- What read answers is the message of which the bytes are the body. -/
theorem readM_back {bs : List Nat} (hb : ∀ x ∈ bs, x < 256) (h1 : (readM bs).2 = true) (h2 : snd (readM bs).1 = true) (hr : (readM bs).1.root < 18446744073709551616) : bs = body (readM bs).1 := by
  have e1 : (readM bs).1 = named (read3 bs).ml := rfl
  have e2 : (readM bs).2 = (!(read3 bs).odd && decide (rDone (read3 bs).rs = 0)) := rfl
  rw [e2, Bool.and_eq_true, Bool.not_eq_true', decide_eq_true_eq] at h1
  obtain ⟨ho, hd⟩ := h1
  have hok := snd_ok h2 hr
  rw [e1] at hok ⊢
  rw [(body_named _).1]
  rw [(body_named _).2] at hok
  have hfa : (read3 bs).rs.fault = 0 := by
    unfold rDone at hd
    split at hd
    · rename_i h; exact absurd hd h
    · rename_i h; simpa using h
  have er := read3_eq bs
  obtain ⟨w1, w2, w3⟩ := wf_pieces (read3 bs).ml
  have hw : ∀ c ∈ pieces (read3 bs).ml, wfP c := fun c hc => by
    unfold pieces at hc
    simp only [List.mem_append] at hc
    rcases hc with hc | hc | hc
    · exact w1 c hc
    · exact w2 c hc
    · exact w3 c hc
  obtain ⟨l', g1, g2⟩ := takL_B (pieces (read3 bs).ml) bs zeroM false hb hw (nodup_pieces _) (by have := hfa; rw [er] at this; exact this) (fun o hm => by
    have h3 := hok _ hm
    obtain ⟨h4, h5, _⟩ := h3
    rw [num_named _ _ h4, er] at h5
    exact h5) (fun _ => by have := ho; rw [er] at this; exact this)
  have er2 : takL ⟨rG bs, zeroM, false⟩ (pieces (read3 bs).ml) = read3 bs := er.symm
  rw [er2] at g1 g2
  have hl : l' = [] := by
    rw [g1] at hd
    unfold rDone rG at hd
    simp at hd
    exact hd
  rw [hl, List.append_nil] at g2
  exact g2
theorem decode_form {bs : List Nat} (hb : ∀ x ∈ bs, x < 256) (h : decE bs = 0) (hr : (decM bs).root < 18446744073709551616) : bs = enc (decM bs) ∧ snd (decM bs) = true := by
  have hm : decM bs = (readM (bs.take (bs.length - 4))).1 := by unfold decM; rw [if_pos h]
  have h0 := h
  unfold decE at h
  split at h
  · cases h
  · split at h
    · cases h
    · split at h
      · cases h
      · rename_i h5 h8 hs
        split at h
        · rename_i hk
          rw [hm] at hr ⊢
          have hb2 := readM_back (fun x hx => hb x (List.mem_of_mem_take hx)) hk.1 hk.2 hr
          refine ⟨?_, hk.2⟩
          unfold enc summed
          rw [← hb2]
          have hs2 : bs.drop (bs.length - 4) = le (crc (bs.take (bs.length - 4))) 4 := by simpa using hs
          rw [← hs2, List.take_append_drop]
        · cases h
end Go.Proofs.YtfhfkpgfnlmfhabDoor

/- What is read is made of bytes. -/
namespace Go.Proofs.YtfhfkpgfnlmfhabDoor
open Go.RowKit

structure GM (s : Rdm) : Prop where
  left : ∀ x ∈ s.rs.left, x < 256
  root : s.ml.root < 18446744073709551616
  byt : ∀ o, isT o → ∀ x ∈ getT s.ml o, x < 256
theorem rByte_l {s : RS} (h : ∀ x ∈ s.left, x < 256) : ∀ x ∈ (rByte s).1.left, x < 256 := by
  unfold rByte
  split
  · exact h
  · split
    · intro x hx; simp [rF] at hx
    · rename_i y l e
      intro x hx
      exact h x (by rw [e]; simp; exact Or.inr hx)
theorem rNum_l {s : RS} (h : ∀ x ∈ s.left, x < 256) : ∀ x ∈ (rNum s).1.left, x < 256 := by
  unfold rNum
  split
  · exact h
  · split
    · intro x hx; simp [rF] at hx
    · rename_i n r e
      exact (readNum_lt _ 0 0 (by omega) (by simp) h e).2.1
theorem rFixed_l {s : RS} (h : ∀ x ∈ s.left, x < 256) : (∀ x ∈ (rFixed s 8).1.left, x < 256) ∧ (rFixed s 8).2 < 18446744073709551616 := by
  unfold rFixed
  split
  · exact ⟨h, by omega⟩
  · split
    · exact ⟨fun x hx => by simp [rF] at hx, by omega⟩
    · split
      · exact ⟨fun x hx => by simp [rF] at hx, by omega⟩
      · rename_i hl
        refine ⟨fun x hx => h x (List.mem_of_mem_drop hx), ?_⟩
        show leV (s.left.take (8 : Int).toNat) < _
        have e : (8 : Int).toNat = 8 := rfl
        rw [e]
        have := leV_lt (s.left.take 8) (fun x hx => h x (List.mem_of_mem_take hx))
        rw [show (s.left.take 8).length = 8 by simp; omega] at this
        omega
theorem rText_l {s : RS} (h : ∀ x ∈ s.left, x < 256) : (∀ x ∈ (rText s 524288).1.left, x < 256) ∧ (∀ x ∈ (rText s 524288).2, x < 256) := by
  unfold rText
  split
  · exact ⟨h, by simp⟩
  · split
    · exact ⟨fun x hx => by simp [rF] at hx, by simp⟩
    · rename_i n r e
      have hr := (readNum_lt _ 0 0 (by omega) (by simp) h e).2.1
      split
      · exact ⟨fun x hx => by simp [rF] at hx, by simp⟩
      · split
        · exact ⟨fun x hx => by simp [rF] at hx, by simp⟩
        · exact ⟨fun x hx => hr x (List.mem_of_mem_drop hx), fun x hx => hr x (List.mem_of_mem_take hx)⟩
theorem GM.step {s : Rdm} (h : GM s) {c : Pc} (hw : wfP c) : GM (takP s c) := by
  cases c with
  | byte o => exact ⟨rByte_l h.left, by simp only [takP]; rw [(setN_root hw).1]; exact h.root, fun q hq => by simp only [takP]; rw [getT_setN hw]; exact h.byt q hq⟩
  | num o => exact ⟨rNum_l h.left, by simp only [takP]; rw [(setN_root hw).1]; exact h.root, fun q hq => by simp only [takP]; rw [getT_setN hw]; exact h.byt q hq⟩
  | flag => exact ⟨rByte_l h.left, h.root, h.byt⟩
  | root => exact ⟨(rFixed_l h.left).1, (rFixed_l h.left).2, h.byt⟩
  | text o =>
    refine ⟨(rText_l h.left).1, by simp only [takP]; rw [(setT_root hw).1]; exact h.root, fun q hq => ?_⟩
    simp only [takP]
    by_cases e : o = q
    · subst e
      rw [getT_set hw]
      exact (rText_l h.left).2
    · rw [getT_other hw hq e]
      exact h.byt q hq
theorem GM.steps : ∀ (ks : List Pc) (s : Rdm), GM s → (∀ c ∈ ks, wfP c) → GM (takL s ks)
  | [], _, h, _ => h
  | c :: ks, s, h, hw => GM.steps ks (takP s c) (h.step (hw c (by simp))) (fun d hd => hw d (by simp [hd]))
theorem named_T (p : Ml) : (named p).root = p.root ∧ ∀ o, getT (named p) o = getT p o := by
  unfold named
  split
  · exact ⟨rfl, fun _ => rfl⟩
  · split
    · exact ⟨rfl, fun _ => rfl⟩
    · exact ⟨rfl, fun _ => rfl⟩
theorem readM_byt {bs : List Nat} (hb : ∀ x ∈ bs, x < 256) : (readM bs).1.root < 18446744073709551616 ∧ ∀ o, isT o → ∀ x ∈ getT (readM bs).1 o, x < 256 := by
  have h0 : GM (read0 bs) := ⟨hb, by show (0 : Nat) < _; omega, fun o ho x hx => by rcases ho with rfl | rfl | rfl | rfl | rfl <;> simp [read0, zeroM, getT] at hx⟩
  have h1 := GM.steps hd _ h0 (wf_pieces zeroM).1
  have h2 := GM.steps (mid (read1 bs).ml) _ h1 (wf_pieces _).2.1
  have h3 : GM (read3 bs) := GM.steps (fin (read2 bs).ml) _ h2 (wf_pieces _).2.2
  have e1 : (readM bs).1 = named (read3 bs).ml := rfl
  rw [e1]
  obtain ⟨n1, n2⟩ := named_T (read3 bs).ml
  exact ⟨by rw [n1]; exact h3.root, fun o ho => by rw [n2]; exact h3.byt o ho⟩
theorem decM_byt {bs : List Nat} (hb : ∀ x ∈ bs, x < 256) : (decM bs).root < 18446744073709551616 ∧ ∀ o, isT o → ∀ x ∈ getT (decM bs) o, x < 256 := by
  unfold decM
  split
  · exact readM_byt (fun x hx => hb x (List.mem_of_mem_take hx))
  · exact ⟨by show (0 : Nat) < _; omega, fun o ho x hx => by rcases ho with rfl | rfl | rfl | rfl | rfl <;> simp [zeroM, getT] at hx⟩
/-- What is decoded is the form of its message, which is sound. -/
theorem decode_back {bs : List Nat} (hb : ∀ x ∈ bs, x < 256) (h : decE bs = 0) : bs = enc (decM bs) ∧ snd (decM bs) = true := decode_form hb h (decM_byt hb).1
end Go.Proofs.YtfhfkpgfnlmfhabDoor

/- A form cut off, or gone on with, its sum made anew; unlike messages have unlike forms. -/
namespace Go.Proofs.YtfhfkpgfnlmfhabDoor
open Go.RowKit

theorem summed_len (bs : List Nat) : (summed bs).length = bs.length + 4 := by unfold summed; rw [List.length_append, le_len]
theorem summed_parts (bs : List Nat) : (summed bs).take ((summed bs).length - 4) = bs ∧ (summed bs).drop ((summed bs).length - 4) = le (crc bs) 4 := by
  have : (summed bs).length - 4 = bs.length := by rw [summed_len]; omega
  rw [this]
  unfold summed
  exact ⟨List.take_left .., List.drop_left ..⟩
theorem decE_summed (bs : List Nat) : decE (summed bs) = if 524288 < bs.length + 4 then 3 else if bs.length + 4 < 8 then 190 else if (readM bs).2 = true ∧ snd (readM bs).1 = true then 0 else 190 := by
  obtain ⟨e1, e2⟩ := summed_parts bs
  unfold decE
  rw [e1, e2, summed_len]
  simp only [ne_eq, not_true_eq_false, if_false]
/-- What stands ahead of a right sum is decoded just where it is a sound message's body. -/
theorem decE_zero {bs : List Nat} (hb : ∀ x ∈ bs, x < 256) (h : decE (summed bs) = 0) : ∃ p, snd p = true ∧ p.root < 18446744073709551616 ∧ bs = body p := by
  rw [decE_summed] at h
  split at h
  · cases h
  · split at h
    · cases h
    · split at h
      · rename_i hk
        exact ⟨(readM bs).1, hk.2, (readM_byt hb).1, readM_back hb hk.1 hk.2 (readM_byt hb).1⟩
      · cases h
/-- No body is the beginning of another. -/
theorem body_free {p q : Ml} (hp : snd p = true) (hpr : p.root < 18446744073709551616) (hq : snd q = true) (hqr : q.root < 18446744073709551616) {l : List Nat} (h : body p ++ l = body q) : l = [] ∧ p = q := by
  by_cases hl : l = []
  · subst hl
    rw [List.append_nil] at h
    have h1 := readM_body hp hpr
    rw [h, readM_body hq hqr] at h1
    exact ⟨rfl, by injection h1 with h2 _; exact h2.symm⟩
  · have h1 := readM_more hp hpr hl
    rw [h, readM_body hq hqr] at h1
    injection h1 with _ h2
    cases h2
theorem enc_inj {p q : Ml} (hp : snd p = true) (hpr : p.root < 18446744073709551616) (hq : snd q = true) (hqr : q.root < 18446744073709551616) (h : enc p = enc q) : p = q := by
  have h1 := decE_enc hp hpr
  have h2 := decE_enc hq hqr
  rw [h, h2.2] at h1
  exact h1.2.symm
theorem decE_body {p : Ml} (hp : snd p = true) (hpr : p.root < 18446744073709551616) : decE (summed (body p)) = 0 := (decE_enc hp hpr).1
theorem decE_two (bs : List Nat) (h : bs.length + 4 ≤ 524288) : decE (summed bs) = 0 ∨ decE (summed bs) = 190 := by
  rw [decE_summed, if_neg (by omega)]
  split
  · exact Or.inr rfl
  · split
    · exact Or.inl rfl
    · exact Or.inr rfl
/-- Cut off. -/
theorem cut_form {p : Ml} (hp : snd p = true) (hpr : p.root < 18446744073709551616) (hb : ∀ o, isT o → ∀ x ∈ getT p o, x < 256) (k : Nat) (hk : k ≤ (body p).length) : (decE (summed ((body p).take k)) = 0 ↔ k = (body p).length) ∧ (decE (summed ((body p).take k)) = 0 ∨ decE (summed ((body p).take k)) = 190) := by
  have hl := snd_len hp
  refine ⟨⟨fun h => ?_, fun h => ?_⟩, decE_two _ (by simp; omega)⟩
  · obtain ⟨q, hq, hqr, e⟩ := decE_zero (fun x hx => body_lt hp hpr hb x (List.mem_of_mem_take hx)) h
    have h1 := (body_free hq hqr hp hpr (l := (body p).drop k) (by rw [← e, List.take_append_drop])).1
    have := congrArg List.length h1
    simp at this
    omega
  · rw [h, List.take_length]
    exact decE_body hp hpr
/-- Gone on with. -/
theorem more_form {p : Ml} (hp : snd p = true) (hpr : p.root < 18446744073709551616) (hb : ∀ o, isT o → ∀ x ∈ getT p o, x < 256) (l : List Nat) (hl : ∀ x ∈ l, x < 256) : (524288 < (body p ++ l).length + 4 → decE (summed (body p ++ l)) = 3) ∧ ((body p ++ l).length + 4 ≤ 524288 → (decE (summed (body p ++ l)) = 0 ↔ l = []) ∧ (decE (summed (body p ++ l)) = 0 ∨ decE (summed (body p ++ l)) = 190)) := by
  refine ⟨fun h => by rw [decE_summed, if_pos h], fun h => ⟨⟨fun h0 => ?_, fun h0 => ?_⟩, decE_two _ h⟩⟩
  · obtain ⟨q, hq, hqr, e⟩ := decE_zero (fun x hx => by
      rcases List.mem_append.1 hx with hx | hx
      · exact body_lt hp hpr hb x hx
      · exact hl x hx) h0
    exact (body_free hp hpr hq hqr e).1
  · rw [h0, List.append_nil]
    exact decE_body hp hpr
end Go.Proofs.YtfhfkpgfnlmfhabDoor

/- A form with bytes turned: its sum tells. -/
namespace Go.Proofs.YtfhfkpgfnlmfhabDoor
open Go.RowKit

theorem le4_inj {a b : Nat} (ha : a < 4294967296) (hb : b < 4294967296) (h : le a 4 = le b 4) : a = b := by
  have := congrArg leV h
  rw [leV_le, leV_le] at this
  omega
/-- Bytes with four behind them that are not their sum. -/
theorem decE_wrong {q s : List Nat} (hs : s.length = 4) (h1 : 4 ≤ q.length) (h2 : q.length + 4 ≤ 524288) (hne : s ≠ le (crc q) 4) : decE (q ++ s) = 191 := by
  have hl : (q ++ s).length = q.length + 4 := by rw [List.length_append, hs]
  have hm : (q ++ s).length - 4 = q.length := by omega
  unfold decE
  rw [hm, List.take_left, List.drop_left, hl, if_neg (by omega), if_neg (by omega), if_pos hne]
/-- Up to four bytes side by side of the body turned. -/
theorem turned_body {p : Ml} (hp : snd p = true) (hpr : p.root < 18446744073709551616) (hb : ∀ o, isT o → ∀ x ∈ getT p o, x < 256) {q : List Nat} {k u : Nat} (h : Told (body p) k 4 q u) : (u = 0 ∧ q ++ le (crc (body p)) 4 = enc p) ∨ (u ≠ 0 ∧ decE (q ++ le (crc (body p)) 4) = 191 ∧ q ++ le (crc (body p)) 4 ≠ enc p) := by
  have hbb := body_lt hp hpr hb
  have hl := snd_len hp
  by_cases hu : u = 0
  · refine Or.inl ⟨hu, ?_⟩
    rw [h.none hu]
    rfl
  · have hne := h.sums hu
    have hq := h.len
    refine Or.inr ⟨hu, decE_wrong (le_len _ _) (by omega) (by omega) (fun e => hne (le4_inj (crc_lt hbb) (crc_lt h.byte) e)), fun e => ?_⟩
    have e2 : q ++ le (crc (body p)) 4 = body p ++ le (crc (body p)) 4 := e
    have e3 := (List.append_inj e2 hq).1
    exact hne (by rw [e3])
/-- Bytes of the sum turned. -/
theorem turned_sum {p : Ml} (hp : snd p = true) {s : List Nat} (hs : s.length = 4) : (s = le (crc (body p)) 4 ∧ body p ++ s = enc p) ∨ (s ≠ le (crc (body p)) 4 ∧ decE (body p ++ s) = 191 ∧ body p ++ s ≠ enc p) := by
  have hl := snd_len hp
  by_cases e : s = le (crc (body p)) 4
  · exact Or.inl ⟨e, by rw [e]; rfl⟩
  · refine Or.inr ⟨e, decE_wrong hs (by omega) (by omega) e, fun h => e ?_⟩
    have e2 : body p ++ s = body p ++ le (crc (body p)) 4 := h
    exact List.append_cancel_left e2
end Go.Proofs.YtfhfkpgfnlmfhabDoor

/- A message that all programs know. -/
namespace Go.Proofs.YtfhfkpgfnlmfhabDoor
open Go.RowKit

def pA : Ml := ⟨7, 2, 0, 63, 200, 0, [], 0, 0, 0, [], [], 0, 0, false, [], [], 0, 0, 0⟩
def wantB : List Nat := [7, 2, 0, 63, 200, 1]
def wantA : List Nat := [7, 2, 0, 63, 200, 1, 11, 255, 173, 23]
theorem sndA : snd pA = true := by decide
theorem bodyA : body pA = wantB := by
  rw [body_0]
  have hm : mid pA ++ fin pA = [Pc.num 4] := rfl
  rw [hm]
  show [(7 : Int).toNat] ++ ([(2 : Int).toNat] ++ ([(0 : Int).toNat] ++ (form (63 : Int).toNat ++ (form (200 : Int).toNat ++ [])))) = wantB
  rw [form_small (n := (63 : Int).toNat) (by decide), form_big (n := (200 : Int).toNat) (by decide), form_small (n := (200 : Int).toNat / 128) (by decide)]
  rfl
theorem crcA : crc wantB = 397278987 := by decide +kernel
theorem sumA : summed wantB = wantA := by
  unfold summed
  rw [crcA]
  decide +kernel
theorem encA : enc pA = wantA := by unfold enc; rw [bodyA, sumA]
theorem decA : decE wantA = 0 ∧ decM wantA = pA := by
  rw [← encA]
  exact decE_enc sndA (by decide)
theorem decA0 : decE (wantA ++ [0]) = 191 := by
  unfold decE
  rw [if_neg (by decide), if_neg (by decide), if_pos (by decide +kernel)]
theorem byteA : ∀ x ∈ wantA, x < 256 := by decide
theorem byteB : ∀ x ∈ wantB, x < 256 := by decide
theorem byteA0 : ∀ x ∈ wantA ++ [0], x < 256 := by decide
theorem MW.nil (w : World) {p : Ml} (h : ∀ o, isT o → getT p o = []) (hr : p.root < 18446744073709551616) : MW w p nilM := by
  refine ⟨fun o ho => ?_, fun o ho => by rw [h o ho]; simp, fun o ho x hx => (by rw [h o ho] at hx; exact absurd hx (by simp)), hr⟩
  rw [h o ho]
  refine Or.inl (Or.inl ⟨?_, rfl⟩)
  rcases ho with rfl | rfl | rfl | rfl | rfl
  · show Value.slice none p.copy.length 0 = _
    rw [show p.copy = [] from h 6 (by simp [isT])]; rfl
  · show Value.slice none p.key.length 0 = _
    rw [show p.key = [] from h 10 (by simp [isT])]; rfl
  · show Value.slice none p.val.length 0 = _
    rw [show p.val = [] from h 11 (by simp [isT])]; rfl
  · show Value.slice none p.akey.length 0 = _
    rw [show p.akey = [] from h 15 (by simp [isT])]; rfl
  · show Value.slice none p.aval.length 0 = _
    rw [show p.aval = [] from h 16 (by simp [isT])]; rfl
theorem MW.A (w : World) : MW w pA nilM := MW.nil w (by rintro o (rfl | rfl | rfl | rfl | rfl) <;> rfl) (by decide)
theorem MW.zero (w : World) : MW w zeroM nilM := MW.nil w (by rintro o (rfl | rfl | rfl | rfl | rfl) <;> rfl) (by decide)
theorem mv_lit (p : Ml) (l : Lm) : mv p l = .agg #[.int .i64 p.kind, .int .i64 p.frm, .int .i64 p.dst, .int .i64 p.shard, .int .i64 p.epoch, .int .u64 (p.root : Nat), .slice l.ca p.copy.length l.cc, .int .i64 p.client, .int .i64 p.seq, .int .i64 p.okind, .slice l.ka p.key.length l.kc, .slice l.va p.val.length l.vc, .int .i64 p.rev, .int .i64 p.verd, .bool p.done, .slice l.xa p.akey.length l.xc, .slice l.ya p.aval.length l.yc, .int .i64 p.arev, .int .i64 p.aat, .int .i64 p.hint] := rfl
theorem NewV.wide {w W : World} {bs : List Nat} {v : Value} (h : NewV w bs v W) : Wide W v bs := by
  obtain ⟨a, c, rfl, ho⟩ := h
  exact Or.inl (Sees.of_own ho)
/-- How long the lists of what is decoded are. -/
theorem snd_texts {p : Ml} (h : snd p = true) : ∀ o, isT o → (getT p o).length ≤ 262144 := by
  obtain ⟨_, hk⟩ := (snd_iff p).1 h
  have hq : p.copy.length ≤ 262144 ∧ p.key.length ≤ 262144 ∧ p.val.length ≤ 262144 ∧ p.akey.length ≤ 262144 ∧ p.aval.length ≤ 262144 := by
    rcases hk with ⟨_, _, _, _, h5, ⟨_, ⟨_, h6, h7, _⟩, _⟩, _, _, h8⟩ | ⟨_, _, _, _, ⟨_, h5, h6, _⟩, h7, _, _, h8⟩ | ⟨_, h2, _, _, _, _, _, _, ⟨_, h5, h6, _⟩, _, ⟨_, h7, h8, _⟩, _⟩ | ⟨_, ⟨_, _, _, _, _, _, ⟨_, h5, h6, _⟩, _, ⟨_, h7, h8, _⟩, _⟩, _, h9⟩
    · have q := rgt_iff h5
      rw [h6, h7, h8]
      simp
      omega
    · have q := fit_len h7
      rw [h5, h6, h8]
      simp
      omega
    · rw [h5, h6, h7, h8]; simp; exact h2
    · rw [h5, h6, h7, h8, h9]; simp
  rintro o (rfl | rfl | rfl | rfl | rfl)
  · exact hq.1
  · exact hq.2.1
  · exact hq.2.2.1
  · exact hq.2.2.2.1
  · exact hq.2.2.2.2
theorem NewM.mw {w w' : World} {bs : List Nat} {l : Lm} (hb : ∀ x ∈ bs, x < 256) (hn : NewM w (decM bs) l w') : MW w' (decM bs) l := by
  obtain ⟨h1, h2⟩ := decM_byt hb
  refine ⟨fun o ho => (hn.nw o ho).wide, fun o ho => ?_, h2, h1⟩
  by_cases h0 : decE bs = 0
  · have := snd_texts (decode_back hb h0).2 o ho
    omega
  · have hz : decM bs = zeroM := by unfold decM; rw [if_neg h0]
    rw [hz]
    rcases ho with rfl | rfl | rfl | rfl | rfl <;> simp [zeroM, getT]
end Go.Proofs.YtfhfkpgfnlmfhabDoor

/- The laws' summed. -/
namespace Go.Proofs.YtfhfkpgfnlmfhabDoor
open Go.RowKit

theorem le4 {c : Nat} (h : c < 4294967296) : le c 4 = [c % 256, c / 256 % 256, c / 65536 % 256, c / 16777216] := by
  show [c / 256 ^ 0 % 256, c / 256 ^ 1 % 256, c / 256 ^ 2 % 256, c / 256 ^ 3 % 256] = _
  have : c / 16777216 % 256 = c / 16777216 := by omega
  simp [this]
theorem news_four (w : World) {c : Nat} (h : c < 4294967296) : Sees (w.alloc (.cells #[.int .u8 ((c : Int) % 256), .int .u8 ((c : Int) / 256 % 256), .int .u8 ((c : Int) / 65536 % 256), .int .u8 ((c : Int) / 16777216)] 5)) (.slice (some ⟨w.heap.size, 0, none⟩) 4 4) (le c 4) := by
  rw [le4 h]
  refine Or.inr ⟨w.heap.size, 0, 4, rfl, by simp, by unfold maxLen; omega, by simp, fun j hj => ?_⟩
  rw [(Blk.new w _ _).cell]
  simp only [List.length_cons, List.length_nil] at hj
  match j, hj with
  | 0, _ => rfl
  | 1, _ => rfl
  | 2, _ => rfl
  | 3, _ => rfl
/-- What summed answers. -/
def SumP (w : World) (bs : List Nat) (e : Ending) (w' : World) : Prop := Kept [] w w' ∧ ∃ a cap, e = .returned (.slice a (summed bs).length cap) ∧ w'.ownsRow w.heap.size 5 1 (.slice a (summed bs).length cap) (summed bs).length (u8s (summed bs))
theorem summed_lt {bs : List Nat} (h : ∀ x ∈ bs, x < 256) : ∀ x ∈ summed bs, x < 256 := by
  intro x hx
  unfold summed at hx
  rcases List.mem_append.1 hx with hx | hx
  · exact h x hx
  · exact le_lt _ _ x hx
set_option maxRecDepth 100000 in
set_option maxHeartbeats 400000 in
theorem summed_any {w : World} {x : Value} {bs : List Nat} (ht : Tab w) (hx : Wide w x bs) (hb : ∀ y ∈ bs, y < 256) (hl : bs.length + 4 ≤ 140737488355328) : Calls Tryd.prog 15 #[x] w (SumP w bs) := by
  obtain ⟨i0, hi, hz0, hz1, hz2⟩ := info_parts Tryd.info5
  have HI := hide (And.intro hi (And.intro hz0 (And.intro hz1 hz2)))
  have HC := hide (crc_any ht hx hb (by omega))
  have HX := hide hx
  have hcl := crc_lt hb
  obtain ⟨c, hc⟩ : ∃ c, crc bs = c := ⟨_, rfl⟩
  rw [hc] at HC hcl
  obtain ⟨s, hs⟩ : ∃ s, s = bs ++ le c 4 := ⟨_, rfl⟩
  have HSM : Hid (summed bs = s) := by unfold Hid summed; rw [hc, hs]
  obtain ⟨xa, xc, rfl⟩ := wide_len hx
  have HCL := hide hcl
  have HSS := hide hs
  have HL := hide hl
  clear ht hx hb hc hs hl
  go_enter Tryd.func15, Tryd.ntmps15
  go_upto_region 3 with (first
    | (go_at_call 21; refine (unhide HC).mono ?_; rintro e w1 ⟨rfl, hz⟩; have hz2' := hz.symm; subst hz2'; clear hz)
    | (at_builtin; refine wpList_append_wide _ rfl _ _ 23 rfl w.heap.size 5 i0 (.int .u8 0) Tryd.underlying23 hi hz0 hz1 hz2 rfl _ [] rfl (World.ownsRow_made w #[] 0 (Nat.le_refl _) (Nat.zero_le _) rfl) _ bs rfl ((unhide HX).kept ((Kept.refl [] w).alloc _)) ?c1 ?c2 ?_))
  case c1 => have := unhide HL; simp; omega
  case c2 => simp
  intro v1 w3 hown hg hat
  have hk1 : Kept [] w w3 := ((Kept.refl [] w).alloc _).grown hg (fun k hk => by simp [Value.ownBlock] at hk; right; omega)
  obtain ⟨a1, c1, hv⟩ := own_len hown
  subst hv
  have hs1 := hk1.size
  have HO1 := hide hown
  have HK := hide hk1
  have HS1 := hide hs1
  clear hown hg hat hk1 hs1
  go_wp2_with (at_builtin; refine wpList_append_sees _ rfl _ _ 23 rfl w.heap.size 5 i0 (.int .u8 0) Tryd.underlying23 hi hz0 hz1 hz2 rfl _ bs rfl ((unhide HO1).alloc _) _ (le c 4) rfl (news_four w3 (unhide HCL)) ?c3 ?c4 ?_)
  case c3 => rw [le_len]; exact unhide HL
  case c4 => rw [World.size_alloc]; exact Nat.le_succ_of_le (unhide HS1)
  intro v2 w4 hown4 hgrow4 hat4
  obtain ⟨a2, c2, hv'⟩ := own_len hown4
  subst hv'
  have HK4 := hide (((unhide HK).alloc _).grown hgrow4 (fun k hk => Or.inr ((unhide HO1).lt k hk).1))
  have HO4 := hide hown4
  clear hown4 hgrow4 hat4
  go_wp2_with fail
  go_ret
  refine ⟨unhide HK4, a2, c2, ?_, ?_⟩
  · rw [unhide HSM, unhide HSS, List.length_append]; rfl
  · have h := unhide HO4
    rw [← List.length_append] at h
    rw [unhide HSM, unhide HSS]; exact h
end Go.Proofs.YtfhfkpgfnlmfhabDoor

/- The laws' sameMail, what it says. -/
namespace Go.Proofs.YtfhfkpgfnlmfhabDoor
open Go.RowKit

theorem eqM_iff (p q : Ml) : eqM p q = true ↔ p = q := by
  constructor
  · intro h
    simp only [eqM, eqHd, eqCl, eqAn, Bool.and_eq_true, beq_iff_eq, decide_eq_true_eq, Int.natCast_inj] at h
    cases p
    cases q
    simp_all
  · rintro rfl
    simp [eqM, eqHd, eqCl, eqAn]
end Go.Proofs.YtfhfkpgfnlmfhabDoor

/- Decode: bytes of a fit length. -/
namespace Go.Proofs.YtfhfkpgfnlmfhabDoor
open Go.RowKit

/-- What Decode asks of the bytes: their two parts, the sum in them (v), the sum of what stands ahead (c). -/
structure Dc (w : World) (b off m xc : Nat) (bs : List Nat) (c v : Nat) : Prop where
  len : bs.length = m + 4
  parts : ∀ W, Kept [] w W → Wide W (.slice (some ⟨b, off, none⟩) m xc) (bs.take m) ∧ Wide W (.slice (some ⟨b, off + m, none⟩) 4 (xc - m)) (bs.drop m)
  tab : Tab w
  byt : ∀ x ∈ bs, x < 256
  cl : c < 4294967296
  cc : c = crc (bs.take m)
  vl : v < 4294967296
  vv : v = leV (bs.drop m)
  m5 : 4 ≤ m ∧ m ≤ 524284
theorem Dc.read {w : World} {b off m xc c v : Nat} {bs : List Nat} (h : Dc w b off m xc bs c v) {W : World} (k : Kept [] w W) : Calls Tryd.prog 22 #[.slice (some ⟨b, off + m, none⟩) 4 (xc - m)] W fun e w' => ∃ br F, e = .returned (.pointer (some ⟨br, 0, none⟩)) ∧ Rs w' br F ⟨0, bs.drop m, []⟩ ∧ (∀ x ∈ F, W.heap.size ≤ x) ∧ Kept [] W w' := by
  have e2 : (bs.drop m).length = 4 := by have := h.len; simp; omega
  exact read_w (h.parts W k).2 (by omega) (fun y hy => h.byt y (List.mem_of_mem_drop hy))
theorem Dc.fixed {w : World} {b off m xc c v : Nat} {bs : List Nat} (h : Dc w b off m xc bs c v) {W : World} {br : Nat} {F : List Nat} (hr : Rs W br F ⟨0, bs.drop m, []⟩) : Calls Tryd.prog 23 #[.pointer (some ⟨br, 0, none⟩), .int .i64 4] W fun e w' => e = .returned (.int .u64 (v : Nat)) ∧ Kept F W w' := by
  have e2 : (bs.drop m).length = 4 := by have := h.len; simp; omega
  refine (rfixed_q hr 4).mono ?_
  rintro e w' ⟨rfl, F', _, k, _⟩
  refine ⟨?_, k⟩
  have : (rFixed ⟨0, bs.drop m, []⟩ 4).2 = v := by
    unfold rFixed
    rw [if_neg (by simp), if_neg (by omega), if_neg (by show ¬ ((bs.drop m).length : Int) < 4; omega)]
    show leV ((bs.drop m).take (4 : Int).toNat) = v
    rw [h.vv, List.take_of_length_le (by rw [e2]; decide)]
  rw [this]
theorem Dc.sumc {w : World} {b off m xc c v : Nat} {bs : List Nat} (h : Dc w b off m xc bs c v) {W : World} (k : Kept [] w W) : Calls Tryd.prog 21 #[.slice (some ⟨b, off, none⟩) m xc] W fun e w' => e = .returned (.int .u32 (c : Nat)) ∧ w' = W := by
  have e1 : (bs.take m).length = m := by have := h.len; simp; omega
  have := h.m5
  rw [h.cc]
  exact crc_any (h.tab.kept k (by simp)) (h.parts W k).1 (fun y hy => h.byt y (List.mem_of_mem_take hy)) (by omega)
theorem Dc.rd {w : World} {b off m xc c v : Nat} {bs : List Nat} (h : Dc w b off m xc bs c v) {W : World} (k : Kept [] w W) : Calls Tryd.prog 24 #[.slice (some ⟨b, off, none⟩) m xc] W (RdP W (bs.take m)) := by
  have e1 : (bs.take m).length = m := by have := h.len; simp; omega
  have := h.m5
  exact readM_any W _ _ (h.parts W k).1 (by omega) (fun y hy => h.byt y (List.mem_of_mem_take hy))
theorem Dc.of {w : World} {xa : Option Addr} {xc : Nat} {bs : List Nat} (ht : Tab w) (hx : Wide w (.slice xa bs.length xc) bs) (h8 : 8 ≤ bs.length) (h5 : bs.length ≤ 524288) (hb : ∀ y ∈ bs, y < 256) : ∃ b off m c v, xa = some ⟨b, off, none⟩ ∧ bs.length = m + 4 ∧ m + 4 ≤ xc ∧ xc ≤ maxLen ∧ Dc w b off m xc bs c v := by
  obtain ⟨b, off, rfl, _, g1, g2, g3, g4⟩ := wides hx (by omega)
  obtain ⟨m, hm⟩ : ∃ m, bs.length = m + 4 := ⟨bs.length - 4, by omega⟩
  rw [hm] at g1
  have hv : leV (bs.drop m) < 4294967296 := by
    have := leV_lt (bs.drop m) (fun y hy => hb y (List.mem_of_mem_drop hy))
    rw [show (bs.drop m).length = 4 by simp; omega] at this
    omega
  refine ⟨b, off, m, crc (bs.take m), leV (bs.drop m), rfl, hm, g1, g2, hm, fun W k => ?_, ht, hb, crc_lt (fun y hy => hb y (List.mem_of_mem_take hy)), rfl, hv, rfl, by omega⟩
  exact sees_parts hm g1 g2 (Nat.lt_of_lt_of_le g3 k.size) (fun j hj => by rw [k.cell (p := ⟨b, off + j, none⟩) g3 (by simp)]; exact g4 j hj)
theorem Dc.err {w : World} {b off m xc c v : Nat} {bs : List Nat} (h : Dc w b off m xc bs c v) (hn : v ≠ c) : decE bs = 191 := by
  have := h.m5
  have hl := h.len
  unfold decE
  rw [if_neg (by omega), if_neg (by omega), show bs.length - 4 = m by omega, if_pos]
  intro he
  exact hn (h.vv.trans (((sum_iff (by simp; omega) (fun y hy => h.byt y (List.mem_of_mem_drop hy)) h.cl).2 (by rw [h.cc]; exact he))))
theorem Dc.ok {w : World} {b off m xc c v : Nat} {bs : List Nat} (h : Dc w b off m xc bs c v) (hn : v = c) : decE bs = (if (readM (bs.take m)).2 = true ∧ snd (readM (bs.take m)).1 = true then 0 else 190) ∧ decM bs = (if decE bs = 0 then (readM (bs.take m)).1 else zeroM) := by
  have := h.m5
  have hl := h.len
  have hm : bs.length - 4 = m := by omega
  constructor
  · unfold decE
    rw [if_neg (by omega), if_neg (by omega), hm, if_neg]
    intro he
    apply he
    have := (sum_iff (by simp; omega) (fun y hy => h.byt y (List.mem_of_mem_drop hy)) h.cl).1 (h.vv.symm.trans hn)
    rw [this, h.cc]
  · unfold decM
    rw [hm]

set_option maxRecDepth 100000 in
set_option maxHeartbeats 1600000 in
theorem decode_sum (w : World) (bs : List Nat) (b off m xc c v : Nat) (hd : Dc w b off m xc bs c v) (hc1 : m + 4 ≤ xc) (hn : v ≠ c) : Calls Tryd.prog 10 #[.slice (some ⟨b, off, none⟩) (m + 4) xc] w (DecP w bs) := by
  have HD := hide hd
  have HE := hide (hd.err hn)
  have hm := hd.m5
  have hcl := hd.cl
  have hvl := hd.vl
  have hg1 : ((524288 : Int) < ((m + 4 : Nat) : Int)) = False := eq_false (by omega)
  have hg2 : (((m + 4 : Nat) : Int) < 8) = False := eq_false (by omega)
  have hg3 : ((524288 : Int) < (m : Int) + 4) = False := eq_false (by omega)
  have hg4 : ((m : Int) + 4 < 8) = False := eq_false (by omega)
  have e1 : IntKind.u64.wrap (c : Int) = (c : Int) := by rw [IntKind.wrap_u64]; omega
  have e2 : wrap64 ((m : Int) + 4 - 4) = (m : Int) := by unfold wrap64; omega
  have e3 : wrap64 (m : Int) = (m : Int) := by unfold wrap64; omega
  have hvc : ((v : Int) != (c : Int)) = true := by rw [bne_iff_ne]; omega
  clear hd hn
  go_enter Tryd.func10, Tryd.ntmps10
  go_upto_region 1 with fail
  refine world_at (R := fun X => Blk X w.heap.size (mcc zeroM nilM) 30 ∧ Kept [] w X) ⟨Blk.new _ _ _, (Kept.refl [] w).alloc _⟩ ?_
  rintro X ⟨hR, hK⟩
  have HR := hide hR
  have HK := hide hK
  clear hR hK
  go_wp2_with fail
  go_region_with (first
    | (go_at_call 22; refine ((unhide HD).read (by first | exact unhide HK | exact (unhide HK).drew | exact (unhide HK).drewN _)).mono ?_; rintro e w1 ⟨br, F, rfl, hr1, hf1, k1⟩; have HR1 := hide hr1; have hk1 := (Kept.trans (unhide HK) (show Kept [] X w1 from (by first | exact k1 | exact (Kept.refl [] X).drew.step k1)) (by simp)); have HF1 := hide hf1; have HK1 := hide hk1; have HX1 := hide (show Kept [] X w1 from (by first | exact k1 | exact (Kept.refl [] X).drew.step k1)); clear hr1 hf1 k1 hk1)
    | (go_at_call 23; refine ((unhide HD).fixed (unhide HR1)).mono ?_; rintro e w2 ⟨rfl, k2⟩; have hx2 : Kept [] X w2 := (unhide HX1).trans k2 (fun x hx => Or.inr (unhide HF1 x hx)); have HX2 := hide hx2; clear k2 hx2)
    | (go_at_call 21; refine ((unhide HD).sumc ((unhide HK).step (unhide HX2))).mono ?_; rintro e w3 ⟨rfl, hz⟩; have hz2 := hz.symm; subst hz2; clear hz))
  all_goals
    have hR2 := (unhide HR).kept (unhide HX2) (by simp)
    have hK2 := (unhide HK).step (unhide HX2)
    go_wp2_with (refine wpList_store_self rfl 30 _ _ rfl _ (mcc zeroM nilM) rfl rfl 30 hR2 infoMail (by simp [mcc, Value.oneCell']) ?_)
    refine ret_struct_tmp rfl rfl hR2 Tryd.underlying30 infoMail rfl ?_
    exact DecP.fail (c := 191) hK2 (unhide HE) (by omega)
end Go.Proofs.YtfhfkpgfnlmfhabDoor

/- Decode: bytes with their right sum. -/
namespace Go.Proofs.YtfhfkpgfnlmfhabDoor
open Go.RowKit

theorem NewM.kept {w W W' : World} {p : Ml} {l : Lm} (h : NewM w p l W) (k : Kept [] W W') : NewM w p l W' := ⟨fun o ho => (h.nw o ho).kept k (by simp), h.ap⟩
theorem Dc.rd2 {w : World} {b off m xc c v : Nat} {bs : List Nat} (h : Dc w b off m xc bs c v) {p : Ml} {ok : Bool} (hp : (readM (bs.take m)).1 = p) (ho : (readM (bs.take m)).2 = ok) (W : World) (k : Kept [] w W) : Calls Tryd.prog 24 #[.slice (some ⟨b, off, none⟩) m xc] W fun e w' => Kept [] W w' ∧ ∃ l, e = .returned (.tuple #[.agg (mcc p l), .bool ok]) ∧ NewM W p l w' := by
  subst hp ho
  exact h.rd k
theorem DecP.good {w X w2 Z : World} {bs : List Nat} {p : Ml} {l : Lm} (he : decE bs = 0 ∧ decM bs = p) (hk : Kept [] w X) (h3 : Kept [] X Z) (hn : NewM w2 p l Z) (hw : w.heap.size < w2.heap.size) : DecP w bs (.returned (.tuple #[.agg (mcc p l), .int .i64 0])) (Z.setRow w.heap.size (mcc p l)) := by
  have kR : Kept [w.heap.size] Z (Z.setRow w.heap.size (mcc p l)) := (Kept.refl _ Z).setRow (Or.inl (by simp)) _
  refine ⟨(hk.step h3).setRow (Or.inr (Nat.le_refl _)) _, l, ?_, fun o ho => ?_, ?_⟩
  · rw [he.1, he.2]; rfl
  · rw [he.2]
    refine ((hn.nw o ho).kept kR (fun x hx hm => ?_)).from (by omega)
    have := ((hn.nw o ho).lt hx).1
    simp at hm
    omega
  · rw [he.2]; exact hn.ap
set_option maxRecDepth 100000 in
set_option maxHeartbeats 1600000 in
theorem decode_odd (w : World) (bs : List Nat) (b off m xc c v : Nat) (hd : Dc w b off m xc bs c v) (hc1 : m + 4 ≤ xc) (hn : v = c) (ho : (readM (bs.take m)).2 = false) : Calls Tryd.prog 10 #[.slice (some ⟨b, off, none⟩) (m + 4) xc] w (DecP w bs) := by
  have HD := hide hd
  have HE := hide (show decE bs = 190 by have h1 := (hd.ok hn).1; rw [ho] at h1; simpa using h1)
  have hm := hd.m5
  have hcl := hd.cl
  have hvl := hd.vl
  have hg1 : ((524288 : Int) < ((m + 4 : Nat) : Int)) = False := eq_false (by omega)
  have hg2 : (((m + 4 : Nat) : Int) < 8) = False := eq_false (by omega)
  have hg3 : ((524288 : Int) < (m : Int) + 4) = False := eq_false (by omega)
  have hg4 : ((m : Int) + 4 < 8) = False := eq_false (by omega)
  have e1 : IntKind.u64.wrap (c : Int) = (c : Int) := by rw [IntKind.wrap_u64]; omega
  have e2 : wrap64 ((m : Int) + 4 - 4) = (m : Int) := by unfold wrap64; omega
  have e3 : wrap64 (m : Int) = (m : Int) := by unfold wrap64; omega
  have hvc : ((v : Int) != (c : Int)) = false := by rw [hn]; simp
  obtain ⟨p, hp⟩ : ∃ p, (readM (bs.take m)).1 = p := ⟨_, rfl⟩
  have HP := hide hp
  have HRD := hide (Dc.rd2 hd hp ho)
  have HS := fun W l => sound_any W p l

  clear hd hn hp ho
  go_enter Tryd.func10, Tryd.ntmps10
  go_upto_region 1 with fail
  refine world_at (R := fun X => Blk X w.heap.size (mcc zeroM nilM) 30 ∧ Kept [] w X) ⟨Blk.new _ _ _, (Kept.refl [] w).alloc _⟩ ?_
  rintro X ⟨hR, hK⟩
  have HR := hide hR
  have HK := hide hK
  clear hR hK
  go_wp2_with fail
  go_region_with (first
    | (go_at_call 22; refine ((unhide HD).read (by first | exact unhide HK | exact (unhide HK).drew | exact (unhide HK).drewN _)).mono ?_; rintro e w1 ⟨br, F, rfl, hr1, hf1, k1⟩; have HR1 := hide hr1; have hk1 := (Kept.trans (unhide HK) (show Kept [] X w1 from (by first | exact k1 | exact (Kept.refl [] X).drew.step k1)) (by simp)); have HF1 := hide hf1; have HK1 := hide hk1; have HX1 := hide (show Kept [] X w1 from (by first | exact k1 | exact (Kept.refl [] X).drew.step k1)); clear hr1 hf1 k1 hk1)
    | (go_at_call 23; refine ((unhide HD).fixed (unhide HR1)).mono ?_; rintro e w2 ⟨rfl, k2⟩; have hx2 : Kept [] X w2 := (unhide HX1).trans k2 (fun x hx => Or.inr (unhide HF1 x hx)); have HX2 := hide hx2; clear k2 hx2)
    | (go_at_call 21; refine ((unhide HD).sumc ((unhide HK).step (unhide HX2))).mono ?_; rintro e w3 ⟨rfl, hz⟩; have hz2 := hz.symm; subst hz2; clear hz))
  all_goals
    go_wp2_with (first
      | (go_at_call 24; refine (unhide HRD _ ((unhide HK).step (unhide HX2))).mono ?_; rintro e w3 ⟨k3, l, rfl, hnm⟩; have HX3 := hide ((unhide HX2).step k3); have HNM := hide hnm; have HS2 := hide k3.size; clear k3 hnm)
      | (refine wpList_store_row rfl 30 _ _ rfl _ (mcc p l) rfl rfl 30 _ (Blk.new w3 _ _) infoMail rfl (by simp [mcc, Value.oneCell']) ?_; refine world_at (R := fun Z => Blk Z w3.heap.size (mcc p l) 30 ∧ Kept [] w3 Z) ⟨setRow_heap _ _ _ _ _ _ (Blk.new w3 _ _), ((Kept.refl [] w3).alloc _).setRow (Or.inr (Nat.le_refl _)) _⟩ ?_; rintro Z ⟨hzb, hzk⟩; have HB := hide hzb; have HZ := hide hzk; have HX3 := hide ((unhide HX3).step (unhide HZ)); have HNM := hide (NewM.kept (unhide HNM) (unhide HZ)); clear hzb hzk)
      | (refine wpList_load_guard 30 _ rfl _ rfl 30 _ (0, 0) _ (unhide HB) Tryd.underlying30 rfl infoMail rfl ?_)
      | (refine wpList_store_self rfl 30 _ _ rfl _ (mcc zeroM nilM) rfl rfl 30 ((unhide HR).kept (unhide HX3) (by simp)) infoMail (by simp [mcc, Value.oneCell']) ?_))
    refine ret_struct_tmp rfl rfl ((unhide HR).kept (unhide HX3) (by simp)) Tryd.underlying30 infoMail rfl ?_
    exact DecP.fail (c := 190) ((unhide HK).step (unhide HX3)) (unhide HE) (by omega)
set_option maxRecDepth 100000 in
set_option maxHeartbeats 1600000 in
theorem decode_unsound (w : World) (bs : List Nat) (b off m xc c v : Nat) (hd : Dc w b off m xc bs c v) (hc1 : m + 4 ≤ xc) (hn : v = c) (ho : (readM (bs.take m)).2 = true) (hs : snd (readM (bs.take m)).1 = false) : Calls Tryd.prog 10 #[.slice (some ⟨b, off, none⟩) (m + 4) xc] w (DecP w bs) := by
  have HD := hide hd
  have HE := hide (show decE bs = 190 by have h1 := (hd.ok hn).1; rw [ho, hs] at h1; simpa using h1)
  have hm := hd.m5
  have hcl := hd.cl
  have hvl := hd.vl
  have hg1 : ((524288 : Int) < ((m + 4 : Nat) : Int)) = False := eq_false (by omega)
  have hg2 : (((m + 4 : Nat) : Int) < 8) = False := eq_false (by omega)
  have hg3 : ((524288 : Int) < (m : Int) + 4) = False := eq_false (by omega)
  have hg4 : ((m : Int) + 4 < 8) = False := eq_false (by omega)
  have e1 : IntKind.u64.wrap (c : Int) = (c : Int) := by rw [IntKind.wrap_u64]; omega
  have e2 : wrap64 ((m : Int) + 4 - 4) = (m : Int) := by unfold wrap64; omega
  have e3 : wrap64 (m : Int) = (m : Int) := by unfold wrap64; omega
  have hvc : ((v : Int) != (c : Int)) = false := by rw [hn]; simp
  obtain ⟨p, hp⟩ : ∃ p, (readM (bs.take m)).1 = p := ⟨_, rfl⟩
  rw [hp] at hs
  have HP := hide hp
  have HRD := hide (Dc.rd2 hd hp ho)
  have HS := fun W l => sound_any W p l
  rw [hs] at HS

  clear hd hn hp ho hs
  go_enter Tryd.func10, Tryd.ntmps10
  go_upto_region 1 with fail
  refine world_at (R := fun X => Blk X w.heap.size (mcc zeroM nilM) 30 ∧ Kept [] w X) ⟨Blk.new _ _ _, (Kept.refl [] w).alloc _⟩ ?_
  rintro X ⟨hR, hK⟩
  have HR := hide hR
  have HK := hide hK
  clear hR hK
  go_wp2_with fail
  go_region_with (first
    | (go_at_call 22; refine ((unhide HD).read (by first | exact unhide HK | exact (unhide HK).drew | exact (unhide HK).drewN _)).mono ?_; rintro e w1 ⟨br, F, rfl, hr1, hf1, k1⟩; have HR1 := hide hr1; have hk1 := (Kept.trans (unhide HK) (show Kept [] X w1 from (by first | exact k1 | exact (Kept.refl [] X).drew.step k1)) (by simp)); have HF1 := hide hf1; have HK1 := hide hk1; have HX1 := hide (show Kept [] X w1 from (by first | exact k1 | exact (Kept.refl [] X).drew.step k1)); clear hr1 hf1 k1 hk1)
    | (go_at_call 23; refine ((unhide HD).fixed (unhide HR1)).mono ?_; rintro e w2 ⟨rfl, k2⟩; have hx2 : Kept [] X w2 := (unhide HX1).trans k2 (fun x hx => Or.inr (unhide HF1 x hx)); have HX2 := hide hx2; clear k2 hx2)
    | (go_at_call 21; refine ((unhide HD).sumc ((unhide HK).step (unhide HX2))).mono ?_; rintro e w3 ⟨rfl, hz⟩; have hz2 := hz.symm; subst hz2; clear hz))
  all_goals
    go_wp2_with (first
      | (go_at_call 24; refine (unhide HRD _ ((unhide HK).step (unhide HX2))).mono ?_; rintro e w3 ⟨k3, l, rfl, hnm⟩; have HX3 := hide ((unhide HX2).step k3); have HNM := hide hnm; have HS2 := hide k3.size; clear k3 hnm)
      | (refine wpList_store_row rfl 30 _ _ rfl _ (mcc p l) rfl rfl 30 _ (Blk.new w3 _ _) infoMail rfl (by simp [mcc, Value.oneCell']) ?_; refine world_at (R := fun Z => Blk Z w3.heap.size (mcc p l) 30 ∧ Kept [] w3 Z) ⟨setRow_heap _ _ _ _ _ _ (Blk.new w3 _ _), ((Kept.refl [] w3).alloc _).setRow (Or.inr (Nat.le_refl _)) _⟩ ?_; rintro Z ⟨hzb, hzk⟩; have HB := hide hzb; have HZ := hide hzk; have HX3 := hide ((unhide HX3).step (unhide HZ)); have HNM := hide (NewM.kept (unhide HNM) (unhide HZ)); clear hzb hzk)
      | (refine wpList_load_guard 30 _ rfl _ rfl 30 _ (0, 0) _ (unhide HB) Tryd.underlying30 rfl infoMail rfl ?_)
      | (go_at_call 16; refine (HS _ l).mono ?_; rintro e w4 ⟨rfl, hz⟩; have hb := (unhide HB).kept hz (by simp); have hx := (unhide HX3).step hz; have hn4 := NewM.kept (unhide HNM) hz; clear HB HX3 HNM; have HB := hide hb; have HX3 := hide hx; have HNM := hide hn4; clear hb hx hn4 hz)
      | (refine wpList_store_self rfl 30 _ _ rfl _ (mcc zeroM nilM) rfl rfl 30 ((unhide HR).kept (unhide HX3) (by simp)) infoMail (by simp [mcc, Value.oneCell']) ?_))
    refine ret_struct_tmp rfl rfl ((unhide HR).kept (unhide HX3) (by simp)) Tryd.underlying30 infoMail rfl ?_
    exact DecP.fail (c := 190) ((unhide HK).step (unhide HX3)) (unhide HE) (by omega)
set_option maxRecDepth 100000 in
set_option maxHeartbeats 1600000 in
theorem decode_good (w : World) (bs : List Nat) (b off m xc c v : Nat) (hd : Dc w b off m xc bs c v) (hc1 : m + 4 ≤ xc) (hn : v = c) (ho : (readM (bs.take m)).2 = true) (hs : snd (readM (bs.take m)).1 = true) : Calls Tryd.prog 10 #[.slice (some ⟨b, off, none⟩) (m + 4) xc] w (DecP w bs) := by
  have HD := hide hd
  have HE0 : Hid (decE bs = 0 ∧ decM bs = (readM (bs.take m)).1) := by have h1 := (hd.ok hn).1; rw [ho, hs] at h1; have h2 : decE bs = 0 := (by simpa using h1); exact ⟨h2, by rw [(hd.ok hn).2, if_pos h2]⟩
  have hm := hd.m5
  have hcl := hd.cl
  have hvl := hd.vl
  have hg1 : ((524288 : Int) < ((m + 4 : Nat) : Int)) = False := eq_false (by omega)
  have hg2 : (((m + 4 : Nat) : Int) < 8) = False := eq_false (by omega)
  have hg3 : ((524288 : Int) < (m : Int) + 4) = False := eq_false (by omega)
  have hg4 : ((m : Int) + 4 < 8) = False := eq_false (by omega)
  have e1 : IntKind.u64.wrap (c : Int) = (c : Int) := by rw [IntKind.wrap_u64]; omega
  have e2 : wrap64 ((m : Int) + 4 - 4) = (m : Int) := by unfold wrap64; omega
  have e3 : wrap64 (m : Int) = (m : Int) := by unfold wrap64; omega
  have hvc : ((v : Int) != (c : Int)) = false := by rw [hn]; simp
  obtain ⟨p, hp⟩ : ∃ p, (readM (bs.take m)).1 = p := ⟨_, rfl⟩
  rw [hp] at hs
  have HP := hide hp
  have HE : Hid (decE bs = 0 ∧ decM bs = p) := by rw [← hp]; exact unhide HE0
  have HRD := hide (Dc.rd2 hd hp ho)
  have HS := fun W l => sound_any W p l
  rw [hs] at HS

  clear hd hn hp ho hs
  go_enter Tryd.func10, Tryd.ntmps10
  go_upto_region 1 with fail
  refine world_at (R := fun X => Blk X w.heap.size (mcc zeroM nilM) 30 ∧ Kept [] w X) ⟨Blk.new _ _ _, (Kept.refl [] w).alloc _⟩ ?_
  rintro X ⟨hR, hK⟩
  have HR := hide hR
  have HK := hide hK
  clear hR hK
  go_wp2_with fail
  go_region_with (first
    | (go_at_call 22; refine ((unhide HD).read (by first | exact unhide HK | exact (unhide HK).drew | exact (unhide HK).drewN _)).mono ?_; rintro e w1 ⟨br, F, rfl, hr1, hf1, k1⟩; have HR1 := hide hr1; have hk1 := (Kept.trans (unhide HK) (show Kept [] X w1 from (by first | exact k1 | exact (Kept.refl [] X).drew.step k1)) (by simp)); have HF1 := hide hf1; have HK1 := hide hk1; have HX1 := hide (show Kept [] X w1 from (by first | exact k1 | exact (Kept.refl [] X).drew.step k1)); clear hr1 hf1 k1 hk1)
    | (go_at_call 23; refine ((unhide HD).fixed (unhide HR1)).mono ?_; rintro e w2 ⟨rfl, k2⟩; have hx2 : Kept [] X w2 := (unhide HX1).trans k2 (fun x hx => Or.inr (unhide HF1 x hx)); have HX2 := hide hx2; clear k2 hx2)
    | (go_at_call 21; refine ((unhide HD).sumc ((unhide HK).step (unhide HX2))).mono ?_; rintro e w3 ⟨rfl, hz⟩; have hz2 := hz.symm; subst hz2; clear hz))
  all_goals
    go_wp2_with (first
      | (go_at_call 24; refine (unhide HRD _ ((unhide HK).step (unhide HX2))).mono ?_; rintro e w3 ⟨k3, l, rfl, hnm⟩; have HX3 := hide ((unhide HX2).step k3); have HNM := hide hnm; have HS2 := hide k3.size; clear k3 hnm)
      | (refine wpList_store_row rfl 30 _ _ rfl _ (mcc p l) rfl rfl 30 _ (Blk.new w3 _ _) infoMail rfl (by simp [mcc, Value.oneCell']) ?_; refine world_at (R := fun Z => Blk Z w3.heap.size (mcc p l) 30 ∧ Kept [] w3 Z) ⟨setRow_heap _ _ _ _ _ _ (Blk.new w3 _ _), ((Kept.refl [] w3).alloc _).setRow (Or.inr (Nat.le_refl _)) _⟩ ?_; rintro Z ⟨hzb, hzk⟩; have HB := hide hzb; have HZ := hide hzk; have HX3 := hide ((unhide HX3).step (unhide HZ)); have HNM := hide (NewM.kept (unhide HNM) (unhide HZ)); clear hzb hzk)
      | (refine wpList_load_guard 30 _ rfl _ rfl 30 _ (0, 0) _ (unhide HB) Tryd.underlying30 rfl infoMail rfl ?_)
      | (go_at_call 16; refine (HS _ l).mono ?_; rintro e w4 ⟨rfl, hz⟩; have hb := (unhide HB).kept hz (by simp); have hx := (unhide HX3).step hz; have hn4 := NewM.kept (unhide HNM) hz; clear HB HX3 HNM; have HB := hide hb; have HX3 := hide hx; have HNM := hide hn4; clear hb hx hn4 hz)
      | (refine wpList_store_row rfl 30 _ _ rfl w.heap.size (mcc p l) rfl rfl 30 _ ((unhide HR).kept (unhide HX3) (by simp)) infoMail rfl (by simp [mcc, Value.oneCell']) ?_))
    refine ret_struct_tmp rfl rfl (setRow_heap _ _ _ _ _ _ ((unhide HR).kept (unhide HX3) (by simp))) Tryd.underlying30 infoMail rfl ?_
    exact DecP.good (unhide HE) (unhide HK) (unhide HX3) (unhide HNM) (Nat.lt_of_lt_of_le (unhide HR).lt (unhide HX2).size)
theorem decode_any (w : World) (x : Value) (bs : List Nat) (ht : Tab w) (hx : Wide w x bs) (hb : ∀ y ∈ bs, y < 256) : Calls Tryd.prog 10 #[x] w (DecP w bs) := by
  rcases Nat.lt_or_ge 524288 bs.length with h1 | h1
  · exact decode_far w x bs hx h1
  · rcases Nat.lt_or_ge bs.length 8 with h2 | h2
    · exact decode_few w x bs hx h2
    · obtain ⟨xa, xc, rfl⟩ := wide_len hx
      obtain ⟨b, off, m, c, v, rfl, hm, g1, _, hd⟩ := Dc.of ht hx h2 h1 hb
      rw [hm]
      by_cases hn : v = c
      · cases ho : (readM (bs.take m)).2 with
        | false => exact decode_odd w bs b off m xc c v hd g1 hn ho
        | true =>
          cases hs : snd (readM (bs.take m)).1 with
          | false => exact decode_unsound w bs b off m xc c v hd g1 hn ho hs
          | true => exact decode_good w bs b off m xc c v hd g1 hn ho hs
      · exact decode_sum w bs b off m xc c v hd g1 hn
end Go.Proofs.YtfhfkpgfnlmfhabDoor

/- The laws' awake. -/
namespace Go.Proofs.YtfhfkpgfnlmfhabDoor
open Go.RowKit

theorem encA_any {w : World} (ht : Tab w) : Calls Tryd.prog 6 #[mv pA nilM] w fun e w' => ∃ a cap, e = .returned (.tuple #[.slice a 10 cap, .int .i64 0]) ∧ Sees w' (.slice a 10 cap) wantA ∧ Kept [] w w' := by
  refine (encode_any w pA nilM ht (MW.A w)).mono ?_
  rintro e w' ⟨hk, ⟨_, a, cap, rfl, ho⟩ | ⟨hs, _⟩⟩
  · have hs := Sees.of_own ho
    rw [encA] at hs ⊢
    exact ⟨a, cap, rfl, hs, hk⟩
  · rw [sndA] at hs; cases hs
theorem sumB_any {w : World} {x : Value} (ht : Tab w) (h : Wide w x wantB) : Calls Tryd.prog 15 #[x] w fun e w' => ∃ a cap, e = .returned (.slice a 10 cap) ∧ Sees w' (.slice a 10 cap) wantA ∧ Kept [] w w' := by
  refine (summed_any ht h byteB (by simp [wantB])).mono ?_
  rintro e w' ⟨hk, a, cap, rfl, ho⟩
  have hs := Sees.of_own ho
  rw [sumA] at hs ⊢
  exact ⟨a, cap, rfl, hs, hk⟩
theorem decA_any {w : World} {x : Value} (ht : Tab w) (h : Wide w x wantA) : Calls Tryd.prog 10 #[x] w fun e w' => ∃ l, e = .returned (.tuple #[.agg (mcc pA l), .int .i64 0]) ∧ MW w' pA l ∧ Kept [] w w' := by
  refine (decode_any w x wantA ht h byteA).mono ?_
  rintro e w' ⟨hk, l, rfl, hn⟩
  have hm := hn.mw byteA
  rw [decA.1, decA.2] at *
  exact ⟨l, rfl, hm, hk⟩
theorem decA0_any {w : World} {x : Value} (ht : Tab w) (h : Wide w x (wantA ++ [0])) : Calls Tryd.prog 10 #[x] w fun e w' => ∃ l, e = .returned (.tuple #[.agg (mcc zeroM l), .int .i64 191]) ∧ Kept [] w w' := by
  refine (decode_any w x (wantA ++ [0]) ht h byteA0).mono ?_
  rintro e w' ⟨hk, l, rfl, hn⟩
  have hz : decM (wantA ++ [0]) = zeroM := by unfold decM; rw [decA0, if_neg (by decide)]
  rw [decA0, hz]
  exact ⟨l, rfl, hk⟩
theorem seesB (w : World) : Sees (w.alloc (.cells #[.int .u8 7, .int .u8 2, .int .u8 0, .int .u8 63, .int .u8 200, .int .u8 1] 5)) (.slice (some ⟨w.heap.size, 0, none⟩) 6 6) wantB := by
  refine Or.inr ⟨w.heap.size, 0, 6, rfl, by simp [wantB], by unfold maxLen; omega, by simp, fun j hj => ?_⟩
  rw [(Blk.new w _ _).cell]
  simp only [wantB, List.length_cons, List.length_nil] at hj
  match j, hj with
  | 0, _ => rfl
  | 1, _ => rfl
  | 2, _ => rfl
  | 3, _ => rfl
  | 4, _ => rfl
  | 5, _ => rfl
/-- What awake has when all has been asked. -/
structure AW (w : World) (p q : Value) (b b2 : Nat) (l : Lm) (X : World) : Prop where
  two : MW X pA l
  b1 : Blk X b (mcc pA nilM) 30
  bb : Blk X b2 (mcc pA l) 30
  sp : Sees X p wantA
  sq : Sees X q wantA
  kept : Kept [] w X
theorem AW.go {w : World} {p q : Value} {b b2 : Nat} {l : Lm} {X Y : World} (h : AW w p q b b2 l X) (k : Kept [] X Y) : AW w p q b b2 l Y := ⟨h.two.kept k, h.b1.kept k (by simp), h.bb.kept k (by simp), h.sp.kept k (by simp), h.sq.kept k (by simp), h.kept.step k⟩

set_option maxRecDepth 100000 in
set_option maxHeartbeats 1600000 in
theorem awake_any (w : World) (ht : Tab w) : Calls Tryd.prog 5 #[] w fun e w' => e = .returned (.bool true) ∧ Kept [] w w' := by
  have HT := hide (fun W (k : Kept [] w W) => ht.kept k (by simp))
  clear ht
  go_enter Tryd.func5, Tryd.ntmps5
  go_upto_region 2 with (refine wpList_store_row rfl 30 _ _ rfl _ (mcc pA nilM) rfl rfl 30 _ (Blk.new w _ _) infoMail rfl (by simp [mcc, Value.oneCell']) ?_)
  refine world_at (R := fun X => Blk X w.heap.size (mcc pA nilM) 30 ∧ Kept [] w X) ⟨setRow_heap _ _ _ _ _ _ (Blk.new w _ _), ((Kept.refl [] w).alloc _).setRow (Or.inr (Nat.le_refl _)) _⟩ ?_
  rintro X0 ⟨hb0, hk0⟩
  have HB0 := hide hb0
  have HK0 := hide hk0
  clear hb0 hk0
  go_upto_region 5 with (first
    | (refine wpList_load_guard 30 _ rfl _ rfl 30 _ (0, 0) _ (unhide HB0) Tryd.underlying30 rfl infoMail rfl ?_)
    | (go_at_call 6; refine (encA_any (unhide HT _ (unhide HK0))).mono ?_; rintro e w1 ⟨pa, pc, rfl, hs1, k1⟩; have HB1 := hide ((unhide HB0).kept k1 (by simp)); have HK1 := hide ((unhide HK0).step k1); have HS1 := hide hs1; clear hs1 k1 HB0 HK0)
    | (go_at_call 15; refine (sumB_any (unhide HT _ ((unhide HK1).alloc _)) (Or.inl (seesB w1))).mono ?_; rintro e w2 ⟨sa, sc, rfl, hs2, k2⟩; have k2' := ((Kept.refl [] w1).alloc _).step k2; have HB2 := hide ((unhide HB1).kept k2' (by simp)); have HK2 := hide ((unhide HK1).step k2'); have HS2 := hide ((unhide HS1).kept k2' (by simp)); have HW2 := hide hs2; clear hs2 k2 k2' HB1 HK1 HS1)
    | (go_at_call 10; refine (decA_any (unhide HT _ (unhide HK2)) (Or.inl (unhide HW2))).mono ?_; rintro e w3 ⟨l, rfl, hm3, k3⟩; have HB3 := hide ((unhide HB2).kept k3 (by simp)); have HK3 := hide ((unhide HK2).step k3); have HS3 := hide ((unhide HS2).kept k3 (by simp)); have HW3 := hide ((unhide HW2).kept k3 (by simp)); have HM3 := hide hm3; clear hm3 k3 HB2 HK2 HS2 HW2)
    | (refine wpList_store_row rfl 30 _ _ rfl _ (mcc pA l) rfl rfl 30 _ (Blk.new w3 _ _) infoMail rfl (by simp [mcc, Value.oneCell']) ?_))
  refine world_at (R := fun X => Kept [] w3 X ∧ Blk X w3.heap.size (mcc pA l) 30) ⟨((Kept.refl [] w3).alloc _).setRow (Or.inr (Nat.le_refl _)) _, setRow_heap _ _ _ _ _ _ (Blk.new w3 _ _)⟩ ?_
  rintro X ⟨kx, hbx⟩
  have hX : AW w (.slice pa 10 pc) (.slice sa 10 sc) w.heap.size w3.heap.size l X := ⟨(unhide HM3).kept kx, (unhide HB3).kept kx (by simp), hbx, (unhide HS3).kept kx (by simp), (unhide HW3).kept kx (by simp), (unhide HK3).step kx⟩
  clear HB3 HK3 HS3 HW3 HM3 kx hbx
  have HX := hide hX
  clear hX
  obtain ⟨i0, hi, hz0, hz1, hz2⟩ := info_parts Tryd.info5
  go_wp2_with (at_builtin; refine wpList_append_wide _ rfl _ _ 23 rfl X.heap.size 5 i0 (.int .u8 0) Tryd.underlying23 hi hz0 hz1 hz2 rfl _ [] rfl (World.ownsRow_made X #[] 0 (Nat.le_refl _) (Nat.zero_le _) rfl) _ wantA rfl (Or.inl ((unhide HX).sq.kept ((Kept.refl [] X).alloc _) (by simp))) ?c1 ?c2 ?_)
  case c1 => simp [wantA]
  case c2 => simp
  intro v1 w4 hown hg hat
  have hk1 : Kept [] X w4 := ((Kept.refl [] X).alloc _).grown hg (fun k hk => by simp [Value.ownBlock] at hk; right; omega)
  obtain ⟨a1, c1, hv⟩ := own_len hown
  subst hv
  have HO1 := hide hown
  have HX3 := hide ((unhide HX).go hk1)
  have HKX3 := hide hk1
  have hs1 := hk1.size
  clear hown hg hat hk1
  go_wp2_with (at_builtin; refine wpList_append_sees _ rfl _ _ 23 rfl X.heap.size 5 i0 (.int .u8 0) Tryd.underlying23 hi hz0 hz1 hz2 rfl _ wantA rfl ((unhide HO1).alloc _) _ [0] rfl (news_one w4 0) ?c3 ?c4 ?_)
  case c3 => simp [wantA]
  case c4 => simp; omega
  intro v2 w5 hown hg hat
  have hkx4 : Kept [] X w5 := ((unhide HKX3).alloc _).grown hg (fun k hk => Or.inr ((unhide HO1).lt k hk).1)
  have hsee : Sees w5 v2 (wantA ++ [0]) := Sees.of_own hown
  obtain ⟨a2, c2, hv⟩ := own_len hown
  subst hv
  have HS2 := hide hsee
  have HX4 := hide ((unhide HX).go hkx4)
  clear hown hg hat hkx4 hsee HX HX3 HKX3
  have hd0 : Hid (Calls Tryd.prog 10 #[.slice a2 (wantA ++ [0]).length c2] w5 _) := decA0_any (unhide HT _ (unhide HX4).kept) (Or.inl (unhide HS2))
  have hlen : (wantA ++ [0]).length = 11 := rfl
  rw [hlen] at hd0
  try rw [hlen]
  go_upto_region 6 with (first
    | (go_at_call 10; refine (unhide hd0).mono ?_; rintro e w6 ⟨l2, rfl, k6⟩; have HX5 := hide ((unhide HX4).go k6); clear hd0 HX4)
    | (refine wpList_store_row rfl 30 _ _ rfl _ (mcc zeroM l2) rfl rfl 30 _ (Blk.new w6 _ _) infoMail rfl (by simp [mcc, Value.oneCell']) ?_))
  refine world_at (R := fun X => Kept [] w6 X) (((Kept.refl [] w6).alloc _).setRow (Or.inr (Nat.le_refl _)) _) ?_
  rintro Y kY
  have HX6 := hide ((unhide HX5).go kY)
  clear HX5 kY
  go_wp2_with (first
    | (go_at_call 8; refine (same_full (Or.inl (unhide HX6).sp) (Or.inl (unhide HX6).sq) (by simp [wantA])).mono ?_; rintro e w8 ⟨rfl, k6⟩; have HX7 := hide ((unhide HX6).go k6); clear HX6; simp only [decide_true])
    | (refine wpList_load_guard 30 _ rfl _ rfl 30 _ (0, 0) _ (unhide HX7).b1 Tryd.underlying30 rfl infoMail rfl ?_)
    | (refine wpList_load_guard 30 _ rfl _ rfl 30 _ (0, 0) _ (unhide HX7).bb Tryd.underlying30 rfl infoMail rfl ?_)
    | (go_at_call 11; refine (sameMail_any (MW.A _) (unhide HX7).two).mono ?_; rintro e w9 ⟨rfl, k7⟩; rw [(eqM_iff pA pA).2 rfl]; have HK7 := hide ((unhide HX7).kept.step k7)))
  all_goals
    go_ret
    exact ⟨rfl, unhide HK7⟩
end Go.Proofs.YtfhfkpgfnlmfhabDoor

/- What Decode and Encode answer, case by case. -/
namespace Go.Proofs.YtfhfkpgfnlmfhabDoor
open Go.RowKit

/-- Why bytes are no form. -/
theorem decE_cases (bs : List Nat) : decE bs = 0 ∨ (decE bs = 3 ∧ 524288 < bs.length) ∨ (decE bs = 190 ∧ bs.length < 8) ∨ (decE bs = 190 ∧ 8 ≤ bs.length ∧ bs.length ≤ 524288) ∨ (decE bs = 191 ∧ (8 ≤ bs.length ∧ bs.length ≤ 524288) ∧ ∀ x, bs ≠ summed x) := by
  unfold decE
  split
  · rename_i h; exact Or.inr (Or.inl ⟨rfl, h⟩)
  · rename_i h1
    split
    · rename_i h; exact Or.inr (Or.inr (Or.inl ⟨rfl, h⟩))
    · rename_i h2
      split
      · rename_i h3
        refine Or.inr (Or.inr (Or.inr (Or.inr ⟨rfl, ⟨by omega, by omega⟩, fun x hx => h3 ?_⟩)))
        rw [hx, (summed_parts x).1, (summed_parts x).2]
      · split
        · exact Or.inl rfl
        · exact Or.inr (Or.inr (Or.inr (Or.inl ⟨rfl, by omega, by omega⟩)))
theorem decM_zero {bs : List Nat} (h : decE bs ≠ 0) : decM bs = zeroM := by unfold decM; rw [if_neg h]
theorem dec_bad {w : World} {x : Value} {bs : List Nat} (ht : Tab w) (hx : Wide w x bs) (hb : ∀ y ∈ bs, y < 256) {c : Nat} (h : decE bs = c) (hc : c ≠ 0) : Calls Tryd.prog 10 #[x] w fun e w' => ∃ l, e = .returned (.tuple #[.agg (mcc zeroM l), .int .i64 (c : Nat)]) ∧ MW w' zeroM l ∧ Kept [] w w' := by
  refine (decode_any w x bs ht hx hb).mono ?_
  rintro e w' ⟨hk, l, rfl, hn⟩
  have hm := hn.mw hb
  have hz := decM_zero (bs := bs) (by omega)
  rw [hz] at hm ⊢
  rw [h]
  exact ⟨l, rfl, hm, hk⟩
theorem dec_good {w : World} {x : Value} {bs : List Nat} (ht : Tab w) (hx : Wide w x bs) (hb : ∀ y ∈ bs, y < 256) (h : decE bs = 0) : Calls Tryd.prog 10 #[x] w fun e w' => ∃ l, e = .returned (.tuple #[.agg (mcc (decM bs) l), .int .i64 0]) ∧ MW w' (decM bs) l ∧ Kept [] w w' := by
  refine (decode_any w x bs ht hx hb).mono ?_
  rintro e w' ⟨hk, l, rfl, hn⟩
  have hm := hn.mw hb
  rw [h]
  exact ⟨l, rfl, hm, hk⟩
theorem enc_good {w : World} {p : Ml} {l : Lm} (ht : Tab w) (hm : MW w p l) (hs : snd p = true) : Calls Tryd.prog 6 #[.agg (mcc p l)] w fun e w' => ∃ a cap, e = .returned (.tuple #[.slice a (enc p).length cap, .int .i64 0]) ∧ Sees w' (.slice a (enc p).length cap) (enc p) ∧ Kept [] w w' := by
  refine (encode_any w p l ht hm).mono ?_
  rintro e w' ⟨hk, ⟨_, a, cap, rfl, ho⟩ | ⟨hs', _⟩⟩
  · exact ⟨a, cap, rfl, Sees.of_own ho, hk⟩
  · rw [hs] at hs'; cases hs'
theorem enc_bad {w : World} {p : Ml} {l : Lm} (ht : Tab w) (hm : MW w p l) (hs : snd p = false) : Calls Tryd.prog 6 #[.agg (mcc p l)] w fun e w' => e = .returned (.tuple #[.slice none 0 0, .int .i64 190]) ∧ Kept [] w w' := by
  refine (encode_any w p l ht hm).mono ?_
  rintro e w' ⟨hk, ⟨hs', _⟩ | ⟨_, rfl⟩⟩
  · rw [hs] at hs'; cases hs'
  · exact ⟨rfl, hk⟩
theorem same_mail {w : World} {p : Ml} {l m : Lm} (h1 : MW w p l) (h2 : MW w p m) : Calls Tryd.prog 11 #[.agg (mcc p l), .agg (mcc p m)] w fun e w' => e = .returned (.bool true) ∧ Kept [] w w' := by
  have h := sameMail_any h1 h2
  rw [(eqM_iff p p).2 rfl] at h
  exact h
theorem sound_is {w : World} {p : Ml} {l : Lm} : Calls Tryd.prog 16 #[.agg (mcc p l)] w fun e w' => e = .returned (.bool (snd p)) ∧ Kept [] w w' := sound_any w p l
end Go.Proofs.YtfhfkpgfnlmfhabDoor

/- Bytes that are lent. -/
namespace Go.Proofs.YtfhfkpgfnlmfhabDoor
open Go.RowKit

theorem sees2 (w : World) (x y : Nat) : Sees (w.alloc (.cells #[.int .u8 (x : Int), .int .u8 (y : Int)] 5)) (.slice (some ⟨w.heap.size, 0, none⟩) 2 2) [x, y] := by
  refine Or.inr ⟨w.heap.size, 0, 2, rfl, by simp, by unfold maxLen; omega, by simp, fun j hj => ?_⟩
  rw [(Blk.new w _ _).cell]
  match j, hj with
  | 0, _ => rfl
  | 1, _ => rfl

set_option maxRecDepth 100000 in
set_option maxHeartbeats 1000000 in
theorem lent_any {w : World} {x : Value} {P : List Nat} (h : Wide w x P) (hl : P.length ≤ 140737488355326) :
    Calls Tryd.prog 9 #[x] w fun e w' => ∃ g cap, e = .returned (.slice (some ⟨g, 0, none⟩) P.length cap) ∧ P.length + 2 ≤ cap ∧ w'.ownsRow w.heap.size 5 1 (.slice (some ⟨g, 0, none⟩) (P.length + 2) cap) (P.length + 2) (u8s (P ++ [201, 77])) ∧ Kept [] w w' := by
  obtain ⟨i0, hi, hz0, hz1, hz2⟩ := info_parts Tryd.info5
  have HP := hide h
  obtain ⟨pa, pc, rfl⟩ := wide_len h
  clear h
  obtain ⟨n, hn⟩ : ∃ n, n = P.length := ⟨_, rfl⟩
  rw [← hn] at hl HP ⊢
  have HN := hide hn
  clear hn
  go_enter Tryd.func9, Tryd.ntmps9
  go_wp2_with (at_builtin; refine wpList_append_wide _ rfl _ _ 23 rfl w.heap.size 5 i0 (.int .u8 0) Tryd.underlying23 hi hz0 hz1 hz2 rfl _ [] rfl (World.ownsRow_made w #[] 0 (Nat.le_refl _) (Nat.zero_le _) rfl) _ P rfl ((unhide HP).kept ((Kept.refl [] w).alloc _)) ?c1 ?c2 ?_)
  case c1 => have := unhide HN; simp; omega
  case c2 => simp
  intro v1 w1 hown hg hat
  have hk1 : Kept [] w w1 := ((Kept.refl [] w).alloc _).grown hg (fun k hk => by simp [Value.ownBlock] at hk; right; omega)
  rw [← unhide HN] at hown
  obtain ⟨a1, c1, hv⟩ := own_len hown
  subst hv
  have HO1 := hide hown
  have HK1 := hide hk1
  clear hown hg hat hk1
  have hs1 : w.heap.size ≤ w1.heap.size := (unhide HK1).size
  go_wp2_with (at_builtin; refine wpList_append_sees _ rfl _ _ 23 rfl w.heap.size 5 i0 (.int .u8 0) Tryd.underlying23 hi hz0 hz1 hz2 rfl _ P rfl (by rw [← unhide HN]; exact (unhide HO1).alloc _) _ [201, 77] rfl (sees2 w1 201 77) ?c3 ?c4 ?_)
  case c3 => have := unhide HN; simp; omega
  case c4 => simp; omega
  intro v2 w2 hown hg hat
  have hk2 : Kept [] w w2 := ((unhide HK1).alloc _).grown hg (fun k hk => by have := ((unhide HO1).lt k hk).1; right; exact this)
  rw [← unhide HN] at hown
  obtain ⟨g, c, hv, -, hgl, hgc, hcm⟩ : ∃ g cap, v2 = .slice (some ⟨g, 0, none⟩) (n + 2) cap ∧ w.heap.size ≤ g ∧ g < w2.heap.size ∧ n + 2 ≤ cap ∧ cap ≤ maxLen := by
    rcases hown.2 with ⟨_, h2⟩ | ⟨g, cap, cur, hv, hb, hg, hc, hm, _⟩
    · omega
    · exact ⟨g, cap, hv, hb, (Array.getElem?_eq_some_iff.1 hg).1, hc, hm⟩
  subst hv
  have HO2 := hide hown
  have HK2 := hide hk2
  have hnc : n ≤ c := by omega
  have hcm' : c ≤ 9223372036854775807 := by unfold maxLen at hcm; omega
  clear hown hg hat hk2 hcm
  go_wp2
  go_ret
  exact ⟨g, c, rfl, hgc, unhide HO2, unhide HK2⟩

theorem own_down {w : World} {base base' : Nat} {e : TypeId} {sz : Nat} {v : Value} {n : Nat} {xs : List Value} (h : w.ownsRow base e sz v n xs) (hb : base' ≤ base) : w.ownsRow base' e sz v n xs := by
  refine ⟨h.1, ?_⟩
  rcases h.2 with h2 | ⟨g, cap, cur, e1, hg, r⟩
  · exact Or.inl h2
  · exact Or.inr ⟨g, cap, cur, e1, Nat.le_trans hb hg, r⟩
theorem lent_parts {w : World} {base g n cap : Nat} {P : List Nat} (hn : P.length = n) (h : w.ownsRow base 5 1 (.slice (some ⟨g, 0, none⟩) (n + 2) cap) (n + 2) (u8s (P ++ [201, 77]))) :
    w.ownsRow base 5 1 (.slice (some ⟨g, 0, none⟩) n cap) n (u8s P) ∧ w.cell? ⟨g, n, none⟩ = some (.int .u8 201) ∧ w.cell? ⟨g, n + 1, none⟩ = some (.int .u8 77) := by
  have hc := h.cells (g := g) rfl
  have hadd : ∀ i, (⟨g, 0, none⟩ : Addr).add i = ⟨g, i, none⟩ := by intro i; unfold Addr.add; split <;> simp_all
  refine ⟨?_, ?_, ?_⟩
  · have := own_take (k := n) h (by omega)
    have e : (u8s (P ++ [201, 77])).take n = u8s P := by rw [u8s_append, List.take_append_of_le_length (by rw [u8s_length]; omega), List.take_of_length_le (by rw [u8s_length]; omega)]
    rw [e] at this
    exact this
  · rw [← hadd]; exact hc n _ (by subst hn; simp [u8s])
  · rw [← hadd]; exact hc (n + 1) _ (by subst hn; simp [u8s])
end Go.Proofs.YtfhfkpgfnlmfhabDoor

/- Rows of bytes of the call's own, none of them twice; bytes that are turned. -/
namespace Go.Proofs.YtfhfkpgfnlmfhabDoor
open Go.RowKit

/-- Rows made since base, no two in one block. -/
structure Pool (base : Nat) (w : World) (rows : List (Value × List Nat)) : Prop where
  own : ∀ r ∈ rows, w.ownsRow base 5 1 r.1 r.2.length (u8s r.2)
  pw : rows.Pairwise fun r s => ∀ b, r.1.ownBlock = some b → s.1.ownBlock ≠ some b
  room : ∀ r ∈ rows, r.2.length ≤ 3000000000
theorem Pool.kept {base : Nat} {w w' : World} {rows : List (Value × List Nat)} (h : Pool base w rows) (k : Kept [] w w') : Pool base w' rows := ⟨fun r hr => own_kept (h.own r hr) k (by simp), h.pw, h.room⟩
theorem Pool.lt {base : Nat} {w : World} {rows : List (Value × List Nat)} (h : Pool base w rows) {r : Value × List Nat} (hr : r ∈ rows) {b : Nat} (hb : r.1.ownBlock = some b) : base ≤ b ∧ b < w.heap.size := (h.own r hr).lt b hb
theorem Pool.nil (base : Nat) (w : World) : Pool base w [] := ⟨fun r hr => (by cases hr), List.Pairwise.nil, fun r hr => (by cases hr)⟩
theorem Pool.join {base : Nat} {w w' : World} {rows news : List (Value × List Nat)} (h : Pool base w rows) (hb : base ≤ w.heap.size) (k : Kept [] w w') (hn : Pool w.heap.size w' news) : Pool base w' (news ++ rows) := by
  refine ⟨fun r hr => ?_, List.pairwise_append.2 ⟨hn.pw, h.pw, fun r hr s hs b h1 h2 => ?_⟩, fun r hr => ?_⟩
  · rcases List.mem_append.1 hr with hr | hr
    · exact own_down (hn.own r hr) hb
    · exact own_kept (h.own r hr) k (by simp)
  · have := (hn.lt hr h1).1; have := (h.lt hs h2).2; omega
  · rcases List.mem_append.1 hr with hr | hr
    · exact hn.room r hr
    · exact h.room r hr
theorem Pool.one {base : Nat} {w : World} {v : Value} {l : List Nat} (ho : w.ownsRow base 5 1 v l.length (u8s l)) (hl : l.length ≤ 3000000000) : Pool base w [(v, l)] := ⟨fun r hr => (by simp at hr; subst hr; exact ho), List.pairwise_singleton _ _, fun r hr => (by simp at hr; subst hr; exact hl)⟩
theorem Pool.push {base : Nat} {w w' : World} {rows : List (Value × List Nat)} (h : Pool base w rows) (hb : base ≤ w.heap.size) (k : Kept [] w w') {v : Value} {l : List Nat} (ho : w'.ownsRow w.heap.size 5 1 v l.length (u8s l)) (hl : l.length ≤ 3000000000) : Pool base w' ((v, l) :: rows) := h.join hb k (Pool.one ho hl)
theorem Pool.three {base : Nat} {w : World} {v1 v2 v3 : Value} {l1 l2 l3 : List Nat} (o1 : w.ownsRow base 5 1 v1 l1.length (u8s l1)) (o2 : w.ownsRow base 5 1 v2 l2.length (u8s l2)) (o3 : w.ownsRow base 5 1 v3 l3.length (u8s l3)) (h12 : ∀ b, v1.ownBlock = some b → v2.ownBlock ≠ some b) (h13 : ∀ b, v1.ownBlock = some b → v3.ownBlock ≠ some b) (h23 : ∀ b, v2.ownBlock = some b → v3.ownBlock ≠ some b) (z1 : l1.length ≤ 3000000000) (z2 : l2.length ≤ 3000000000) (z3 : l3.length ≤ 3000000000) : Pool base w [(v1, l1), (v2, l2), (v3, l3)] := by
  refine ⟨fun r hr => ?_, ?_, fun r hr => ?_⟩
  · simp at hr; rcases hr with rfl | rfl | rfl; exact o1; exact o2; exact o3
  · refine List.pairwise_cons.2 ⟨fun s hs => ?_, List.pairwise_cons.2 ⟨fun s hs => ?_, List.pairwise_singleton _ _⟩⟩
    · simp at hs; rcases hs with rfl | rfl; exact h12; exact h13
    · simp at hs; subst hs; exact h23
  · simp at hr; rcases hr with rfl | rfl | rfl; exact z1; exact z2; exact z3
/-- A row written over where it lies. -/
theorem Pool.turn {base : Nat} {w w' : World} {A B : List (Value × List Nat)} {v : Value} {l l' : List Nat} {g : Nat} (h : Pool base w (A ++ (v, l) :: B)) (hg : v.ownBlock = some g) (k : Kept [g] w w') (ho : w'.ownsRow base 5 1 v l'.length (u8s l')) (hl : l'.length = l.length) : Pool base w' (A ++ (v, l') :: B) := by
  obtain ⟨p1, p2, p3⟩ := List.pairwise_append.1 h.pw
  obtain ⟨p4, p5⟩ := List.pairwise_cons.1 p2
  have hA : ∀ r ∈ A, r.1.ownBlock ≠ some g := fun r hr e => p3 r hr (v, l) (by simp) g e hg
  have hB : ∀ r ∈ B, r.1.ownBlock ≠ some g := fun r hr => p4 r hr g hg
  refine ⟨fun r hr => ?_, List.pairwise_append.2 ⟨p1, List.pairwise_cons.2 ⟨p4, p5⟩, fun r hr s hs => ?_⟩, fun r hr => ?_⟩
  · rcases List.mem_append.1 hr with hr | hr
    · exact own_kept (h.own r (by simp [hr])) k (fun b hb hm => hA r hr (by simp at hm; rw [← hm]; exact hb))
    · rcases List.mem_cons.1 hr with rfl | hr
      · exact ho
      · exact own_kept (h.own r (by simp [hr])) k (fun b hb hm => hB r hr (by simp at hm; rw [← hm]; exact hb))
  · rcases List.mem_cons.1 hs with rfl | hs
    · exact p3 r hr (v, l) (by simp)
    · exact p3 r hr s (by simp [hs])
  · rcases List.mem_append.1 hr with hr | hr
    · exact h.room r (by simp [hr])
    · rcases List.mem_cons.1 hr with rfl | hr
      · have := h.room (v, l) (by simp); simpa [hl] using this
      · exact h.room r (by simp [hr])
/-- A block of another type is none of theirs. -/
theorem own_type {w : World} {base : Nat} {v : Value} {n : Nat} {xs : List Value} (h : w.ownsRow base 5 1 v n xs) {b : Nat} {cs : Array Value} {t : TypeId} (hb : Blk w b cs t) (ht : t ≠ 5) : v.ownBlock ≠ some b := by
  intro e
  rcases h.2 with ⟨h1, _⟩ | ⟨g, cap, cur, hv, _, hg, _⟩
  · rw [h1] at e; cases e
  · rw [hv] at e
    simp [Value.ownBlock] at e
    subst e
    have := hb.symm.trans hg
    simp at this
    exact ht this.2
def blocks (rows : List (Value × List Nat)) : List Nat := rows.filterMap fun r => r.1.ownBlock
instance : Inhabited (Value × List Nat) := ⟨(.slice none 0 0, [])⟩
theorem apart_pool {base : Nat} {w : World} {rows : List (Value × List Nat)} (h : Pool base w rows) (hbase : base ≤ w.heap.size) {m mc ab : Nat} (hm : m ≤ 4194304) (pi : Nat → Nat) (hpi : ∀ i, i < m → pi i < rows.length) (hinj : ∀ i j, i < m → j < m → i ≠ j → pi i ≠ pi j) {cs : Array Value} (hab : Blk w ab cs 23) (hcs : ∀ i, i < m → cs[i]? = some (rows.getD (pi i) default).1) :
    Calls Tryd.prog 14 #[.slice (some ⟨ab, 0, none⟩) m mc] w fun e w' => e = .returned (.bool true) ∧ Kept (blocks rows) w w' := by
  have e : ∀ k (hk : k < rows.length), rows.getD k default = rows[k] := fun k hk => by rw [List.getD, List.getElem?_eq_getElem hk]; rfl
  have hg : ∀ i, i < m → rows.getD (pi i) default ∈ rows := fun i hi => by rw [e _ (hpi i hi)]; exact List.getElem_mem _
  refine apart_any (V := fun i => (rows.getD (pi i) default).1) (N := fun i => (rows.getD (pi i) default).2.length) (base := base) ⟨hm, hab.lt, ?_, ?_, ?_, ?_, ?_, ?_⟩ hbase (fun i => (rows.getD (pi i) default).2.map fun x : Nat => (x : Int)) ?_
  · intro i hi
    rw [hab.cell]
    exact hcs i hi
  · intro i hi; have := h.room _ (hg i hi); omega
  · intro i j hi hj hij b h1 h2
    have h3 := e _ (hpi i hi)
    have h4 := e _ (hpi j hj)
    simp only [h3, h4] at h1 h2
    rcases Nat.lt_or_gt_of_ne (hinj i j hi hj hij) with h5 | h5
    · exact List.pairwise_iff_getElem.1 h.pw (pi i) (pi j) (hpi i hi) (hpi j hj) h5 b h1 h2
    · exact List.pairwise_iff_getElem.1 h.pw (pi j) (pi i) (hpi j hj) (hpi i hi) h5 b h2 h1
  · intro i hi b hb
    exact List.mem_filterMap.2 ⟨_, hg i hi, hb⟩
  · intro hmem
    obtain ⟨r, hr, hb⟩ := List.mem_filterMap.1 hmem
    exact own_type (h.own r hr) hab (by decide) hb
  · intro i hi b hb
    exact (h.lt (hg i hi) hb).2
  · intro i hi
    have := h.own _ (hg i hi)
    rw [show ∀ l : List Nat, u8s l = b8s (l.map fun x : Nat => (x : Int)) from fun l => by simp [u8s, b8s]] at this
    exact this

/-- Bytes turned. -/
def trn (P : List Nat) : List Nat := P.map fun x => x ^^^ 85
theorem trn_len (P : List Nat) : (trn P).length = P.length := by simp [trn]
theorem xor85 (x : Nat) (h : x < 256) : bits .xor .u8 (x : Int) 85 = ((x ^^^ 85 : Nat) : Int) := by
  have : ∀ m : Nat, m < 256 → bits .xor .u8 (m : Int) 85 = ((m ^^^ 85 : Nat) : Int) := by decide +kernel
  exact this x h
theorem trn_by {P : List Nat} (h : ∀ x ∈ P, x < 256) : ∀ x ∈ trn P, x < 256 := by
  intro x hx
  obtain ⟨y, hy, rfl⟩ := List.mem_map.1 hx
  have := h y hy
  exact Nat.xor_lt_two_pow (n := 8) this (by omega)
set_option maxRecDepth 100000 in
set_option maxHeartbeats 1000000 in
theorem turn_any {w : World} {base g cap n : Nat} {P : List Nat} (hb : ∀ x ∈ P, x < 256) (hl : n ≤ 140737488355328) (h : w.ownsRow base 5 1 (.slice (some ⟨g, 0, none⟩) n cap) n (u8s P)) :
    Calls Tryd.prog 13 #[.slice (some ⟨g, 0, none⟩) n cap] w fun e w' => e = .returned (.tuple #[]) ∧ w'.ownsRow base 5 1 (.slice (some ⟨g, 0, none⟩) n cap) n (u8s (trn P)) ∧ Kept [g] w w' := by
  have hPl : P.length = n := by have := h.1; rw [u8s_length] at this; omega
  have HPL := hide hPl
  have HB := hide hb
  have HO := hide h
  have conv : ∀ l : List Nat, u8s l = b8s (l.map fun x : Nat => (x : Int)) := fun l => by simp [u8s, b8s]
  have HCV := hide conv
  clear h hb hPl conv
  go_enter Tryd.func13, Tryd.ntmps13
  go_wp2
  go_loopw [2] (fun i wr => ∃ (k : Nat), k ≤ n ∧ i = .int .i64 k ∧ Hid (wr.ownsRow base 5 1 (.slice (some ⟨g, 0, none⟩) n cap) n (u8s (trn (P.take k) ++ P.drop k)) ∧ Kept [g] w wr)) (fun i _ => n - (intOf i).toNat)
  case atStart => exact ⟨0, by omega, rfl, hide ⟨by simpa [trn] using unhide HO, Kept.refl _ _⟩⟩
  case round =>
    clear HO
    obtain ⟨k, hk, rfl, HI⟩ := hrel
    by_cases hlt : k < n
    · have hkl : k < P.length := by rw [unhide HPL]; exact hlt
      have hx : P[k] < 256 := unhide HB _ (List.getElem_mem hkl)
      have ho := (unhide HI).1
      rw [unhide HCV] at ho
      have hc := ownI_cell ho (k := k) (by simp [trn]; omega)
      have hgd : ((trn (P.take k) ++ P.drop k).map fun x : Nat => (x : Int)).getD k 0 = ((P[k] : Nat) : Int) := by
        have e1 : (trn (P.take k)).length = k := by rw [trn_len]; simp; omega
        have e2 : (trn (P.take k) ++ P.drop k)[k]? = some P[k] := by
          rw [List.getElem?_append_right (by omega), e1, Nat.sub_self, List.getElem?_drop, Nat.add_zero]
          exact List.getElem?_eq_getElem hkl
        rw [List.getD, List.getElem?_map, e2]; rfl
      rw [hgd] at hc
      have hf := ownI_frozen ho k
      have hset := ownI_set ho k ((P[k] ^^^ 85 : Nat) : Int)
      have hlist : ((trn (P.take k) ++ P.drop k).map fun x : Nat => (x : Int)).set k ((P[k] ^^^ 85 : Nat) : Int) = (trn (P.take (k + 1)) ++ P.drop (k + 1)).map fun x : Nat => (x : Int) := by
        have e1 : (trn (P.take k)).length = k := by rw [trn_len]; simp; omega
        have e3 : P.drop k = P[k] :: P.drop (k + 1) := (List.getElem_cons_drop hkl).symm
        have e4 : trn (P.take (k + 1)) = trn (P.take k) ++ [P[k] ^^^ 85] := by rw [List.take_succ_eq_append_getElem hkl, trn, List.map_append]; rfl
        rw [e3, e4, List.map_append, List.set_append_right _ _ (by rw [List.length_map]; omega), List.length_map, e1, Nat.sub_self]
        simp only [List.map_cons, List.set_cons_zero, List.map_append, List.append_assoc, List.cons_append, List.nil_append]
      rw [hlist, ← unhide HCV] at hset
      have hxr := xor85 P[k] hx
      have HST := hide hset
      have HKI := hide (unhide HI).2
      clear ho hgd hset hlist HI
      generalize P[k] = x at *
      generalize hy : x ^^^ 85 = y at *
      clear hy
      go_wp2
      go_roundw
      case rel => exact ⟨k + 1, by omega, by go_num, hide ⟨unhide HST, (unhide HKI).setCell (Or.inl (by simp)) _⟩⟩
      case measure => simp [intOf]; omega
    · have hk2 : k = n := by omega
      subst hk2
      go_wp2
      go_end0
      have h9 := unhide HI
      rw [← unhide HPL, List.take_length, List.drop_length, List.append_nil] at h9
      rw [unhide HPL] at h9
      exact ⟨rfl, h9⟩

/-- 'append([]byte{}, x...)': a twin in new memory. -/
theorem wpList_twin8 {wx : World} {ops : Array Oper} {rest : List Oper} {o : Oper} {a : Act} {Q : Exit → Act → World → Prop} (hgd : o.guard = none) (s x : Operand)
    (ho : o.op = .call { callee := .builtin .append, args := #[s, x], argTypes := #[23, 23] })
    (hs : a.eval s = .slice (some ⟨wx.heap.size, 0, none⟩) 0 0) (xv : Value) (ys : List Nat) (hxv : a.eval x = xv) (hx : Sees wx xv ys) (L : Nat) (hL : ys.length = L) (hl : L ≤ 1000000000000)
    (h : ∀ a' c' w', w'.ownsRow wx.heap.size 5 1 (.slice a' L c') L (u8s ys) → Kept [] wx w' → wpList Tryd.prog ops Q rest (a.put o.dst (.slice a' L c')) w') :
    wpList Tryd.prog ops Q (o :: rest) a (wx.alloc (.cells #[] 5)) := by
  obtain ⟨i0, hi, hz0, hz1, hz2⟩ := info_parts Tryd.info5
  refine wpList_append_sees (wx.alloc (.cells #[] 5)) hgd s x 23 ho wx.heap.size 5 i0 (.int .u8 0) Tryd.underlying23 hi hz0 hz1 hz2 rfl _ [] hs (World.ownsRow_made wx #[] 0 (Nat.le_refl _) (Nat.zero_le _) rfl) xv ys hxv (sees_alloc _ hx) (by simp; omega) (by simp) ?_
  intro v' w' hown hg hat
  rw [List.nil_append, hL] at hown
  obtain ⟨a', c', hv⟩ := own_len hown
  subst hv
  exact h a' c' w' hown (((Kept.refl [] wx).alloc _).grown hg (fun k hk => by simp [Value.ownBlock] at hk; right; omega))

end Go.Proofs.YtfhfkpgfnlmfhabDoor

/- MailOwn: what is known while it goes on. -/
namespace Go.Proofs.YtfhfkpgfnlmfhabDoor
open Go.RowKit

/-- Since w0: rows of the call's own, and messages in their boxes. -/
structure OS (w0 : World) (rows : List (Value × List Nat)) (boxes : List (Nat × Array Value)) (W : World) : Prop where
  kept : Kept [] w0 W
  pool : Pool w0.heap.size W rows
  bx : ∀ x ∈ boxes, Blk W x.1 x.2 30
theorem OS.nth {w0 : World} {rows : List (Value × List Nat)} {boxes : List (Nat × Array Value)} {W : World} (h : OS w0 rows boxes W) {i : Nat} {x : Nat × Array Value} (hi : boxes[i]? = some x) : Blk W x.1 x.2 30 := h.bx x (List.mem_of_getElem? hi)
theorem OS.row {w0 : World} {rows : List (Value × List Nat)} {boxes : List (Nat × Array Value)} {W : World} (h : OS w0 rows boxes W) {i : Nat} {x : Value × List Nat} (hi : rows[i]? = some x) : W.ownsRow w0.heap.size 5 1 x.1 x.2.length (u8s x.2) := h.pool.own x (List.mem_of_getElem? hi)
theorem OS.go {w0 : World} {rows : List (Value × List Nat)} {boxes : List (Nat × Array Value)} {W Y : World} (h : OS w0 rows boxes W) (k : Kept [] W Y) : OS w0 rows boxes Y := ⟨h.kept.step k, h.pool.kept k, fun x hx => (h.bx x hx).kept k (by simp)⟩
theorem OS.join {w0 : World} {rows news : List (Value × List Nat)} {boxes : List (Nat × Array Value)} {W Y : World} (h : OS w0 rows boxes W) (k : Kept [] W Y) (hn : Pool W.heap.size Y news) : OS w0 (news ++ rows) boxes Y := ⟨h.kept.step k, h.pool.join h.kept.size k hn, fun x hx => (h.bx x hx).kept k (by simp)⟩
theorem OS.push {w0 : World} {rows : List (Value × List Nat)} {boxes : List (Nat × Array Value)} {W Y : World} (h : OS w0 rows boxes W) (k : Kept [] W Y) {v : Value} {l : List Nat} (ho : Y.ownsRow W.heap.size 5 1 v l.length (u8s l)) (hl : l.length ≤ 3000000000) : OS w0 ((v, l) :: rows) boxes Y := h.join k (Pool.one ho hl)
theorem OS.box {w0 : World} {rows : List (Value × List Nat)} {boxes : List (Nat × Array Value)} {W : World} (h : OS w0 rows boxes W) (cs : Array Value) : OS w0 rows ((W.heap.size, cs) :: boxes) (W.alloc (.cells cs 30)) := by
  have k := (Kept.refl [] W).alloc (.cells cs 30)
  have g := h.go k
  refine ⟨g.kept, g.pool, fun x hx => ?_⟩
  rcases List.mem_cons.1 hx with rfl | hx
  · exact Blk.new _ _ _
  · exact g.bx x hx
theorem OS.turn {w0 : World} {A B : List (Value × List Nat)} {v : Value} {l l' : List Nat} {boxes : List (Nat × Array Value)} {W Y : World} {g : Nat} (h : OS w0 (A ++ (v, l) :: B) boxes W) (hg : v.ownBlock = some g) (k : Kept [g] W Y) (ho : Y.ownsRow w0.heap.size 5 1 v l'.length (u8s l')) (hl : l'.length = l.length) : OS w0 (A ++ (v, l') :: B) boxes Y := by
  have hr := h.pool.own (v, l) (by simp)
  refine ⟨h.kept.trans k (fun x hx => Or.inr (by simp at hx; subst hx; exact (hr.lt _ hg).1)), h.pool.turn hg k ho hl, fun x hx => (h.bx x hx).kept k (fun hm => ?_)⟩
  simp at hm
  exact own_type hr (h.bx x hx) (by decide) (by rw [hm]; exact hg)
/-- Behind 'apart' over rows of the pool. -/
theorem OS.over {w0 : World} {rows : List (Value × List Nat)} {boxes : List (Nat × Array Value)} {W Y : World} (h : OS w0 rows boxes W) (k : Kept (blocks rows) W Y) : OS w0 [] boxes Y := by
  refine ⟨h.kept.trans k (fun x hx => ?_), Pool.nil _ _, fun x hx => (h.bx x hx).kept k (fun hm => ?_)⟩
  · obtain ⟨r, hr, hb⟩ := List.mem_filterMap.1 hx
    exact Or.inr (h.pool.lt hr hb).1
  · obtain ⟨r, hr, hb⟩ := List.mem_filterMap.1 hm
    exact own_type (h.pool.own r hr) (h.bx x hx) (by decide) hb

theorem OS.mem {w0 : World} {rows : List (Value × List Nat)} {boxes : List (Nat × Array Value)} {W : World} (h : OS w0 rows boxes W) {x : Value × List Nat} (hx : x ∈ rows) : W.ownsRow w0.heap.size 5 1 x.1 x.2.length (u8s x.2) := h.pool.own x hx
theorem OS.wide {w0 : World} {rows : List (Value × List Nat)} {boxes : List (Nat × Array Value)} {W : World} (h : OS w0 rows boxes W) {v : Value} {l : List Nat} (hx : (v, l) ∈ rows) : Wide W v l := Or.inl (Sees.of_own (h.mem hx))
/-- A row written over where it lies, by its place. -/
theorem OS.turnAt {w0 : World} {rows : List (Value × List Nat)} {v : Value} {l l' : List Nat} {boxes : List (Nat × Array Value)} {W Y : World} {g : Nat} (h : OS w0 rows boxes W) (i : Nat) (hi : rows[i]? = some (v, l)) (hg : v.ownBlock = some g) (k : Kept [g] W Y) (ho : Y.ownsRow w0.heap.size 5 1 v l'.length (u8s l')) (hl : l'.length = l.length) : OS w0 (rows.set i (v, l')) boxes Y := by
  obtain ⟨hlt, he⟩ := List.getElem?_eq_some_iff.1 hi
  have e1 : rows = rows.take i ++ (v, l) :: rows.drop (i + 1) := by
    rw [← he, List.getElem_cons_drop, List.take_append_drop]
  rw [List.set_eq_take_append_cons_drop, if_pos hlt]
  rw [e1] at h
  have := h.turn hg k ho hl
  exact this
/-- The five lists of a message. -/
def rows5 (p : Ml) (l : Lm) : List (Value × List Nat) := [(.slice l.ca p.copy.length l.cc, p.copy), (.slice l.ka p.key.length l.kc, p.key), (.slice l.va p.val.length l.vc, p.val), (.slice l.xa p.akey.length l.xc, p.akey), (.slice l.ya p.aval.length l.yc, p.aval)]
theorem rows5_mem {p : Ml} {l : Lm} {o : Nat} (ho : isT o) : (slT l p o, getT p o) ∈ rows5 p l := by
  rcases ho with rfl | rfl | rfl | rfl | rfl
  · exact List.mem_cons_self ..
  · exact List.mem_cons_of_mem _ (List.mem_cons_self ..)
  · exact List.mem_cons_of_mem _ (List.mem_cons_of_mem _ (List.mem_cons_self ..))
  · exact List.mem_cons_of_mem _ (List.mem_cons_of_mem _ (List.mem_cons_of_mem _ (List.mem_cons_self ..)))
  · exact List.mem_cons_of_mem _ (List.mem_cons_of_mem _ (List.mem_cons_of_mem _ (List.mem_cons_of_mem _ (List.mem_cons_self ..))))
theorem rows5_of {p : Ml} {l : Lm} {r : Value × List Nat} (h : r ∈ rows5 p l) : ∃ o, isT o ∧ r = (slT l p o, getT p o) := by
  simp only [rows5, List.mem_cons, List.not_mem_nil, or_false] at h
  rcases h with rfl | rfl | rfl | rfl | rfl
  · exact ⟨6, by simp [isT], rfl⟩
  · exact ⟨10, by simp [isT], rfl⟩
  · exact ⟨11, by simp [isT], rfl⟩
  · exact ⟨15, by simp [isT], rfl⟩
  · exact ⟨16, by simp [isT], rfl⟩
theorem pool5 {base : Nat} {w : World} {p : Ml} {l : Lm} (own : ∀ o, isT o → w.ownsRow base 5 1 (slT l p o) (getT p o).length (u8s (getT p o))) (ap : ∀ o q, isT o → isT q → o ≠ q → ∀ x, (slT l p o).ownBlock = some x → (slT l p q).ownBlock ≠ some x) (hs : snd p = true) : Pool base w (rows5 p l) := by
  have i6 : isT 6 := by simp [isT]
  have i10 : isT 10 := by simp [isT]
  have i11 : isT 11 := by simp [isT]
  have i15 : isT 15 := by simp [isT]
  have i16 : isT 16 := by simp [isT]
  refine ⟨fun r hr => ?_, ?_, fun r hr => ?_⟩
  · obtain ⟨o, ho, rfl⟩ := rows5_of hr
    exact own o ho
  · refine List.pairwise_cons.2 ⟨fun s hs => ?_, List.pairwise_cons.2 ⟨fun s hs => ?_, List.pairwise_cons.2 ⟨fun s hs => ?_, List.pairwise_cons.2 ⟨fun s hs => ?_, List.pairwise_singleton _ _⟩⟩⟩⟩
    · simp only [List.mem_cons, List.not_mem_nil, or_false] at hs
      rcases hs with rfl | rfl | rfl | rfl
      · exact fun b hb => ap 6 10 i6 i10 (by decide) b hb
      · exact fun b hb => ap 6 11 i6 i11 (by decide) b hb
      · exact fun b hb => ap 6 15 i6 i15 (by decide) b hb
      · exact fun b hb => ap 6 16 i6 i16 (by decide) b hb
    · simp only [List.mem_cons, List.not_mem_nil, or_false] at hs
      rcases hs with rfl | rfl | rfl
      · exact fun b hb => ap 10 11 i10 i11 (by decide) b hb
      · exact fun b hb => ap 10 15 i10 i15 (by decide) b hb
      · exact fun b hb => ap 10 16 i10 i16 (by decide) b hb
    · simp only [List.mem_cons, List.not_mem_nil, or_false] at hs
      rcases hs with rfl | rfl
      · exact fun b hb => ap 11 15 i11 i15 (by decide) b hb
      · exact fun b hb => ap 11 16 i11 i16 (by decide) b hb
    · simp only [List.mem_cons, List.not_mem_nil, or_false] at hs
      subst hs
      exact fun b hb => ap 15 16 i15 i16 (by decide) b hb
  · obtain ⟨o, ho, rfl⟩ := rows5_of hr
    have := snd_texts hs o ho
    show (getT p o).length ≤ _
    omega
theorem pool_newM {w W : World} {p : Ml} {l : Lm} (h : NewM w p l W) (hs : snd p = true) : Pool w.heap.size W (rows5 p l) := pool5 (fun o ho => by obtain ⟨a, c, e, ho2⟩ := h.nw o ho; exact ho2) h.ap hs
theorem OS.mw {w0 : World} {rows : List (Value × List Nat)} {boxes : List (Nat × Array Value)} {W : World} (h : OS w0 rows boxes W) {p : Ml} {l : Lm} (hsub : ∀ r ∈ rows5 p l, r ∈ rows) (hl : ∀ o, isT o → (getT p o).length ≤ 140737488355328) (hb : ∀ o, isT o → ∀ x ∈ getT p o, x < 256) (hr : p.root < 18446744073709551616) : MW W p l := ⟨fun _ ho => h.wide (hsub _ (rows5_mem ho)), hl, hb, hr⟩
/-- A message whose lists are turned, k of them. -/
def trnK (p : Ml) (k : Nat) : Ml := { p with copy := if 0 < k then trn p.copy else p.copy, key := if 1 < k then trn p.key else p.key, val := if 2 < k then trn p.val else p.val, akey := if 3 < k then trn p.akey else p.akey, aval := if 4 < k then trn p.aval else p.aval }
def trnM (p : Ml) : Ml := trnK p 5
theorem snd_trn (p : Ml) : snd (trnM p) = snd p := by
  simp [snd, sKind, hand, noCall, noTrans, noCopy, noVerd, sVerd, fitB, opB, ansB, trnM, trnK, trn_len]
theorem mcc_trn (p : Ml) (m : Lm) : mcc (trnM p) m = mcc p m := by simp [mcc, trnM, trnK, trn_len]
theorem trn_texts (p : Ml) : (getT (trnM p) 6 = trn p.copy ∧ getT (trnM p) 10 = trn p.key ∧ getT (trnM p) 11 = trn p.val) ∧ getT (trnM p) 15 = trn p.akey ∧ getT (trnM p) 16 = trn p.aval := ⟨⟨rfl, rfl, rfl⟩, rfl, rfl⟩
theorem trn_byt {p : Ml} (hb : ∀ o, isT o → ∀ x ∈ getT p o, x < 256) : ∀ o, isT o → ∀ x ∈ getT (trnM p) o, x < 256 := by
  rintro o (rfl | rfl | rfl | rfl | rfl)
  · exact trn_by (hb 6 (by simp [isT]))
  · exact trn_by (hb 10 (by simp [isT]))
  · exact trn_by (hb 11 (by simp [isT]))
  · exact trn_by (hb 15 (by simp [isT]))
  · exact trn_by (hb 16 (by simp [isT]))
theorem trn_lens {p : Ml} {n : Nat} (hb : ∀ o, isT o → (getT p o).length ≤ n) : ∀ o, isT o → (getT (trnM p) o).length ≤ n := by
  rintro o (rfl | rfl | rfl | rfl | rfl)
  · rw [(trn_texts p).1.1, trn_len]; exact hb 6 (by simp [isT])
  · rw [(trn_texts p).1.2.1, trn_len]; exact hb 10 (by simp [isT])
  · rw [(trn_texts p).1.2.2, trn_len]; exact hb 11 (by simp [isT])
  · rw [(trn_texts p).2.1, trn_len]; exact hb 15 (by simp [isT])
  · rw [(trn_texts p).2.2, trn_len]; exact hb 16 (by simp [isT])
theorem over_newM {wb W Y : World} {p : Ml} {l : Lm} {rows : List (Value × List Nat)} {base : Nat} (hn : NewM wb p l W) (hp : Pool base wb rows) (k : Kept (blocks rows) W Y) (hm : MW W p l) : MW Y p l := by
  refine ⟨fun o ho => ?_, hm.len, hm.byt, hm.root⟩
  have hv := hn.nw o ho
  have g : ∀ x, (slT l p o).ownBlock = some x → x ∉ blocks rows := fun x hx hmm => by
    obtain ⟨r, hr, hb⟩ := List.mem_filterMap.1 hmm
    have := (hp.lt hr hb).2
    have := (hv.lt hx).1
    omega
  exact (hv.kept k g).wide
end Go.Proofs.YtfhfkpgfnlmfhabDoor

/- MailOwn: lentMail, lists. -/
namespace Go.Proofs.YtfhfkpgfnlmfhabDoor
open Go.RowKit

theorem ret_struct {P : Program} {fn : Func} {R : Ending → World → Prop} {a : Act} {w : World} {p : Tmp} {ty : TypeId} {b : Nat} {cs : Array Value} {fs : Array Field}
    (hr : fn.results = #[.cell p ty]) (hp : a.tmps.getD p undef = .pointer (some ⟨b, 0, none⟩)) (hb : Blk w b cs ty)
    (hu : P.underlying ty = some (.struct fs)) (hi : (P.info? ty).map (·.size) = some cs.size) (hd : a.defers = []) (hR : R (.returned (.agg cs)) w) : bodyPost P fn R .ret a w := by
  refine bodyPost_ret (v := .agg cs) ?_ hd hR
  exact results_cell_row hr a.tmps w b ty cs (0, 0) _ hp hb hu rfl hi
/-- A message being lent: its box, the box of the result. -/
structure LM (w : World) (p : Ml) (l : Lm) (W : World) : Prop where
  blk : Blk W w.heap.size (mcc p l) 30
  res : Blk W (w.heap.size + 1) (mcc zeroM nilM) 30
  kept : Kept [] w W
theorem LM.go {w : World} {p : Ml} {l : Lm} {W Y : World} (h : LM w p l W) (k : Kept [] W Y) : LM w p l Y := ⟨h.blk.kept k (by simp), h.res.kept k (by simp), h.kept.step k⟩
theorem LM.sz {w : World} {p : Ml} {l : Lm} {W : World} (h : LM w p l W) : w.heap.size + 2 ≤ W.heap.size := by have := h.res.lt; omega
theorem LM.begin (w : World) (p : Ml) (l : Lm) : LM w p l ((w.alloc (.cells (mcc p l) 30)).alloc (.cells (mcc zeroM nilM) 30)) := ⟨(Blk.new _ _ _).alloc _, new1 _ _ _ _, ((Kept.refl [] w).alloc _).alloc _⟩
theorem kept_set (W : World) (b o : Nat) (v : Value) : Kept [b] W (W.setCell ⟨b, o, none⟩ v) := (Kept.refl [b] W).setCell (Or.inl (by simp)) _
theorem LM.set6 {w : World} {p : Ml} {l : Lm} {W : World} (h : LM w p l W) (a : Option Addr) (c : Nat) : LM w p { l with ca := a, cc := c } (W.setCell ⟨w.heap.size, 6, none⟩ (.slice a p.copy.length c)) := ⟨by simpa [mcc] using h.blk.set 6 (.slice a p.copy.length c), h.res.kept (kept_set _ _ _ _) (by simp), h.kept.setCell (Or.inr (Nat.le_refl _)) _⟩
theorem LM.set10 {w : World} {p : Ml} {l : Lm} {W : World} (h : LM w p l W) (a : Option Addr) (c : Nat) : LM w p { l with ka := a, kc := c } (W.setCell ⟨w.heap.size, 10, none⟩ (.slice a p.key.length c)) := ⟨by simpa [mcc] using h.blk.set 10 (.slice a p.key.length c), h.res.kept (kept_set _ _ _ _) (by simp), h.kept.setCell (Or.inr (Nat.le_refl _)) _⟩
theorem LM.set11 {w : World} {p : Ml} {l : Lm} {W : World} (h : LM w p l W) (a : Option Addr) (c : Nat) : LM w p { l with va := a, vc := c } (W.setCell ⟨w.heap.size, 11, none⟩ (.slice a p.val.length c)) := ⟨by simpa [mcc] using h.blk.set 11 (.slice a p.val.length c), h.res.kept (kept_set _ _ _ _) (by simp), h.kept.setCell (Or.inr (Nat.le_refl _)) _⟩
theorem LM.set15 {w : World} {p : Ml} {l : Lm} {W : World} (h : LM w p l W) (a : Option Addr) (c : Nat) : LM w p { l with xa := a, xc := c } (W.setCell ⟨w.heap.size, 15, none⟩ (.slice a p.akey.length c)) := ⟨by simpa [mcc] using h.blk.set 15 (.slice a p.akey.length c), h.res.kept (kept_set _ _ _ _) (by simp), h.kept.setCell (Or.inr (Nat.le_refl _)) _⟩
theorem LM.set16 {w : World} {p : Ml} {l : Lm} {W : World} (h : LM w p l W) (a : Option Addr) (c : Nat) : LM w p { l with ya := a, yc := c } (W.setCell ⟨w.heap.size, 16, none⟩ (.slice a p.aval.length c)) := ⟨by simpa [mcc] using h.blk.set 16 (.slice a p.aval.length c), h.res.kept (kept_set _ _ _ _) (by simp), h.kept.setCell (Or.inr (Nat.le_refl _)) _⟩
/-- A list that was lent. -/
def Lnt (w W : World) (g cap : Nat) (P : List Nat) : Prop := w.heap.size + 2 ≤ g ∧ W.ownsRow w.heap.size 5 1 (.slice (some ⟨g, 0, none⟩) P.length cap) P.length (u8s P)
theorem Lnt.kept {w W Y : World} {g cap : Nat} {P : List Nat} (h : Lnt w W g cap P) (k : Kept [] W Y) : Lnt w Y g cap P := ⟨h.1, own_kept h.2 k (by simp)⟩
theorem Lnt.set {w W : World} {g cap : Nat} {P : List Nat} (h : Lnt w W g cap P) (o : Nat) (v : Value) : Lnt w (W.setCell ⟨w.heap.size, o, none⟩ v) g cap P := ⟨h.1, own_kept h.2 (kept_set _ _ _ _) (fun q hq hm => by simp [Value.ownBlock] at hq hm; have := h.1; omega)⟩
theorem lent_at {w W : World} {p : Ml} {l : Lm} (h : LM w p l W) {x : Value} {P : List Nat} (hx : Wide w x P) (hl : P.length ≤ 140737488355326) : Calls Tryd.prog 9 #[x] W fun e w' => ∃ g cap, e = .returned (.slice (some ⟨g, 0, none⟩) P.length cap) ∧ Lnt w w' g cap P ∧ Kept [] W w' ∧ W.heap.size ≤ g ∧ g < w'.heap.size := by
  refine (lent_any (hx.kept h.kept) hl).mono ?_
  rintro e w' ⟨g, cap, rfl, hc, ho, k⟩
  have hg := ho.lt g rfl
  have hsz := h.sz
  exact ⟨g, cap, rfl, ⟨by omega, (lent_parts rfl (own_down ho (by omega))).1⟩, k, hg.1, hg.2⟩
def lnM (g1 c1 g2 c2 g3 c3 g4 c4 g5 c5 : Nat) : Lm := ⟨some ⟨g1, 0, none⟩, c1, some ⟨g2, 0, none⟩, c2, some ⟨g3, 0, none⟩, c3, some ⟨g4, 0, none⟩, c4, some ⟨g5, 0, none⟩, c5⟩
/-- What lentMail answers. -/
def LentP (w : World) (p : Ml) (e : Ending) (w' : World) : Prop := Kept [] w w' ∧ ∃ g1 c1 g2 c2 g3 c3 g4 c4 g5 c5, e = .returned (.agg (mcc p (lnM g1 c1 g2 c2 g3 c3 g4 c4 g5 c5))) ∧ (Lnt w w' g1 c1 p.copy ∧ Lnt w w' g2 c2 p.key ∧ Lnt w w' g3 c3 p.val ∧ Lnt w w' g4 c4 p.akey ∧ Lnt w w' g5 c5 p.aval) ∧ g1 < g2 ∧ g2 < g3 ∧ g3 < g4 ∧ g4 < g5
set_option maxRecDepth 100000 in
set_option maxHeartbeats 3200000 in
theorem lentMail_any {w : World} {p : Ml} {l : Lm} (hm : MW w p l) (hl : ∀ o, isT o → (getT p o).length ≤ 140737488355326) : Calls Tryd.prog 7 #[.agg (mcc p l)] w (LentP w p) := by
  have H0 := hide (LM.begin w p l)
  have HL1 := hide (fun (W : World) (m : Lm) (h : LM w p m W) => lent_at h (hm.wide 6 (by simp [isT])) (hl 6 (by simp [isT])))
  have HL2 := hide (fun (W : World) (m : Lm) (h : LM w p m W) => lent_at h (hm.wide 10 (by simp [isT])) (hl 10 (by simp [isT])))
  have HL3 := hide (fun (W : World) (m : Lm) (h : LM w p m W) => lent_at h (hm.wide 11 (by simp [isT])) (hl 11 (by simp [isT])))
  have HL4 := hide (fun (W : World) (m : Lm) (h : LM w p m W) => lent_at h (hm.wide 15 (by simp [isT])) (hl 15 (by simp [isT])))
  have HL5 := hide (fun (W : World) (m : Lm) (h : LM w p m W) => lent_at h (hm.wide 16 (by simp [isT])) (hl 16 (by simp [isT])))
  clear hm hl
  go_enter Tryd.func7, Tryd.ntmps7
  go_upto_region 1 with fail
  refine world_at (R := fun X => LM w p l X) (unhide H0) ?_
  clear H0
  rintro X0 hx
  have H0 := hide hx
  clear hx
  obtain ⟨d0, d1, d2, d3, d4, d5, d6, d7, d8, d9, d10, d11, d12, d13, d14, d15, d16, d17, d18, d19⟩ := box20 (unhide H0).blk
  go_upto_region 2 with (go_at_call 9; refine (unhide HL1 _ _ (unhide H0)).mono ?_; rintro e w1 ⟨g1, c1, rfl, hn, k, lo, hi⟩; have H1 := hide ((unhide H0).go k); clear d0 d1 d2 d3 d4 d5 d6 d7 d8 d9 d10 d11 d12 d13 d14 d15 d16 d17 d18 d19; obtain ⟨d0, d1, d2, d3, d4, d5, d6, d7, d8, d9, d10, d11, d12, d13, d14, d15, d16, d17, d18, d19⟩ := box20 (unhide H1).blk; have fz := (unhide H1).blk.frozen 6; have HN1 := hide hn; have HG1 := hide (And.intro lo hi); clear hn k lo hi)
  refine world_at (R := fun X => LM w p _ X ∧ Lnt w X g1 c1 p.copy ∧ w1.heap.size ≤ X.heap.size) ⟨(unhide H1).set6 (some ⟨g1, 0, none⟩) c1, (unhide HN1).set 6 _, by simp⟩ ?_
  clear d0 d1 d2 d3 d4 d5 d6 d7 d8 d9 d10 d11 d12 d13 d14 d15 d16 d17 d18 d19 fz
  rintro X1 ⟨hx, x1, xs1⟩
  have H1 := hide hx
  have HN1 := hide x1
  clear hx x1
  obtain ⟨d0, d1, d2, d3, d4, d5, d6, d7, d8, d9, d10, d11, d12, d13, d14, d15, d16, d17, d18, d19⟩ := box20 (unhide H1).blk
  go_upto_region 3 with (go_at_call 9; refine (unhide HL2 _ _ (unhide H1)).mono ?_; rintro e w2 ⟨g2, c2, rfl, hn, k, lo, hi⟩; have H2 := hide ((unhide H1).go k); clear d0 d1 d2 d3 d4 d5 d6 d7 d8 d9 d10 d11 d12 d13 d14 d15 d16 d17 d18 d19; obtain ⟨d0, d1, d2, d3, d4, d5, d6, d7, d8, d9, d10, d11, d12, d13, d14, d15, d16, d17, d18, d19⟩ := box20 (unhide H2).blk; have fz := (unhide H2).blk.frozen 10; have HN2 := hide hn; have HG2 := hide (And.intro lo hi); have HN1 := hide ((unhide HN1).kept k); clear hn k lo hi)
  refine world_at (R := fun X => LM w p _ X ∧ Lnt w X g1 c1 p.copy ∧ Lnt w X g2 c2 p.key ∧ w2.heap.size ≤ X.heap.size) ⟨(unhide H2).set10 (some ⟨g2, 0, none⟩) c2, (unhide HN1).set 10 _, (unhide HN2).set 10 _, by simp⟩ ?_
  clear d0 d1 d2 d3 d4 d5 d6 d7 d8 d9 d10 d11 d12 d13 d14 d15 d16 d17 d18 d19 fz
  rintro X2 ⟨hx, x1, x2, xs2⟩
  have H2 := hide hx
  have HN1 := hide x1
  have HN2 := hide x2
  clear hx x1 x2
  obtain ⟨d0, d1, d2, d3, d4, d5, d6, d7, d8, d9, d10, d11, d12, d13, d14, d15, d16, d17, d18, d19⟩ := box20 (unhide H2).blk
  go_upto_region 4 with (go_at_call 9; refine (unhide HL3 _ _ (unhide H2)).mono ?_; rintro e w3 ⟨g3, c3, rfl, hn, k, lo, hi⟩; have H3 := hide ((unhide H2).go k); clear d0 d1 d2 d3 d4 d5 d6 d7 d8 d9 d10 d11 d12 d13 d14 d15 d16 d17 d18 d19; obtain ⟨d0, d1, d2, d3, d4, d5, d6, d7, d8, d9, d10, d11, d12, d13, d14, d15, d16, d17, d18, d19⟩ := box20 (unhide H3).blk; have fz := (unhide H3).blk.frozen 11; have HN3 := hide hn; have HG3 := hide (And.intro lo hi); have HN1 := hide ((unhide HN1).kept k); have HN2 := hide ((unhide HN2).kept k); clear hn k lo hi)
  refine world_at (R := fun X => LM w p _ X ∧ Lnt w X g1 c1 p.copy ∧ Lnt w X g2 c2 p.key ∧ Lnt w X g3 c3 p.val ∧ w3.heap.size ≤ X.heap.size) ⟨(unhide H3).set11 (some ⟨g3, 0, none⟩) c3, (unhide HN1).set 11 _, (unhide HN2).set 11 _, (unhide HN3).set 11 _, by simp⟩ ?_
  clear d0 d1 d2 d3 d4 d5 d6 d7 d8 d9 d10 d11 d12 d13 d14 d15 d16 d17 d18 d19 fz
  rintro X3 ⟨hx, x1, x2, x3, xs3⟩
  have H3 := hide hx
  have HN1 := hide x1
  have HN2 := hide x2
  have HN3 := hide x3
  clear hx x1 x2 x3
  obtain ⟨d0, d1, d2, d3, d4, d5, d6, d7, d8, d9, d10, d11, d12, d13, d14, d15, d16, d17, d18, d19⟩ := box20 (unhide H3).blk
  go_upto_region 5 with (go_at_call 9; refine (unhide HL4 _ _ (unhide H3)).mono ?_; rintro e w4 ⟨g4, c4, rfl, hn, k, lo, hi⟩; have H4 := hide ((unhide H3).go k); clear d0 d1 d2 d3 d4 d5 d6 d7 d8 d9 d10 d11 d12 d13 d14 d15 d16 d17 d18 d19; obtain ⟨d0, d1, d2, d3, d4, d5, d6, d7, d8, d9, d10, d11, d12, d13, d14, d15, d16, d17, d18, d19⟩ := box20 (unhide H4).blk; have fz := (unhide H4).blk.frozen 15; have HN4 := hide hn; have HG4 := hide (And.intro lo hi); have HN1 := hide ((unhide HN1).kept k); have HN2 := hide ((unhide HN2).kept k); have HN3 := hide ((unhide HN3).kept k); clear hn k lo hi)
  refine world_at (R := fun X => LM w p _ X ∧ Lnt w X g1 c1 p.copy ∧ Lnt w X g2 c2 p.key ∧ Lnt w X g3 c3 p.val ∧ Lnt w X g4 c4 p.akey ∧ w4.heap.size ≤ X.heap.size) ⟨(unhide H4).set15 (some ⟨g4, 0, none⟩) c4, (unhide HN1).set 15 _, (unhide HN2).set 15 _, (unhide HN3).set 15 _, (unhide HN4).set 15 _, by simp⟩ ?_
  clear d0 d1 d2 d3 d4 d5 d6 d7 d8 d9 d10 d11 d12 d13 d14 d15 d16 d17 d18 d19 fz
  rintro X4 ⟨hx, x1, x2, x3, x4, xs4⟩
  have H4 := hide hx
  have HN1 := hide x1
  have HN2 := hide x2
  have HN3 := hide x3
  have HN4 := hide x4
  clear hx x1 x2 x3 x4
  obtain ⟨d0, d1, d2, d3, d4, d5, d6, d7, d8, d9, d10, d11, d12, d13, d14, d15, d16, d17, d18, d19⟩ := box20 (unhide H4).blk
  go_upto_region 6 with (go_at_call 9; refine (unhide HL5 _ _ (unhide H4)).mono ?_; rintro e w5 ⟨g5, c5, rfl, hn, k, lo, hi⟩; have H5 := hide ((unhide H4).go k); clear d0 d1 d2 d3 d4 d5 d6 d7 d8 d9 d10 d11 d12 d13 d14 d15 d16 d17 d18 d19; obtain ⟨d0, d1, d2, d3, d4, d5, d6, d7, d8, d9, d10, d11, d12, d13, d14, d15, d16, d17, d18, d19⟩ := box20 (unhide H5).blk; have fz := (unhide H5).blk.frozen 16; have HN5 := hide hn; have HG5 := hide (And.intro lo hi); have HN1 := hide ((unhide HN1).kept k); have HN2 := hide ((unhide HN2).kept k); have HN3 := hide ((unhide HN3).kept k); have HN4 := hide ((unhide HN4).kept k); clear hn k lo hi)
  refine world_at (R := fun X => LM w p _ X ∧ Lnt w X g1 c1 p.copy ∧ Lnt w X g2 c2 p.key ∧ Lnt w X g3 c3 p.val ∧ Lnt w X g4 c4 p.akey ∧ Lnt w X g5 c5 p.aval ∧ w5.heap.size ≤ X.heap.size) ⟨(unhide H5).set16 (some ⟨g5, 0, none⟩) c5, (unhide HN1).set 16 _, (unhide HN2).set 16 _, (unhide HN3).set 16 _, (unhide HN4).set 16 _, (unhide HN5).set 16 _, by simp⟩ ?_
  clear d0 d1 d2 d3 d4 d5 d6 d7 d8 d9 d10 d11 d12 d13 d14 d15 d16 d17 d18 d19 fz
  rintro X5 ⟨hx, x1, x2, x3, x4, x5, xs5⟩
  have H5 := hide hx
  have HN1 := hide x1
  have HN2 := hide x2
  have HN3 := hide x3
  have HN4 := hide x4
  have HN5 := hide x5
  clear hx x1 x2 x3 x4 x5
  obtain ⟨d0, d1, d2, d3, d4, d5, d6, d7, d8, d9, d10, d11, d12, d13, d14, d15, d16, d17, d18, d19⟩ := box20 (unhide H5).blk
  have HLT : Hid (g1 < g2 ∧ g2 < g3 ∧ g3 < g4 ∧ g4 < g5) := by
    have h1 := unhide HG1; have h2 := unhide HG2; have h3 := unhide HG3; have h4 := unhide HG4; have h5 := unhide HG5
    exact ⟨by omega, by omega, by omega, by omega⟩
  have hm : mcc p { l with ca := some ⟨g1, 0, none⟩, cc := c1, ka := some ⟨g2, 0, none⟩, kc := c2, va := some ⟨g3, 0, none⟩, vc := c3, xa := some ⟨g4, 0, none⟩, xc := c4, ya := some ⟨g5, 0, none⟩, yc := c5 } = mcc p (lnM g1 c1 g2 c2 g3 c3 g4 c4 g5 c5) := rfl
  have hb5 : Blk X5 w.heap.size (mcc p (lnM g1 c1 g2 c2 g3 c3 g4 c4 g5 c5)) 30 := (unhide H5).blk
  have hr5 := (unhide H5).res
  clear d0 d1 d2 d3 d4 d5 d6 d7 d8 d9 d10 d11 d12 d13 d14 d15 d16 d17 d18 d19
  go_wp2_with (first
    | (refine wpList_load_guard 30 _ rfl _ rfl 30 _ (0, 0) _ hb5 Tryd.underlying30 rfl infoMail rfl ?_)
    | (refine wpList_store_row rfl 30 _ _ rfl (w.heap.size + 1) (mcc p (lnM g1 c1 g2 c2 g3 c3 g4 c4 g5 c5)) rfl rfl 30 _ hr5 infoMail rfl (by simp [mcc, Value.oneCell']) ?_))
  refine ret_struct rfl rfl (setRow_heap _ _ _ _ _ _ hr5) Tryd.underlying30 infoMail rfl ?_
  have kr : ∀ cs, Kept [w.heap.size + 1] X5 (X5.setRow (w.heap.size + 1) cs) := fun cs => (Kept.refl [w.heap.size + 1] X5).setRow (Or.inl (by simp)) cs
  have kn : ∀ {g c : Nat} {P : List Nat}, Lnt w X5 g c P → Lnt w (X5.setRow (w.heap.size + 1) (mcc p (lnM g1 c1 g2 c2 g3 c3 g4 c4 g5 c5))) g c P := fun h => ⟨h.1, own_kept h.2 (kr _) (fun q hq hm => by simp [Value.ownBlock] at hq hm; have := h.1; omega)⟩
  exact ⟨(unhide H5).kept.setRow (Or.inr (by omega)) _, g1, c1, g2, c2, g3, c3, g4, c4, g5, c5, rfl, ⟨kn (unhide HN1), kn (unhide HN2), kn (unhide HN3), kn (unhide HN4), kn (unhide HN5)⟩, unhide HLT⟩
/-- The five lists, as lists gives them. -/
def sls (p : Ml) (l : Lm) : List Value := [.slice l.ca p.copy.length l.cc, .slice l.ka p.key.length l.kc, .slice l.va p.val.length l.vc, .slice l.xa p.akey.length l.xc, .slice l.ya p.aval.length l.yc]
set_option maxRecDepth 100000 in
set_option maxHeartbeats 1600000 in
theorem lists_any (w : World) (p : Ml) (l : Lm) : Calls Tryd.prog 12 #[.agg (mcc p l)] w fun e w' => ∃ b, e = .returned (.slice (some ⟨b, 0, none⟩) 5 5) ∧ Blk w' b (sls p l).toArray 23 ∧ w.heap.size ≤ b ∧ Kept [] w w' := by
  go_enter Tryd.func12, Tryd.ntmps12
  go_upto_region 1 with fail
  refine world_at (R := fun X => Blk X w.heap.size (mcc p l) 30 ∧ Kept [] w X) ⟨Blk.new _ _ _, (Kept.refl [] w).alloc _⟩ ?_
  rintro X ⟨hb, hk⟩
  obtain ⟨d0, d1, d2, d3, d4, d5, d6, d7, d8, d9, d10, d11, d12, d13, d14, d15, d16, d17, d18, d19⟩ := box20 hb
  have HK := hide hk
  have hs := hk.size
  clear hb hk
  go_wp2_with fail
  go_ret
  exact ⟨X.heap.size, rfl, Blk.new _ _ _, hs, (unhide HK).alloc _⟩
end Go.Proofs.YtfhfkpgfnlmfhabDoor

/- MailOwn: what its calls say. -/
namespace Go.Proofs.YtfhfkpgfnlmfhabDoor
open Go.RowKit

theorem OS.boxRow {w0 : World} {rows : List (Value × List Nat)} {boxes : List (Nat × Array Value)} {W : World} (h : OS w0 rows boxes W) (z cs : Array Value) : OS w0 rows ((W.heap.size, cs) :: boxes) ((W.alloc (.cells z 30)).setRow W.heap.size cs) := by
  have k : Kept [] W ((W.alloc (.cells z 30)).setRow W.heap.size cs) := ((Kept.refl [] W).alloc (.cells z 30)).setRow (Or.inr (Nat.le_refl _)) cs
  have g := h.go k
  refine ⟨g.kept, g.pool, fun x hx => ?_⟩
  rcases List.mem_cons.1 hx with rfl | hx
  · exact setRow_heap _ _ _ _ _ _ (Blk.new _ _ _)
  · exact g.bx x hx
theorem lentT {w : World} {p : Ml} {l : Lm} (hm : MW w p l) (hs : snd p = true) : Calls Tryd.prog 7 #[.agg (mcc p l)] w fun e w' => ∃ g1 c1 g2 c2 g3 c3 g4 c4 g5 c5, e = .returned (.agg (mcc p (lnM g1 c1 g2 c2 g3 c3 g4 c4 g5 c5))) ∧ Pool w.heap.size w' (rows5 p (lnM g1 c1 g2 c2 g3 c3 g4 c4 g5 c5)) ∧ Kept [] w w' := by
  have ht := snd_texts hs
  refine (lentMail_any hm (fun o ho => by have := ht o ho; omega)).mono ?_
  rintro e w' ⟨k, g1, c1, g2, c2, g3, c3, g4, c4, g5, c5, rfl, ⟨n1, n2, n3, n4, n5⟩, h1, h2, h3, h4⟩
  refine ⟨g1, c1, g2, c2, g3, c3, g4, c4, g5, c5, rfl, pool5 ?_ ?_ hs, k⟩
  · rintro o (rfl | rfl | rfl | rfl | rfl)
    · exact n1.2
    · exact n2.2
    · exact n3.2
    · exact n4.2
    · exact n5.2
  · rintro o q (rfl | rfl | rfl | rfl | rfl) (rfl | rfl | rfl | rfl | rfl) hne x hx hy
    all_goals (simp [slT, lnM, Value.ownBlock] at hx hy hne; try omega)
theorem encT {W : World} {p : Ml} {l : Lm} (ht : Tab W) (hm : MW W p l) (hs : snd p = true) : Calls Tryd.prog 6 #[.agg (mcc p l)] W fun e w' => ∃ a cap, e = .returned (.tuple #[.slice a (enc p).length cap, .int .i64 0]) ∧ w'.ownsRow W.heap.size 5 1 (.slice a (enc p).length cap) (enc p).length (u8s (enc p)) ∧ Kept [] W w' := by
  refine (encode_any W p l ht hm).mono ?_
  rintro e w' ⟨hk, ⟨_, a, cap, rfl, ho⟩ | ⟨hs', _⟩⟩
  · exact ⟨a, cap, rfl, ho, hk⟩
  · rw [hs] at hs'; cases hs'
theorem encO {W : World} {p : Ml} {l : Lm} (ht : Tab W) (hm : MW W p l) : Calls Tryd.prog 6 #[.agg (mcc p l)] W fun e w' => ∃ a n c r, e = .returned (.tuple #[.slice a n c, .int .i64 r]) ∧ Kept [] W w' := by
  refine (encode_any W p l ht hm).mono ?_
  rintro e w' ⟨hk, ⟨_, a, cap, rfl, -⟩ | ⟨-, rfl⟩⟩
  · exact ⟨_, _, _, _, rfl, hk⟩
  · exact ⟨_, _, _, _, rfl, hk⟩
theorem decT {W : World} {x : Value} {p : Ml} (ht : Tab W) (hx : Wide W x (enc p)) (hs : snd p = true) (hr : p.root < 18446744073709551616) (hb : ∀ o, isT o → ∀ x ∈ getT p o, x < 256) : Calls Tryd.prog 10 #[x] W fun e w' => ∃ l, e = .returned (.tuple #[.agg (mcc p l), .int .i64 0]) ∧ NewM W p l w' ∧ Kept [] W w' := by
  have hd := decE_enc hs hr
  refine (decode_any W x (enc p) ht hx (enc_lt hs hr hb)).mono ?_
  rintro e w' ⟨hk, l, rfl, hn⟩
  rw [hd.1, hd.2] at *
  exact ⟨l, rfl, hn, hk⟩
theorem lentB {W : World} {x : Value} {P : List Nat} (hx : Wide W x P) (hl : P.length ≤ 140737488355326) : Calls Tryd.prog 9 #[x] W fun e w' => ∃ g cap, e = .returned (.slice (some ⟨g, 0, none⟩) P.length cap) ∧ w'.ownsRow W.heap.size 5 1 (.slice (some ⟨g, 0, none⟩) P.length cap) P.length (u8s P) ∧ Kept [] W w' := by
  refine (lent_any hx hl).mono ?_
  rintro e w' ⟨g, cap, rfl, -, ho, k⟩
  exact ⟨g, cap, rfl, (lent_parts rfl ho).1, k⟩
/-- The five lists of the message that was lent, k of them turned. -/
def rows5K (p : Ml) (k : Nat) (l : Lm) : List (Value × List Nat) := [(.slice l.ca p.copy.length l.cc, if 0 < k then trn p.copy else p.copy), (.slice l.ka p.key.length l.kc, if 1 < k then trn p.key else p.key), (.slice l.va p.val.length l.vc, if 2 < k then trn p.val else p.val), (.slice l.xa p.akey.length l.xc, if 3 < k then trn p.akey else p.akey), (.slice l.ya p.aval.length l.yc, if 4 < k then trn p.aval else p.aval)]
theorem mw_trn {w0 : World} {rows : List (Value × List Nat)} {boxes : List (Nat × Array Value)} {W : World} {p : Ml} {l : Lm} (h : OS w0 rows boxes W) (hsub : ∀ r ∈ rows5K p 5 l, r ∈ rows) (hl : ∀ o, isT o → (getT p o).length ≤ 262144) (hb : ∀ o, isT o → ∀ x ∈ getT p o, x < 256) (hr : p.root < 18446744073709551616) : MW W (trnM p) l := by
  refine ⟨?_, fun o ho => by have := trn_lens hl o ho; omega, trn_byt hb, hr⟩
  have g : ∀ {v : Value} {P : List Nat}, (v, P) ∈ rows5K p 5 l → Wide W v P := fun hm => h.wide (hsub _ hm)
  rintro o (rfl | rfl | rfl | rfl | rfl)
  · show Wide W (.slice l.ca (trn p.copy).length l.cc) (trn p.copy)
    rw [trn_len]; exact g (by simp [rows5K])
  · show Wide W (.slice l.ka (trn p.key).length l.kc) (trn p.key)
    rw [trn_len]; exact g (by simp [rows5K])
  · show Wide W (.slice l.va (trn p.val).length l.vc) (trn p.val)
    rw [trn_len]; exact g (by simp [rows5K])
  · show Wide W (.slice l.xa (trn p.akey).length l.xc) (trn p.akey)
    rw [trn_len]; exact g (by simp [rows5K])
  · show Wide W (.slice l.ya (trn p.aval).length l.yc) (trn p.aval)
    rw [trn_len]; exact g (by simp [rows5K])
theorem same_rfl {w : World} {x y : Value} {ps : List Nat} (h1 : Wide w x ps) (h2 : Wide w y ps) (hl : ps.length ≤ 140737488355328) : Calls Tryd.prog 8 #[x, y] w fun e w' => e = .returned (.bool true) ∧ Kept [] w w' := by
  have h := same_full h1 h2 hl
  rw [decide_eq_true rfl] at h
  exact h
theorem own_blk {w : World} {base b : Nat} {vs : List Value} {n : Nat} (hn : vs.length = n) (hb : Blk w b vs.toArray 23) (hbase : base ≤ b) (hm : n ≤ 1000) : w.ownsRow base 23 1 (.slice (some ⟨b, 0, none⟩) n n) n vs := by
  refine ⟨by omega, .inr ⟨b, n, vs.toArray, rfl, hbase, hb, Nat.le_refl _, by unfold maxLen; omega, by simp; omega, by simp [← hn]⟩⟩
theorem blk_own {w : World} {base n : Nat} {v : Value} {vs : List Value} (h : w.ownsRow base 23 1 v n vs) (hn : 0 < n) : ∃ b cap cs, v = .slice (some ⟨b, 0, none⟩) n cap ∧ base ≤ b ∧ Blk w b cs 23 ∧ ∀ i, i < n → cs[i]? = vs[i]? := by
  have hl := h.1
  rcases h.2 with ⟨_, h2⟩ | ⟨g, cap, cur, hv, hb, hg, hc, hm, hs, ht⟩
  · omega
  · refine ⟨g, cap, cur, hv, hb, hg, fun i hi => ?_⟩
    rw [← ht, List.getElem?_take_of_lt (by omega)]
    simp
end Go.Proofs.YtfhfkpgfnlmfhabDoor

/- MailOwn. -/
namespace Go.Proofs.YtfhfkpgfnlmfhabDoor
open Go.RowKit

set_option maxRecDepth 100000 in
set_option maxHeartbeats 1600000 in
theorem own_no (w : World) (p q : Ml) (l mo : Lm) (ht : Tab w) (h1 : MW w p l) (h2 : MW w q mo) (hl : ∀ o, isT o → (getT p o).length ≤ 140737488355326) (hs : snd p = false) : Calls Tryd.prog 4 #[mv p l, mv q mo] w fun e w' => e = .returned (.bool true) ∧ Kept [] w w' := by
  have HT := hide (fun W (k : Kept [] w W) => ht.kept k (by simp))
  have HMp := hide (fun W (k : Kept [] w W) => h1.kept k)
  have HMq := hide (fun W (k : Kept [] w W) => h2.kept k)
  have HL := hide hl
  have HS := hide hs
  clear ht h1 h2 hl hs
  unfold mv
  go_enter Tryd.func4, Tryd.ntmps4
  go_upto_region 1 with fail
  refine world_at (R := fun X => OS w [] [(w.heap.size + 1, mcc q mo), (w.heap.size, mcc p l)] X) ⟨((Kept.refl [] w).alloc _).alloc _, Pool.nil _ _, fun x hx => by simp at hx; rcases hx with rfl | rfl; exact new1 _ _ _ _; exact (Blk.new _ _ _).alloc _⟩ ?_
  rintro X0 hx
  have H0 := hide hx
  clear hx
  go_upto_region 4 with (first
    | (go_at_call 5; refine (awake_any _ (unhide HT _ (unhide H0).kept)).mono ?_; rintro e w1 ⟨rfl, k⟩; have H1 := hide ((unhide H0).go k); clear k H0)
    | (refine wpList_load_guard 30 _ rfl _ rfl 30 _ (0, 0) _ ((unhide H1).nth (i := 1) rfl) Tryd.underlying30 rfl infoMail rfl ?_)
    | (go_at_call 7; refine (lentMail_any (unhide HMp _ (unhide H1).kept) (unhide HL)).mono ?_; rintro e w2 ⟨k, g1, c1, g2, c2, g3, c3, g4, c4, g5, c5, rfl, hn, -⟩; have H2 := hide ((unhide H1).go k); have HN := hide hn; clear k hn H1)
    | (refine wpList_store_row rfl 30 _ _ rfl _ (mcc p (lnM g1 c1 g2 c2 g3 c3 g4 c4 g5 c5)) rfl rfl 30 _ (Blk.new w2 _ _) infoMail rfl (by simp [mcc, Value.oneCell']) ?_; refine world_at (R := fun X => OS w [] ((w2.heap.size, mcc p (lnM g1 c1 g2 c2 g3 c3 g4 c4 g5 c5)) :: [(w.heap.size + 1, mcc q mo), (w.heap.size, mcc p l)]) X ∧ Kept [] w2 X) ⟨(unhide H2).boxRow _ _, ((Kept.refl [] w2).alloc _).setRow (Or.inr (Nat.le_refl _)) _⟩ ?_; rintro X3 ⟨hx3, k3⟩; have H3 := hide hx3; have K3 := hide k3; clear hx3 k3 H2))
  have HM3 : Hid (MW X3 p (lnM g1 c1 g2 c2 g3 c3 g4 c4 g5 c5)) := by
    obtain ⟨n1, n2, n3, n4, n5⟩ := unhide HN
    refine ⟨?_, fun o ho => by have := unhide HL o ho; omega, (unhide HMp _ (Kept.refl _ _)).byt, (unhide HMp _ (Kept.refl _ _)).root⟩
    have kw := unhide K3
    rintro o (rfl | rfl | rfl | rfl | rfl)
    · exact Or.inl (Sees.of_own (n1.kept kw).2)
    · exact Or.inl (Sees.of_own (n2.kept kw).2)
    · exact Or.inl (Sees.of_own (n3.kept kw).2)
    · exact Or.inl (Sees.of_own (n4.kept kw).2)
    · exact Or.inl (Sees.of_own (n5.kept kw).2)
  clear HN K3
  go_upto_region 5 with (first
    | (refine wpList_load_guard 30 _ rfl _ rfl 30 _ (0, 0) _ ((unhide H3).nth (i := 0) rfl) Tryd.underlying30 rfl infoMail rfl ?_)
    | (go_at_call 6; refine (enc_bad (unhide HT _ (unhide H3).kept) (unhide HM3) (unhide HS)).mono ?_; rintro e w4 ⟨rfl, k⟩; have H4 := hide ((unhide H3).go k); have HM4 := hide ((unhide HM3).kept k); clear k H3 HM3))
  go_upto_region 6 with (first
    | (refine wpList_load_guard 30 _ rfl _ rfl 30 _ (0, 0) _ ((unhide H4).nth (i := 1) rfl) Tryd.underlying30 rfl infoMail rfl ?_)
    | (go_at_call 6; refine (encO (unhide HT _ (unhide H4).kept) (unhide HMq _ (unhide H4).kept)).mono ?_; rintro e w5 ⟨a5, n5, c5', r5, rfl, k⟩; have H5 := hide ((unhide H4).go k); have HM5 := hide ((unhide HM4).kept k); clear k H4 HM4))
  go_upto_region 7 with (first
    | (refine wpList_load_guard 30 _ rfl _ rfl 30 _ (0, 0) _ ((unhide H5).nth (i := 0) rfl) Tryd.underlying30 rfl infoMail rfl ?_)
    | (go_at_call 6; refine (enc_bad (unhide HT _ (unhide H5).kept) (unhide HM5) (unhide HS)).mono ?_; rintro e w6 ⟨rfl, k⟩; have H6 := hide ((unhide H5).go k); clear k H5 HM5))
  go_wp2_with (go_at_call 8; refine (same_full (ps := []) (bs := []) (Or.inl (Or.inl ⟨rfl, rfl⟩)) (Or.inl (Or.inl ⟨rfl, rfl⟩)) (by simp)).mono ?_; rintro e w7 ⟨rfl, k⟩; rw [decide_eq_true rfl]; have HKZ := hide ((unhide H6).kept.step k); clear k)
  all_goals
    go_ret
    exact ⟨rfl, unhide HKZ⟩
end Go.Proofs.YtfhfkpgfnlmfhabDoor
