/- Texts laid one behind the other: XU3 XU4 XU5 XU6 XU7 XU8 MAwP MSum MEq XD2 XD3 MAwk MDec RCr RSm RSo RS0 RS1 RS2n RS3 RS4. -/
import Derived.Test.YtfhfkpgfnlmfhaaDoorPkBC
import Derived.Test.YtfhfkpgfnlmfhaaDoorPkBA
import Derived.Test.YtfhfkpgfnlmfhaaDoorPkY
import Derived.Deep.RegionHeld3
/- And back: bytes that are decoded are the form of what they are decoded to. -/
namespace Go.Proofs.YtfhfkpgfnlmfhaaDoor
open Go.RowKit

theorem read_one (l : List Nat) : ∀ (k acc n : Nat) (r : List Nat), (∀ x ∈ l, x < 256) → readNum k acc l = .inr (n, r) → ∃ m, n = acc + m * 128 ^ k ∧ l = form m ++ r ∧ (0 < k → 0 < m) := by
  induction l with
  | nil => intro k acc n r _ h; simp [readNum] at h
  | cons x l ih =>
    intro k acc n r hl h
    have hx := hl x (by simp)
    rw [readNum] at h
    split at h
    · cases h
    · split at h
      · rename_i h8
        split at h
        · cases h
        · rename_i h0
          cases h
          exact ⟨x, rfl, by rw [form_small h8]; rfl, fun hk => by omega⟩
      · rename_i h8
        obtain ⟨m, h1, h2, h3⟩ := ih (k + 1) _ n r (fun y hy => hl y (by simp [hy])) h
        have h4 := h3 (by omega)
        refine ⟨x % 128 + 128 * m, ?_, ?_, fun _ => by omega⟩
        · rw [h1, Nat.pow_succ, Nat.add_mul]
          have : m * (128 ^ k * 128) = 128 * m * 128 ^ k := by rw [Nat.mul_comm (128 ^ k), ← Nat.mul_assoc, Nat.mul_comm m]
          omega
        · rw [form_big (by omega), h2]
          have e1 : (x % 128 + 128 * m) % 128 + 128 = x := by omega
          have e2 : (x % 128 + 128 * m) / 128 = m := by omega
          rw [e1, e2]; rfl
theorem read_one0 {l r : List Nat} {n : Nat} (hl : ∀ x ∈ l, x < 256) (h : readNum 0 0 l = .inr (n, r)) : l = form n ++ r := by
  obtain ⟨m, h1, h2, _⟩ := read_one l 0 0 n r hl h
  have : n = m := by simp at h1; exact h1
  rw [this]; exact h2
theorem toI_back {n : Nat} (h : n < 18446744073709551616) (h0 : 0 ≤ toI n) : (toI n).toNat = n := by
  have h1 : toI n = if n < 9223372036854775808 then (n : Int) else (n : Int) - 18446744073709551616 := by
    unfold toI wrap64
    split <;> omega
  rw [h1] at h0 ⊢
  split at h0
  · rw [if_pos (by assumption)]; omega
  · omega
theorem rByte_B {l : List Nat} (hf : (rByte (rG l)).1.fault = 0) : ∃ l', l = (rByte (rG l)).2 :: l' ∧ (rByte (rG l)).1 = rG l' := by
  cases l with
  | nil => simp [rByte, rG, rF] at hf
  | cons x l => exact ⟨l, rfl, rfl⟩
theorem rNum_B {l : List Nat} (hl : ∀ x ∈ l, x < 256) (hf : (rNum (rG l)).1.fault = 0) : ∃ l', l = form (rNum (rG l)).2 ++ l' ∧ (rNum (rG l)).1 = rG l' ∧ (rNum (rG l)).2 < 18446744073709551616 := by
  have e : rNum (rG l) = match readNum 0 0 l with
    | .inl c => (rF c, 0)
    | .inr (n, r) => (⟨0, r, []⟩, n) := by unfold rNum rG; rw [if_neg (by simp)]; rfl
  cases hr : readNum 0 0 l with
  | inl c =>
    rw [e, hr] at hf
    have hc : c = 0 := hf
    rcases readNum_code _ _ _ hr with h | h <;> omega
  | inr q =>
    obtain ⟨n, r⟩ := q
    rw [e, hr]
    exact ⟨r, read_one0 hl hr, rfl, (readNum_lt _ 0 0 (by omega) (by simp) hl hr).1⟩
theorem rFixed_B {l : List Nat} (hl : ∀ x ∈ l, x < 256) (hf : (rFixed (rG l) 8).1.fault = 0) : ∃ l', l = le (rFixed (rG l) 8).2 8 ++ l' ∧ (rFixed (rG l) 8).1 = rG l' := by
  have e : rFixed (rG l) 8 = if (l.length : Int) < 8 then (rF 10, 0) else (⟨0, l.drop 8, []⟩, leV (l.take 8)) := by
    unfold rFixed rG
    rw [if_neg (by simp), if_neg (by omega)]
    rfl
  by_cases h : (l.length : Int) < 8
  · rw [e, if_pos h] at hf; cases hf
  · rw [e, if_neg h]
    refine ⟨l.drop 8, ?_, rfl⟩
    have h1 := le_leV (l.take 8) (fun x hx => hl x (List.mem_of_mem_take hx))
    rw [show (l.take 8).length = 8 by simp; omega] at h1
    show l = le (leV (l.take 8)) 8 ++ l.drop 8
    rw [h1, List.take_append_drop]
theorem rText_B {l : List Nat} (hl : ∀ x ∈ l, x < 256) (hf : (rText (rG l) 524288).1.fault = 0) : ∃ l', l = form (rText (rG l) 524288).2.length ++ ((rText (rG l) 524288).2 ++ l') ∧ (rText (rG l) 524288).1 = rG l' := by
  have e : rText (rG l) 524288 = match readNum 0 0 l with
    | .inl c => (rF c, [])
    | .inr (n, r) => if (524288 : Int).toNat < n then (rF 11, []) else if r.length < n then (rF 10, []) else (⟨0, r.drop n, []⟩, r.take n) := by unfold rText rG; rw [if_neg (by simp)]; rfl
  cases hr : readNum 0 0 l with
  | inl c =>
    rw [e, hr] at hf
    have hc : c = 0 := hf
    rcases readNum_code _ _ _ hr with h | h <;> omega
  | inr q =>
    obtain ⟨n, r⟩ := q
    have e2 : rText (rG l) 524288 = if (524288 : Int).toNat < n then (rF 11, []) else if r.length < n then (rF 10, []) else (⟨0, r.drop n, []⟩, r.take n) := by rw [e, hr]
    by_cases h1 : (524288 : Int).toNat < n
    · rw [e2, if_pos h1] at hf; cases hf
    · by_cases h2 : r.length < n
      · rw [e2, if_neg h1, if_pos h2] at hf; cases hf
      · rw [e2, if_neg h1, if_neg h2]
        refine ⟨r.drop n, ?_, rfl⟩
        show l = form (r.take n).length ++ (r.take n ++ r.drop n)
        rw [show (r.take n).length = n by simp; omega, List.take_append_drop]
        exact read_one0 hl hr
/-- The cell of a piece; is it one. -/
def cellP : Pc → Nat
  | .byte o => o
  | .num o => o
  | .flag => 14
  | .root => 5
  | .text o => o
def wfP : Pc → Prop
  | .byte o => isN o
  | .num o => isN o
  | .flag => True
  | .root => True
  | .text o => isT o
theorem getN_set {p : Ml} {n : Int} {o : Nat} (h : isN o) : getN (setN p n o) o = n := by
  rcases h with rfl | rfl | rfl | rfl | rfl | rfl | rfl | rfl | rfl | rfl | rfl | rfl <;> rfl
theorem getT_set {p : Ml} {t : List Nat} {o : Nat} (h : isT o) : getT (setT p t o) o = t := by
  rcases h with rfl | rfl | rfl | rfl | rfl <;> rfl
theorem getN_other {p : Ml} {n : Int} {o q : Nat} (h : isN o) (h2 : isN q) (hne : o ≠ q) : getN (setN p n o) q = getN p q := by
  rcases h with rfl | rfl | rfl | rfl | rfl | rfl | rfl | rfl | rfl | rfl | rfl | rfl <;> rcases h2 with rfl | rfl | rfl | rfl | rfl | rfl | rfl | rfl | rfl | rfl | rfl | rfl <;> first | rfl | exact absurd rfl hne
theorem getT_other {p : Ml} {t : List Nat} {o q : Nat} (h : isT o) (h2 : isT q) (hne : o ≠ q) : getT (setT p t o) q = getT p q := by
  rcases h with rfl | rfl | rfl | rfl | rfl <;> rcases h2 with rfl | rfl | rfl | rfl | rfl <;> first | rfl | exact absurd rfl hne
theorem getT_setN {p : Ml} {n : Int} {o q : Nat} (h : isN o) : getT (setN p n o) q = getT p q := by
  rcases h with rfl | rfl | rfl | rfl | rfl | rfl | rfl | rfl | rfl | rfl | rfl | rfl <;> rfl
theorem getN_setT {p : Ml} {t : List Nat} {o q : Nat} (h : isT o) : getN (setT p t o) q = getN p q := by
  rcases h with rfl | rfl | rfl | rfl | rfl <;> rfl
theorem setN_root {p : Ml} {n : Int} {o : Nat} (h : isN o) : (setN p n o).root = p.root ∧ (setN p n o).done = p.done := by
  rcases h with rfl | rfl | rfl | rfl | rfl | rfl | rfl | rfl | rfl | rfl | rfl | rfl <;> exact ⟨rfl, rfl⟩
theorem setT_root {p : Ml} {t : List Nat} {o : Nat} (h : isT o) : (setT p t o).root = p.root ∧ (setT p t o).done = p.done := by
  rcases h with rfl | rfl | rfl | rfl | rfl <;> exact ⟨rfl, rfl⟩
/-- A piece taken up leaves the others' forms. -/
theorem encP_other {s : Rdm} {c d : Pc} (hc : wfP c) (hd : wfP d) (hne : cellP c ≠ cellP d) : encP (takP s c).ml d = encP s.ml d := by
  cases c with
  | byte o =>
    simp only [takP]
    cases d with
    | byte q => simp only [encP, getN_other hc hd hne]
    | num q => simp only [encP, getN_other hc hd hne]
    | flag => simp only [encP, (setN_root hc).2]
    | root => simp only [encP, (setN_root hc).1]
    | text q => simp only [encP, getT_setN hc]
  | num o =>
    simp only [takP]
    cases d with
    | byte q => simp only [encP, getN_other hc hd hne]
    | num q => simp only [encP, getN_other hc hd hne]
    | flag => simp only [encP, (setN_root hc).2]
    | root => simp only [encP, (setN_root hc).1]
    | text q => simp only [encP, getT_setN hc]
  | flag =>
    cases d with
    | flag => exact absurd rfl hne
    | _ => rfl
  | root =>
    cases d with
    | root => exact absurd rfl hne
    | _ => rfl
  | text o =>
    simp only [takP]
    cases d with
    | byte q => simp only [encP, getN_setT hc]
    | num q => simp only [encP, getN_setT hc]
    | flag => simp only [encP, (setT_root hc).2]
    | root => simp only [encP, (setT_root hc).1]
    | text q => simp only [encP, getT_other hc hd hne]
end Go.Proofs.YtfhfkpgfnlmfhaaDoor

/- And back, for all of a message. -/
namespace Go.Proofs.YtfhfkpgfnlmfhaaDoor
open Go.RowKit

theorem fault_stays {s : Rdm} {c : Pc} (h : s.rs.fault ≠ 0) : (takP s c).rs = s.rs := by
  cases c with
  | byte o => simp only [takP]; unfold rByte; rw [if_pos h]
  | num o => simp only [takP]; unfold rNum; rw [if_pos h]
  | flag => simp only [takP]; unfold rByte; rw [if_pos h]
  | root => simp only [takP]; unfold rFixed; rw [if_pos h]
  | text o => simp only [takP]; unfold rText; rw [if_pos h]
theorem fault_stays_L (ks : List Pc) : ∀ (s : Rdm), s.rs.fault ≠ 0 → (takL s ks).rs = s.rs := by
  induction ks with
  | nil => intro s _; rfl
  | cons c ks ih =>
    intro s h
    have h1 := fault_stays (c := c) h
    show (takL (takP s c) ks).rs = s.rs
    rw [ih (takP s c) (by rw [h1]; exact h), h1]
theorem odd_stays (ks : List Pc) : ∀ (s : Rdm), Pc.flag ∉ ks → (takL s ks).odd = s.odd := by
  induction ks with
  | nil => intro s _; rfl
  | cons c ks ih =>
    intro s h
    simp only [List.mem_cons, not_or] at h
    show (takL (takP s c) ks).odd = s.odd
    rw [ih _ h.2]
    cases c with
    | flag => exact absurd rfl h.1
    | _ => rfl
/-- One piece, read without a fault and fit: what was there is its form. -/
theorem takP_B {l : List Nat} {q : Ml} {od : Bool} {c : Pc} (hl : ∀ x ∈ l, x < 256) (hw : wfP c) (hf : (takP ⟨rG l, q, od⟩ c).rs.fault = 0) (hn : ∀ o, c = .num o → 0 ≤ getN (takP ⟨rG l, q, od⟩ c).ml o) (ho : c = .flag → (takP ⟨rG l, q, od⟩ c).odd = false) : ∃ l', (takP ⟨rG l, q, od⟩ c).rs = rG l' ∧ l = encP (takP ⟨rG l, q, od⟩ c).ml c ++ l' := by
  cases c with
  | byte o =>
    simp only [takP] at hf ⊢
    obtain ⟨l', h1, h2⟩ := rByte_B hf
    refine ⟨l', h2, ?_⟩
    simp only [encP, getN_set hw]
    rw [show (((rByte (rG l)).2 : Nat) : Int).toNat = (rByte (rG l)).2 from rfl]
    exact h1
  | num o =>
    have hn2 := hn o rfl
    simp only [takP] at hf hn2 ⊢
    obtain ⟨l', h1, h2, h3⟩ := rNum_B hl hf
    refine ⟨l', h2, ?_⟩
    rw [getN_set hw] at hn2
    simp only [encP, getN_set hw, toI_back h3 hn2]
    exact h1
  | flag =>
    have ho2 := ho rfl
    simp only [takP] at hf ho2 ⊢
    obtain ⟨l', h1, h2⟩ := rByte_B hf
    refine ⟨l', h2, ?_⟩
    have h3 : ¬ 1 < (rByte (rG l)).2 := by simpa using ho2
    simp only [encP]
    generalize (rByte (rG l)).2 = x at h1 h3
    rw [h1]
    by_cases hx : x = 1
    · simp [hx]
    · simp [hx]; omega
  | root =>
    simp only [takP] at hf ⊢
    obtain ⟨l', h1, h2⟩ := rFixed_B hl hf
    exact ⟨l', h2, h1⟩
  | text o =>
    simp only [takP] at hf ⊢
    obtain ⟨l', h1, h2⟩ := rText_B hl hf
    refine ⟨l', h2, ?_⟩
    simp only [encP, getT_set hw, List.append_assoc]
    exact h1
theorem takL_other : ∀ (ks : List Pc) (s : Rdm) (d : Pc), (∀ c ∈ ks, wfP c) → wfP d → (∀ c ∈ ks, cellP c ≠ cellP d) → encP (takL s ks).ml d = encP s.ml d
  | [], _, _, _, _, _ => rfl
  | c :: ks, s, d, hw, hd, hne => by
    show encP (takL (takP s c) ks).ml d = encP s.ml d
    rw [takL_other ks (takP s c) d (fun x hx => hw x (by simp [hx])) hd (fun x hx => hne x (by simp [hx]))]
    exact encP_other (hw c (by simp)) hd (hne c (by simp))
theorem num_other : ∀ (ks : List Pc) (s : Rdm) (o : Nat), (∀ c ∈ ks, wfP c) → isN o → (∀ c ∈ ks, cellP c ≠ o) → getN (takL s ks).ml o = getN s.ml o
  | [], _, _, _, _, _ => rfl
  | c :: ks, s, o, hw, ho, hne => by
    show getN (takL (takP s c) ks).ml o = getN s.ml o
    rw [num_other ks (takP s c) o (fun x hx => hw x (by simp [hx])) ho (fun x hx => hne x (by simp [hx]))]
    have h1 := hw c (by simp)
    have h2 := hne c (by simp)
    cases c with
    | byte q => exact getN_other h1 ho h2
    | num q => exact getN_other h1 ho h2
    | flag => rcases ho with rfl | rfl | rfl | rfl | rfl | rfl | rfl | rfl | rfl | rfl | rfl | rfl <;> rfl
    | root => rcases ho with rfl | rfl | rfl | rfl | rfl | rfl | rfl | rfl | rfl | rfl | rfl | rfl <;> rfl
    | text q => exact getN_setT h1
theorem takL_B : ∀ (ks : List Pc) (l : List Nat) (q : Ml) (od : Bool), (∀ x ∈ l, x < 256) → (∀ c ∈ ks, wfP c) → (ks.map cellP).Nodup → (takL ⟨rG l, q, od⟩ ks).rs.fault = 0 → (∀ o, Pc.num o ∈ ks → 0 ≤ getN (takL ⟨rG l, q, od⟩ ks).ml o) → (Pc.flag ∈ ks → (takL ⟨rG l, q, od⟩ ks).odd = false) →
    ∃ l', (takL ⟨rG l, q, od⟩ ks).rs = rG l' ∧ l = encL (takL ⟨rG l, q, od⟩ ks).ml ks ++ l'
  | [], l, _, _, _, _, _, _, _, _ => ⟨l, rfl, rfl⟩
  | c :: ks, l, q, od, hl, hw, hnd, hf, hn, ho => by
    have e0 : takL ⟨rG l, q, od⟩ (c :: ks) = takL (takP ⟨rG l, q, od⟩ c) ks := rfl
    rw [e0] at hf hn ho ⊢
    rw [List.map_cons, List.nodup_cons] at hnd
    have hne : ∀ d ∈ ks, cellP d ≠ cellP c := fun d hd e => hnd.1 (by rw [← e]; exact List.mem_map_of_mem hd)
    have hwk : ∀ d ∈ ks, wfP d := fun d hd => hw d (by simp [hd])
    have hwc := hw c (by simp)
    have hf1 : (takP ⟨rG l, q, od⟩ c).rs.fault = 0 := by
      rcases Nat.eq_zero_or_pos (takP ⟨rG l, q, od⟩ c).rs.fault with h | h
      · exact h
      · have := fault_stays_L ks _ (show (takP ⟨rG l, q, od⟩ c).rs.fault ≠ 0 by omega)
        rw [this] at hf; exact hf
    obtain ⟨l1, g1, g2⟩ := takP_B hl hwc hf1 (fun o e => by
      subst e
      have h1 := hn o (by simp)
      rw [num_other ks _ o hwk hwc hne] at h1
      exact h1) (fun e => by
      subst e
      have h1 := ho (by simp)
      rw [odd_stays ks _ (fun hm => hne _ hm rfl)] at h1
      exact h1)
    have hl1 : ∀ x ∈ l1, x < 256 := fun x hx => hl x (by rw [g2]; simp [hx])
    have ec : encP (takL (takP ⟨rG l, q, od⟩ c) ks).ml c = encP (takP ⟨rG l, q, od⟩ c).ml c := takL_other ks _ c hwk hwc hne
    have e1 : takP ⟨rG l, q, od⟩ c = ⟨rG l1, (takP ⟨rG l, q, od⟩ c).ml, (takP ⟨rG l, q, od⟩ c).odd⟩ := by rw [← g1]
    rw [e1] at hf hn ho
    obtain ⟨l2, k1, k2⟩ := takL_B ks l1 _ _ hl1 hwk hnd.2 hf (fun o hm => hn o (by simp [hm])) (fun hm => ho (by simp [hm]))
    rw [← e1] at k1 k2
    refine ⟨l2, k1, ?_⟩
    rw [encL_cons, ec, List.append_assoc, ← k2]
    exact g2
end Go.Proofs.YtfhfkpgfnlmfhaaDoor

/- One form: what is decoded is the form of what it is decoded to. -/
namespace Go.Proofs.YtfhfkpgfnlmfhaaDoor
open Go.RowKit

theorem takL_append (s : Rdm) (a b : List Pc) : takL s (a ++ b) = takL (takL s a) b := by
  unfold takL
  rw [List.foldl_append]
theorem mem_mid {p : Ml} {c : Pc} (h : c ∈ mid p) : (c = .num 8 ∨ c = .num 13 ∨ c = .num 4 ∨ c = .root ∨ c = .text 6) ∨ (c = .byte 9 ∨ c = .text 10) := by
  unfold mid at h
  split at h
  · simp at h; rcases h with rfl | rfl | rfl <;> simp
  · split at h
    · simp at h; rcases h with rfl | rfl <;> simp
    · split at h
      · simp at h; rcases h with rfl | rfl | rfl <;> simp
      · simp at h; subst h; simp
theorem mem_fin {p : Ml} {c : Pc} (h : c ∈ fin p) : c = .text 11 ∨ c = .num 12 ∨ c = .flag ∨ c = .text 15 ∨ c = .text 16 ∨ c = .num 17 ∨ c = .num 18 ∨ c = .byte 19 := by
  unfold fin at h
  split at h
  · split at h
    · simp at h; subst h; simp
    · split at h
      · simp at h; rcases h with rfl | rfl <;> simp
      · simp at h
  · split at h
    · split at h
      · simp at h; rcases h with rfl | rfl | rfl | rfl | rfl <;> simp
      · split at h
        · simp at h; subst h; simp
        · simp at h
    · simp at h
theorem wf_pieces (p : Ml) : (∀ c ∈ hd, wfP c) ∧ (∀ c ∈ mid p, wfP c) ∧ (∀ c ∈ fin p, wfP c) := by
  refine ⟨fun c hc => ?_, fun c hc => ?_, fun c hc => ?_⟩
  · simp [hd] at hc; rcases hc with rfl | rfl | rfl | rfl <;> simp [wfP, isN]
  · rcases mem_mid hc with (rfl | rfl | rfl | rfl | rfl) | (rfl | rfl) <;> simp [wfP, isN, isT]
  · rcases mem_fin hc with rfl | rfl | rfl | rfl | rfl | rfl | rfl | rfl <;> simp [wfP, isN, isT]
/-- What stands in a later part does not turn what was looked at. -/
theorem kind_mid (s : Rdm) (q : Ml) : (takL s (mid q)).ml.kind = s.ml.kind :=
  num_other (mid q) s 0 (wf_pieces q).2.1 (by simp [isN]) (fun c hc => by rcases mem_mid hc with (rfl | rfl | rfl | rfl | rfl) | (rfl | rfl) <;> simp [cellP])
theorem kind_fin (s : Rdm) (q : Ml) : (takL s (fin q)).ml.kind = s.ml.kind :=
  num_other (fin q) s 0 (wf_pieces q).2.2 (by simp [isN]) (fun c hc => by rcases mem_fin hc with rfl | rfl | rfl | rfl | rfl | rfl | rfl | rfl <;> simp [cellP])
theorem okind_fin (s : Rdm) (q : Ml) : (takL s (fin q)).ml.okind = s.ml.okind :=
  num_other (fin q) s 9 (wf_pieces q).2.2 (by simp [isN]) (fun c hc => by rcases mem_fin hc with rfl | rfl | rfl | rfl | rfl | rfl | rfl | rfl <;> simp [cellP])
theorem verd_fin (s : Rdm) (q : Ml) : (takL s (fin q)).ml.verd = s.ml.verd :=
  num_other (fin q) s 13 (wf_pieces q).2.2 (by simp [isN]) (fun c hc => by rcases mem_fin hc with rfl | rfl | rfl | rfl | rfl | rfl | rfl | rfl <;> simp [cellP])
theorem fin_eq' {p q : Ml} (h : q.kind = p.kind) (h1 : q.okind = p.okind) (h2 : q.verd = p.verd) : fin q = fin p := fin_eq h (fun _ => h1) (fun _ => h2)
theorem read3_eq (bs : List Nat) : read3 bs = takL (read0 bs) (pieces (read3 bs).ml) := by
  have k2 : (read2 bs).ml.kind = (read1 bs).ml.kind := kind_mid _ _
  have k3 : (read3 bs).ml.kind = (read2 bs).ml.kind := kind_fin _ _
  have o3 : (read3 bs).ml.okind = (read2 bs).ml.okind := okind_fin _ _
  have v3 : (read3 bs).ml.verd = (read2 bs).ml.verd := verd_fin _ _
  have em : mid (read3 bs).ml = mid (read1 bs).ml := mid_eq (k3.trans k2)
  have ef : fin (read3 bs).ml = fin (read2 bs).ml := fin_eq' k3 o3 v3
  unfold pieces
  rw [em, ef, takL_append, takL_append]
  rfl
theorem nodup_pieces (p : Ml) : ((pieces p).map cellP).Nodup := by
  by_cases k1 : p.kind = 1
  · rcases pcs_op k1 with ⟨_, e⟩ | ⟨_, e⟩ | ⟨_, _, e⟩ <;> rw [e] <;> decide
  · by_cases k2 : p.kind = 2
    · rcases pcs_ve k2 with ⟨_, e⟩ | ⟨_, e⟩ | ⟨_, _, _, e⟩ <;> rw [e] <;> decide
    · by_cases k3 : p.kind = 3
      · rw [pcs_0, pcs_3 k3]; decide
      · rw [pcs_0, pcs_4 k1 k2 k3]; decide
theorem body_named (p : Ml) : body (named p) = body p ∧ pieces (named p) = pieces p := by
  unfold named
  split
  · exact ⟨rfl, rfl⟩
  · split
    · exact ⟨rfl, rfl⟩
    · exact ⟨rfl, rfl⟩
theorem num_named (p : Ml) (o : Nat) (h : isN o) : getN (named p) o = getN p o := by
  unfold named
  split
  · rcases h with rfl | rfl | rfl | rfl | rfl | rfl | rfl | rfl | rfl | rfl | rfl | rfl <;> rfl
  · split
    · rcases h with rfl | rfl | rfl | rfl | rfl | rfl | rfl | rfl | rfl | rfl | rfl | rfl <;> rfl
    · rfl
/-- What read answers is the message of which the bytes are the body. -/
theorem readM_back {bs : List Nat} (hb : ∀ x ∈ bs, x < 256) (h1 : (readM bs).2 = true) (h2 : snd (readM bs).1 = true) (hr : (readM bs).1.root < 18446744073709551616) : bs = body (readM bs).1 := by
  have e1 : (readM bs).1 = named (read3 bs).ml := rfl
  have e2 : (readM bs).2 = (!(read3 bs).odd && decide (rDone (read3 bs).rs = 0)) := rfl
  rw [e2, Bool.and_eq_true, Bool.not_eq_true', decide_eq_true_eq] at h1
  obtain ⟨ho, hd⟩ := h1
  have hok := snd_ok h2 hr
  rw [e1] at hok ⊢
  rw [(body_named _).1]
  rw [(body_named _).2] at hok
  have hfa : (read3 bs).rs.fault = 0 := by
    unfold rDone at hd
    split at hd
    · rename_i h; exact absurd hd h
    · rename_i h; simpa using h
  have er := read3_eq bs
  obtain ⟨w1, w2, w3⟩ := wf_pieces (read3 bs).ml
  have hw : ∀ c ∈ pieces (read3 bs).ml, wfP c := fun c hc => by
    unfold pieces at hc
    simp only [List.mem_append] at hc
    rcases hc with hc | hc | hc
    · exact w1 c hc
    · exact w2 c hc
    · exact w3 c hc
  obtain ⟨l', g1, g2⟩ := takL_B (pieces (read3 bs).ml) bs zeroM false hb hw (nodup_pieces _) (by have := hfa; rw [er] at this; exact this) (fun o hm => by
    have h3 := hok _ hm
    obtain ⟨h4, h5, _⟩ := h3
    rw [num_named _ _ h4, er] at h5
    exact h5) (fun _ => by have := ho; rw [er] at this; exact this)
  have er2 : takL ⟨rG bs, zeroM, false⟩ (pieces (read3 bs).ml) = read3 bs := er.symm
  rw [er2] at g1 g2
  have hl : l' = [] := by
    rw [g1] at hd
    unfold rDone rG at hd
    simp at hd
    exact hd
  rw [hl, List.append_nil] at g2
  exact g2
theorem decode_form {bs : List Nat} (hb : ∀ x ∈ bs, x < 256) (h : decE bs = 0) (hr : (decM bs).root < 18446744073709551616) : bs = enc (decM bs) ∧ snd (decM bs) = true := by
  have hm : decM bs = (readM (bs.take (bs.length - 4))).1 := by unfold decM; rw [if_pos h]
  have h0 := h
  unfold decE at h
  split at h
  · cases h
  · split at h
    · cases h
    · split at h
      · cases h
      · rename_i h5 h8 hs
        split at h
        · rename_i hk
          rw [hm] at hr ⊢
          have hb2 := readM_back (fun x hx => hb x (List.mem_of_mem_take hx)) hk.1 hk.2 hr
          refine ⟨?_, hk.2⟩
          unfold enc summed
          rw [← hb2]
          have hs2 : bs.drop (bs.length - 4) = le (crc (bs.take (bs.length - 4))) 4 := by simpa using hs
          rw [← hs2, List.take_append_drop]
        · cases h
end Go.Proofs.YtfhfkpgfnlmfhaaDoor

/- What is read is made of bytes. -/
namespace Go.Proofs.YtfhfkpgfnlmfhaaDoor
open Go.RowKit

structure GM (s : Rdm) : Prop where
  left : ∀ x ∈ s.rs.left, x < 256
  root : s.ml.root < 18446744073709551616
  byt : ∀ o, isT o → ∀ x ∈ getT s.ml o, x < 256
theorem rByte_l {s : RS} (h : ∀ x ∈ s.left, x < 256) : ∀ x ∈ (rByte s).1.left, x < 256 := by
  unfold rByte
  split
  · exact h
  · split
    · intro x hx; simp [rF] at hx
    · rename_i y l e
      intro x hx
      exact h x (by rw [e]; simp; exact Or.inr hx)
theorem rNum_l {s : RS} (h : ∀ x ∈ s.left, x < 256) : ∀ x ∈ (rNum s).1.left, x < 256 := by
  unfold rNum
  split
  · exact h
  · split
    · intro x hx; simp [rF] at hx
    · rename_i n r e
      exact (readNum_lt _ 0 0 (by omega) (by simp) h e).2.1
theorem rFixed_l {s : RS} (h : ∀ x ∈ s.left, x < 256) : (∀ x ∈ (rFixed s 8).1.left, x < 256) ∧ (rFixed s 8).2 < 18446744073709551616 := by
  unfold rFixed
  split
  · exact ⟨h, by omega⟩
  · split
    · exact ⟨fun x hx => by simp [rF] at hx, by omega⟩
    · split
      · exact ⟨fun x hx => by simp [rF] at hx, by omega⟩
      · rename_i hl
        refine ⟨fun x hx => h x (List.mem_of_mem_drop hx), ?_⟩
        show leV (s.left.take (8 : Int).toNat) < _
        have e : (8 : Int).toNat = 8 := rfl
        rw [e]
        have := leV_lt (s.left.take 8) (fun x hx => h x (List.mem_of_mem_take hx))
        rw [show (s.left.take 8).length = 8 by simp; omega] at this
        omega
theorem rText_l {s : RS} (h : ∀ x ∈ s.left, x < 256) : (∀ x ∈ (rText s 524288).1.left, x < 256) ∧ (∀ x ∈ (rText s 524288).2, x < 256) := by
  unfold rText
  split
  · exact ⟨h, by simp⟩
  · split
    · exact ⟨fun x hx => by simp [rF] at hx, by simp⟩
    · rename_i n r e
      have hr := (readNum_lt _ 0 0 (by omega) (by simp) h e).2.1
      split
      · exact ⟨fun x hx => by simp [rF] at hx, by simp⟩
      · split
        · exact ⟨fun x hx => by simp [rF] at hx, by simp⟩
        · exact ⟨fun x hx => hr x (List.mem_of_mem_drop hx), fun x hx => hr x (List.mem_of_mem_take hx)⟩
theorem GM.step {s : Rdm} (h : GM s) {c : Pc} (hw : wfP c) : GM (takP s c) := by
  cases c with
  | byte o => exact ⟨rByte_l h.left, by simp only [takP]; rw [(setN_root hw).1]; exact h.root, fun q hq => by simp only [takP]; rw [getT_setN hw]; exact h.byt q hq⟩
  | num o => exact ⟨rNum_l h.left, by simp only [takP]; rw [(setN_root hw).1]; exact h.root, fun q hq => by simp only [takP]; rw [getT_setN hw]; exact h.byt q hq⟩
  | flag => exact ⟨rByte_l h.left, h.root, h.byt⟩
  | root => exact ⟨(rFixed_l h.left).1, (rFixed_l h.left).2, h.byt⟩
  | text o =>
    refine ⟨(rText_l h.left).1, by simp only [takP]; rw [(setT_root hw).1]; exact h.root, fun q hq => ?_⟩
    simp only [takP]
    by_cases e : o = q
    · subst e
      rw [getT_set hw]
      exact (rText_l h.left).2
    · rw [getT_other hw hq e]
      exact h.byt q hq
theorem GM.steps : ∀ (ks : List Pc) (s : Rdm), GM s → (∀ c ∈ ks, wfP c) → GM (takL s ks)
  | [], _, h, _ => h
  | c :: ks, s, h, hw => GM.steps ks (takP s c) (h.step (hw c (by simp))) (fun d hd => hw d (by simp [hd]))
theorem named_T (p : Ml) : (named p).root = p.root ∧ ∀ o, getT (named p) o = getT p o := by
  unfold named
  split
  · exact ⟨rfl, fun _ => rfl⟩
  · split
    · exact ⟨rfl, fun _ => rfl⟩
    · exact ⟨rfl, fun _ => rfl⟩
theorem readM_byt {bs : List Nat} (hb : ∀ x ∈ bs, x < 256) : (readM bs).1.root < 18446744073709551616 ∧ ∀ o, isT o → ∀ x ∈ getT (readM bs).1 o, x < 256 := by
  have h0 : GM (read0 bs) := ⟨hb, by show (0 : Nat) < _; omega, fun o ho x hx => by rcases ho with rfl | rfl | rfl | rfl | rfl <;> simp [read0, zeroM, getT] at hx⟩
  have h1 := GM.steps hd _ h0 (wf_pieces zeroM).1
  have h2 := GM.steps (mid (read1 bs).ml) _ h1 (wf_pieces _).2.1
  have h3 : GM (read3 bs) := GM.steps (fin (read2 bs).ml) _ h2 (wf_pieces _).2.2
  have e1 : (readM bs).1 = named (read3 bs).ml := rfl
  rw [e1]
  obtain ⟨n1, n2⟩ := named_T (read3 bs).ml
  exact ⟨by rw [n1]; exact h3.root, fun o ho => by rw [n2]; exact h3.byt o ho⟩
theorem decM_byt {bs : List Nat} (hb : ∀ x ∈ bs, x < 256) : (decM bs).root < 18446744073709551616 ∧ ∀ o, isT o → ∀ x ∈ getT (decM bs) o, x < 256 := by
  unfold decM
  split
  · exact readM_byt (fun x hx => hb x (List.mem_of_mem_take hx))
  · exact ⟨by show (0 : Nat) < _; omega, fun o ho x hx => by rcases ho with rfl | rfl | rfl | rfl | rfl <;> simp [zeroM, getT] at hx⟩
/-- What is decoded is the form of its message, which is sound. -/
theorem decode_back {bs : List Nat} (hb : ∀ x ∈ bs, x < 256) (h : decE bs = 0) : bs = enc (decM bs) ∧ snd (decM bs) = true := decode_form hb h (decM_byt hb).1
end Go.Proofs.YtfhfkpgfnlmfhaaDoor

/- A form cut off, or gone on with, its sum made anew; unlike messages have unlike forms. -/
namespace Go.Proofs.YtfhfkpgfnlmfhaaDoor
open Go.RowKit

theorem summed_len (bs : List Nat) : (summed bs).length = bs.length + 4 := by unfold summed; rw [List.length_append, le_len]
theorem summed_parts (bs : List Nat) : (summed bs).take ((summed bs).length - 4) = bs ∧ (summed bs).drop ((summed bs).length - 4) = le (crc bs) 4 := by
  have : (summed bs).length - 4 = bs.length := by rw [summed_len]; omega
  rw [this]
  unfold summed
  exact ⟨List.take_left .., List.drop_left ..⟩
theorem decE_summed (bs : List Nat) : decE (summed bs) = if 524288 < bs.length + 4 then 3 else if bs.length + 4 < 8 then 190 else if (readM bs).2 = true ∧ snd (readM bs).1 = true then 0 else 190 := by
  obtain ⟨e1, e2⟩ := summed_parts bs
  unfold decE
  rw [e1, e2, summed_len]
  simp only [ne_eq, not_true_eq_false, if_false]
/-- What stands ahead of a right sum is decoded just where it is a sound message's body. -/
theorem decE_zero {bs : List Nat} (hb : ∀ x ∈ bs, x < 256) (h : decE (summed bs) = 0) : ∃ p, snd p = true ∧ p.root < 18446744073709551616 ∧ bs = body p := by
  rw [decE_summed] at h
  split at h
  · cases h
  · split at h
    · cases h
    · split at h
      · rename_i hk
        exact ⟨(readM bs).1, hk.2, (readM_byt hb).1, readM_back hb hk.1 hk.2 (readM_byt hb).1⟩
      · cases h
/-- No body is the beginning of another. -/
theorem body_free {p q : Ml} (hp : snd p = true) (hpr : p.root < 18446744073709551616) (hq : snd q = true) (hqr : q.root < 18446744073709551616) {l : List Nat} (h : body p ++ l = body q) : l = [] ∧ p = q := by
  by_cases hl : l = []
  · subst hl
    rw [List.append_nil] at h
    have h1 := readM_body hp hpr
    rw [h, readM_body hq hqr] at h1
    exact ⟨rfl, by injection h1 with h2 _; exact h2.symm⟩
  · have h1 := readM_more hp hpr hl
    rw [h, readM_body hq hqr] at h1
    injection h1 with _ h2
    cases h2
theorem enc_inj {p q : Ml} (hp : snd p = true) (hpr : p.root < 18446744073709551616) (hq : snd q = true) (hqr : q.root < 18446744073709551616) (h : enc p = enc q) : p = q := by
  have h1 := decE_enc hp hpr
  have h2 := decE_enc hq hqr
  rw [h, h2.2] at h1
  exact h1.2.symm
theorem decE_body {p : Ml} (hp : snd p = true) (hpr : p.root < 18446744073709551616) : decE (summed (body p)) = 0 := (decE_enc hp hpr).1
theorem decE_two (bs : List Nat) (h : bs.length + 4 ≤ 524288) : decE (summed bs) = 0 ∨ decE (summed bs) = 190 := by
  rw [decE_summed, if_neg (by omega)]
  split
  · exact Or.inr rfl
  · split
    · exact Or.inl rfl
    · exact Or.inr rfl
/-- Cut off. -/
theorem cut_form {p : Ml} (hp : snd p = true) (hpr : p.root < 18446744073709551616) (hb : ∀ o, isT o → ∀ x ∈ getT p o, x < 256) (k : Nat) (hk : k ≤ (body p).length) : (decE (summed ((body p).take k)) = 0 ↔ k = (body p).length) ∧ (decE (summed ((body p).take k)) = 0 ∨ decE (summed ((body p).take k)) = 190) := by
  have hl := snd_len hp
  refine ⟨⟨fun h => ?_, fun h => ?_⟩, decE_two _ (by simp; omega)⟩
  · obtain ⟨q, hq, hqr, e⟩ := decE_zero (fun x hx => body_lt hp hpr hb x (List.mem_of_mem_take hx)) h
    have h1 := (body_free hq hqr hp hpr (l := (body p).drop k) (by rw [← e, List.take_append_drop])).1
    have := congrArg List.length h1
    simp at this
    omega
  · rw [h, List.take_length]
    exact decE_body hp hpr
/-- Gone on with. -/
theorem more_form {p : Ml} (hp : snd p = true) (hpr : p.root < 18446744073709551616) (hb : ∀ o, isT o → ∀ x ∈ getT p o, x < 256) (l : List Nat) (hl : ∀ x ∈ l, x < 256) : (524288 < (body p ++ l).length + 4 → decE (summed (body p ++ l)) = 3) ∧ ((body p ++ l).length + 4 ≤ 524288 → (decE (summed (body p ++ l)) = 0 ↔ l = []) ∧ (decE (summed (body p ++ l)) = 0 ∨ decE (summed (body p ++ l)) = 190)) := by
  refine ⟨fun h => by rw [decE_summed, if_pos h], fun h => ⟨⟨fun h0 => ?_, fun h0 => ?_⟩, decE_two _ h⟩⟩
  · obtain ⟨q, hq, hqr, e⟩ := decE_zero (fun x hx => by
      rcases List.mem_append.1 hx with hx | hx
      · exact body_lt hp hpr hb x hx
      · exact hl x hx) h0
    exact (body_free hp hpr hq hqr e).1
  · rw [h0, List.append_nil]
    exact decE_body hp hpr
end Go.Proofs.YtfhfkpgfnlmfhaaDoor

/- A form with bytes turned: its sum tells. -/
namespace Go.Proofs.YtfhfkpgfnlmfhaaDoor
open Go.RowKit

theorem le4_inj {a b : Nat} (ha : a < 4294967296) (hb : b < 4294967296) (h : le a 4 = le b 4) : a = b := by
  have := congrArg leV h
  rw [leV_le, leV_le] at this
  omega
/-- Bytes with four behind them that are not their sum. -/
theorem decE_wrong {q s : List Nat} (hs : s.length = 4) (h1 : 4 ≤ q.length) (h2 : q.length + 4 ≤ 524288) (hne : s ≠ le (crc q) 4) : decE (q ++ s) = 191 := by
  have hl : (q ++ s).length = q.length + 4 := by rw [List.length_append, hs]
  have hm : (q ++ s).length - 4 = q.length := by omega
  unfold decE
  rw [hm, List.take_left, List.drop_left, hl, if_neg (by omega), if_neg (by omega), if_pos hne]
/-- Up to four bytes side by side of the body turned. -/
theorem turned_body {p : Ml} (hp : snd p = true) (hpr : p.root < 18446744073709551616) (hb : ∀ o, isT o → ∀ x ∈ getT p o, x < 256) {q : List Nat} {k u : Nat} (h : Told (body p) k 4 q u) : (u = 0 ∧ q ++ le (crc (body p)) 4 = enc p) ∨ (u ≠ 0 ∧ decE (q ++ le (crc (body p)) 4) = 191 ∧ q ++ le (crc (body p)) 4 ≠ enc p) := by
  have hbb := body_lt hp hpr hb
  have hl := snd_len hp
  by_cases hu : u = 0
  · refine Or.inl ⟨hu, ?_⟩
    rw [h.none hu]
    rfl
  · have hne := h.sums hu
    have hq := h.len
    refine Or.inr ⟨hu, decE_wrong (le_len _ _) (by omega) (by omega) (fun e => hne (le4_inj (crc_lt hbb) (crc_lt h.byte) e)), fun e => ?_⟩
    have e2 : q ++ le (crc (body p)) 4 = body p ++ le (crc (body p)) 4 := e
    have e3 := (List.append_inj e2 hq).1
    exact hne (by rw [e3])
/-- Bytes of the sum turned. -/
theorem turned_sum {p : Ml} (hp : snd p = true) {s : List Nat} (hs : s.length = 4) : (s = le (crc (body p)) 4 ∧ body p ++ s = enc p) ∨ (s ≠ le (crc (body p)) 4 ∧ decE (body p ++ s) = 191 ∧ body p ++ s ≠ enc p) := by
  have hl := snd_len hp
  by_cases e : s = le (crc (body p)) 4
  · exact Or.inl ⟨e, by rw [e]; rfl⟩
  · refine Or.inr ⟨e, decE_wrong hs (by omega) (by omega) e, fun h => e ?_⟩
    have e2 : body p ++ s = body p ++ le (crc (body p)) 4 := h
    exact List.append_cancel_left e2
end Go.Proofs.YtfhfkpgfnlmfhaaDoor

/- A message that all programs know. -/
namespace Go.Proofs.YtfhfkpgfnlmfhaaDoor
open Go.RowKit

def pA : Ml := ⟨7, 2, 0, 63, 200, 0, [], 0, 0, 0, [], [], 0, 0, false, [], [], 0, 0, 0⟩
def wantB : List Nat := [7, 2, 0, 63, 200, 1]
def wantA : List Nat := [7, 2, 0, 63, 200, 1, 11, 255, 173, 23]
theorem sndA : snd pA = true := by decide
theorem bodyA : body pA = wantB := by
  rw [body_0]
  have hm : mid pA ++ fin pA = [Pc.num 4] := rfl
  rw [hm]
  show [(7 : Int).toNat] ++ ([(2 : Int).toNat] ++ ([(0 : Int).toNat] ++ (form (63 : Int).toNat ++ (form (200 : Int).toNat ++ [])))) = wantB
  rw [form_small (n := (63 : Int).toNat) (by decide), form_big (n := (200 : Int).toNat) (by decide), form_small (n := (200 : Int).toNat / 128) (by decide)]
  rfl
theorem crcA : crc wantB = 397278987 := by decide +kernel
theorem sumA : summed wantB = wantA := by
  unfold summed
  rw [crcA]
  decide +kernel
theorem encA : enc pA = wantA := by unfold enc; rw [bodyA, sumA]
theorem decA : decE wantA = 0 ∧ decM wantA = pA := by
  rw [← encA]
  exact decE_enc sndA (by decide)
theorem decA0 : decE (wantA ++ [0]) = 191 := by
  unfold decE
  rw [if_neg (by decide), if_neg (by decide), if_pos (by decide +kernel)]
theorem byteA : ∀ x ∈ wantA, x < 256 := by decide
theorem byteB : ∀ x ∈ wantB, x < 256 := by decide
theorem byteA0 : ∀ x ∈ wantA ++ [0], x < 256 := by decide
theorem MW.nil (w : World) {p : Ml} (h : ∀ o, isT o → getT p o = []) (hr : p.root < 18446744073709551616) : MW w p nilM := by
  refine ⟨fun o ho => ?_, fun o ho => by rw [h o ho]; simp, fun o ho x hx => (by rw [h o ho] at hx; exact absurd hx (by simp)), hr⟩
  rw [h o ho]
  refine Or.inl (Or.inl ⟨?_, rfl⟩)
  rcases ho with rfl | rfl | rfl | rfl | rfl
  · show Value.slice none p.copy.length 0 = _
    rw [show p.copy = [] from h 6 (by simp [isT])]; rfl
  · show Value.slice none p.key.length 0 = _
    rw [show p.key = [] from h 10 (by simp [isT])]; rfl
  · show Value.slice none p.val.length 0 = _
    rw [show p.val = [] from h 11 (by simp [isT])]; rfl
  · show Value.slice none p.akey.length 0 = _
    rw [show p.akey = [] from h 15 (by simp [isT])]; rfl
  · show Value.slice none p.aval.length 0 = _
    rw [show p.aval = [] from h 16 (by simp [isT])]; rfl
theorem MW.A (w : World) : MW w pA nilM := MW.nil w (by rintro o (rfl | rfl | rfl | rfl | rfl) <;> rfl) (by decide)
theorem MW.zero (w : World) : MW w zeroM nilM := MW.nil w (by rintro o (rfl | rfl | rfl | rfl | rfl) <;> rfl) (by decide)
theorem mv_lit (p : Ml) (l : Lm) : mv p l = .agg #[.int .i64 p.kind, .int .i64 p.frm, .int .i64 p.dst, .int .i64 p.shard, .int .i64 p.epoch, .int .u64 (p.root : Nat), .slice l.ca p.copy.length l.cc, .int .i64 p.client, .int .i64 p.seq, .int .i64 p.okind, .slice l.ka p.key.length l.kc, .slice l.va p.val.length l.vc, .int .i64 p.rev, .int .i64 p.verd, .bool p.done, .slice l.xa p.akey.length l.xc, .slice l.ya p.aval.length l.yc, .int .i64 p.arev, .int .i64 p.aat, .int .i64 p.hint] := rfl
theorem NewV.wide {w W : World} {bs : List Nat} {v : Value} (h : NewV w bs v W) : Wide W v bs := by
  obtain ⟨a, c, rfl, ho⟩ := h
  exact Or.inl (Sees.of_own ho)
/-- How long the lists of what is decoded are. -/
theorem snd_texts {p : Ml} (h : snd p = true) : ∀ o, isT o → (getT p o).length ≤ 262144 := by
  obtain ⟨_, hk⟩ := (snd_iff p).1 h
  have hq : p.copy.length ≤ 262144 ∧ p.key.length ≤ 262144 ∧ p.val.length ≤ 262144 ∧ p.akey.length ≤ 262144 ∧ p.aval.length ≤ 262144 := by
    rcases hk with ⟨_, _, _, _, h5, ⟨_, ⟨_, h6, h7, _⟩, _⟩, _, _, h8⟩ | ⟨_, _, _, _, ⟨_, h5, h6, _⟩, h7, _, _, h8⟩ | ⟨_, h2, _, _, _, _, _, _, ⟨_, h5, h6, _⟩, _, ⟨_, h7, h8, _⟩, _⟩ | ⟨_, ⟨_, _, _, _, _, _, ⟨_, h5, h6, _⟩, _, ⟨_, h7, h8, _⟩, _⟩, _, h9⟩
    · have q := rgt_iff h5
      rw [h6, h7, h8]
      simp
      omega
    · have q := fit_len h7
      rw [h5, h6, h8]
      simp
      omega
    · rw [h5, h6, h7, h8]; simp; exact h2
    · rw [h5, h6, h7, h8, h9]; simp
  rintro o (rfl | rfl | rfl | rfl | rfl)
  · exact hq.1
  · exact hq.2.1
  · exact hq.2.2.1
  · exact hq.2.2.2.1
  · exact hq.2.2.2.2
theorem NewM.mw {w w' : World} {bs : List Nat} {l : Lm} (hb : ∀ x ∈ bs, x < 256) (hn : NewM w (decM bs) l w') : MW w' (decM bs) l := by
  obtain ⟨h1, h2⟩ := decM_byt hb
  refine ⟨fun o ho => (hn.nw o ho).wide, fun o ho => ?_, h2, h1⟩
  by_cases h0 : decE bs = 0
  · have := snd_texts (decode_back hb h0).2 o ho
    omega
  · have hz : decM bs = zeroM := by unfold decM; rw [if_neg h0]
    rw [hz]
    rcases ho with rfl | rfl | rfl | rfl | rfl <;> simp [zeroM, getT]
end Go.Proofs.YtfhfkpgfnlmfhaaDoor

/- The laws' summed. -/
namespace Go.Proofs.YtfhfkpgfnlmfhaaDoor
open Go.RowKit

theorem le4 {c : Nat} (h : c < 4294967296) : le c 4 = [c % 256, c / 256 % 256, c / 65536 % 256, c / 16777216] := by
  show [c / 256 ^ 0 % 256, c / 256 ^ 1 % 256, c / 256 ^ 2 % 256, c / 256 ^ 3 % 256] = _
  have : c / 16777216 % 256 = c / 16777216 := by omega
  simp [this]
theorem news_four (w : World) {c : Nat} (h : c < 4294967296) : Sees (w.alloc (.cells #[.int .u8 ((c : Int) % 256), .int .u8 ((c : Int) / 256 % 256), .int .u8 ((c : Int) / 65536 % 256), .int .u8 ((c : Int) / 16777216)] 5)) (.slice (some ⟨w.heap.size, 0, none⟩) 4 4) (le c 4) := by
  rw [le4 h]
  refine Or.inr ⟨w.heap.size, 0, 4, rfl, by simp, by unfold maxLen; omega, by simp, fun j hj => ?_⟩
  rw [(Blk.new w _ _).cell]
  simp only [List.length_cons, List.length_nil] at hj
  match j, hj with
  | 0, _ => rfl
  | 1, _ => rfl
  | 2, _ => rfl
  | 3, _ => rfl
/-- What summed answers. -/
def SumP (w : World) (bs : List Nat) (e : Ending) (w' : World) : Prop := Kept [] w w' ∧ ∃ a cap, e = .returned (.slice a (summed bs).length cap) ∧ w'.ownsRow w.heap.size 5 1 (.slice a (summed bs).length cap) (summed bs).length (u8s (summed bs))
theorem summed_lt {bs : List Nat} (h : ∀ x ∈ bs, x < 256) : ∀ x ∈ summed bs, x < 256 := by
  intro x hx
  unfold summed at hx
  rcases List.mem_append.1 hx with hx | hx
  · exact h x hx
  · exact le_lt _ _ x hx
set_option maxRecDepth 100000 in
set_option maxHeartbeats 400000 in
theorem summed_any {w : World} {x : Value} {bs : List Nat} (ht : Tab w) (hx : Wide w x bs) (hb : ∀ y ∈ bs, y < 256) (hl : bs.length + 4 ≤ 140737488355328) : Calls Tryd.prog 18 #[x] w (SumP w bs) := by
  obtain ⟨i0, hi, hz0, hz1, hz2⟩ := info_parts Tryd.info5
  have HI := hide (And.intro hi (And.intro hz0 (And.intro hz1 hz2)))
  have HC := hide (crc_any ht hx hb (by omega))
  have HX := hide hx
  have hcl := crc_lt hb
  obtain ⟨c, hc⟩ : ∃ c, crc bs = c := ⟨_, rfl⟩
  rw [hc] at HC hcl
  obtain ⟨s, hs⟩ : ∃ s, s = bs ++ le c 4 := ⟨_, rfl⟩
  have HSM : Hid (summed bs = s) := by unfold Hid summed; rw [hc, hs]
  obtain ⟨xa, xc, rfl⟩ := wide_len hx
  have HCL := hide hcl
  have HSS := hide hs
  have HL := hide hl
  clear ht hx hb hc hs hl
  go_enter Tryd.func18, Tryd.ntmps18
  go_upto_region 3 with (first
    | (go_at_call 31; refine (unhide HC).mono ?_; rintro e w1 ⟨rfl, hz⟩; have hz2' := hz.symm; subst hz2'; clear hz)
    | (at_builtin; refine wpList_append_wide _ rfl _ _ 23 rfl w.heap.size 5 i0 (.int .u8 0) Tryd.underlying23 hi hz0 hz1 hz2 rfl _ [] rfl (World.ownsRow_made w #[] 0 (Nat.le_refl _) (Nat.zero_le _) rfl) _ bs rfl ((unhide HX).kept ((Kept.refl [] w).alloc _)) ?c1 ?c2 ?_))
  case c1 => have := unhide HL; simp; omega
  case c2 => simp
  intro v1 w3 hown hg hat
  have hk1 : Kept [] w w3 := ((Kept.refl [] w).alloc _).grown hg (fun k hk => by simp [Value.ownBlock] at hk; right; omega)
  obtain ⟨a1, c1, hv⟩ := own_len hown
  subst hv
  have hs1 := hk1.size
  have HO1 := hide hown
  have HK := hide hk1
  have HS1 := hide hs1
  clear hown hg hat hk1 hs1
  go_wp2_with (at_builtin; refine wpList_append_sees _ rfl _ _ 23 rfl w.heap.size 5 i0 (.int .u8 0) Tryd.underlying23 hi hz0 hz1 hz2 rfl _ bs rfl ((unhide HO1).alloc _) _ (le c 4) rfl (news_four w3 (unhide HCL)) ?c3 ?c4 ?_)
  case c3 => rw [le_len]; exact unhide HL
  case c4 => rw [World.size_alloc]; exact Nat.le_succ_of_le (unhide HS1)
  intro v2 w4 hown4 hgrow4 hat4
  obtain ⟨a2, c2, hv'⟩ := own_len hown4
  subst hv'
  have HK4 := hide (((unhide HK).alloc _).grown hgrow4 (fun k hk => Or.inr ((unhide HO1).lt k hk).1))
  have HO4 := hide hown4
  clear hown4 hgrow4 hat4
  go_wp2_with fail
  go_ret
  refine ⟨unhide HK4, a2, c2, ?_, ?_⟩
  · rw [unhide HSM, unhide HSS, List.length_append]; rfl
  · have h := unhide HO4
    rw [← List.length_append] at h
    rw [unhide HSM, unhide HSS]; exact h
end Go.Proofs.YtfhfkpgfnlmfhaaDoor

/- The laws' sameMail, what it says. -/
namespace Go.Proofs.YtfhfkpgfnlmfhaaDoor
open Go.RowKit

theorem eqM_iff (p q : Ml) : eqM p q = true ↔ p = q := by
  constructor
  · intro h
    simp only [eqM, eqHd, eqCl, eqAn, Bool.and_eq_true, beq_iff_eq, decide_eq_true_eq, Int.natCast_inj] at h
    cases p
    cases q
    simp_all
  · rintro rfl
    simp [eqM, eqHd, eqCl, eqAn]
end Go.Proofs.YtfhfkpgfnlmfhaaDoor

/- Decode: bytes of a fit length. -/
namespace Go.Proofs.YtfhfkpgfnlmfhaaDoor
open Go.RowKit

/-- What Decode asks of the bytes: their two parts, the sum in them (v), the sum of what stands ahead (c). -/
structure Dc (w : World) (b off m xc : Nat) (bs : List Nat) (c v : Nat) : Prop where
  len : bs.length = m + 4
  parts : ∀ W, Kept [] w W → Wide W (.slice (some ⟨b, off, none⟩) m xc) (bs.take m) ∧ Wide W (.slice (some ⟨b, off + m, none⟩) 4 (xc - m)) (bs.drop m)
  tab : Tab w
  byt : ∀ x ∈ bs, x < 256
  cl : c < 4294967296
  cc : c = crc (bs.take m)
  vl : v < 4294967296
  vv : v = leV (bs.drop m)
  m5 : 4 ≤ m ∧ m ≤ 524284
theorem Dc.read {w : World} {b off m xc c v : Nat} {bs : List Nat} (h : Dc w b off m xc bs c v) {W : World} (k : Kept [] w W) : Calls Tryd.prog 36 #[.slice (some ⟨b, off + m, none⟩) 4 (xc - m)] W fun e w' => ∃ br F, e = .returned (.pointer (some ⟨br, 0, none⟩)) ∧ Rs w' br F ⟨0, bs.drop m, []⟩ ∧ (∀ x ∈ F, W.heap.size ≤ x) ∧ Kept [] W w' := by
  have e2 : (bs.drop m).length = 4 := by have := h.len; simp; omega
  exact read_w (h.parts W k).2 (by omega) (fun y hy => h.byt y (List.mem_of_mem_drop hy))
theorem Dc.fixed {w : World} {b off m xc c v : Nat} {bs : List Nat} (h : Dc w b off m xc bs c v) {W : World} {br : Nat} {F : List Nat} (hr : Rs W br F ⟨0, bs.drop m, []⟩) : Calls Tryd.prog 37 #[.pointer (some ⟨br, 0, none⟩), .int .i64 4] W fun e w' => e = .returned (.int .u64 (v : Nat)) ∧ Kept F W w' := by
  have e2 : (bs.drop m).length = 4 := by have := h.len; simp; omega
  refine (rfixed_q hr 4).mono ?_
  rintro e w' ⟨rfl, F', _, k, _⟩
  refine ⟨?_, k⟩
  have : (rFixed ⟨0, bs.drop m, []⟩ 4).2 = v := by
    unfold rFixed
    rw [if_neg (by simp), if_neg (by omega), if_neg (by show ¬ ((bs.drop m).length : Int) < 4; omega)]
    show leV ((bs.drop m).take (4 : Int).toNat) = v
    rw [h.vv, List.take_of_length_le (by rw [e2]; decide)]
  rw [this]
theorem Dc.sumc {w : World} {b off m xc c v : Nat} {bs : List Nat} (h : Dc w b off m xc bs c v) {W : World} (k : Kept [] w W) : Calls Tryd.prog 31 #[.slice (some ⟨b, off, none⟩) m xc] W fun e w' => e = .returned (.int .u32 (c : Nat)) ∧ w' = W := by
  have e1 : (bs.take m).length = m := by have := h.len; simp; omega
  have := h.m5
  rw [h.cc]
  exact crc_any (h.tab.kept k (by simp)) (h.parts W k).1 (fun y hy => h.byt y (List.mem_of_mem_take hy)) (by omega)
theorem Dc.rd {w : World} {b off m xc c v : Nat} {bs : List Nat} (h : Dc w b off m xc bs c v) {W : World} (k : Kept [] w W) : Calls Tryd.prog 38 #[.slice (some ⟨b, off, none⟩) m xc] W (RdP W (bs.take m)) := by
  have e1 : (bs.take m).length = m := by have := h.len; simp; omega
  have := h.m5
  exact readM_any W _ _ (h.parts W k).1 (by omega) (fun y hy => h.byt y (List.mem_of_mem_take hy))
theorem Dc.of {w : World} {xa : Option Addr} {xc : Nat} {bs : List Nat} (ht : Tab w) (hx : Wide w (.slice xa bs.length xc) bs) (h8 : 8 ≤ bs.length) (h5 : bs.length ≤ 524288) (hb : ∀ y ∈ bs, y < 256) : ∃ b off m c v, xa = some ⟨b, off, none⟩ ∧ bs.length = m + 4 ∧ m + 4 ≤ xc ∧ xc ≤ maxLen ∧ Dc w b off m xc bs c v := by
  obtain ⟨b, off, rfl, _, g1, g2, g3, g4⟩ := wides hx (by omega)
  obtain ⟨m, hm⟩ : ∃ m, bs.length = m + 4 := ⟨bs.length - 4, by omega⟩
  rw [hm] at g1
  have hv : leV (bs.drop m) < 4294967296 := by
    have := leV_lt (bs.drop m) (fun y hy => hb y (List.mem_of_mem_drop hy))
    rw [show (bs.drop m).length = 4 by simp; omega] at this
    omega
  refine ⟨b, off, m, crc (bs.take m), leV (bs.drop m), rfl, hm, g1, g2, hm, fun W k => ?_, ht, hb, crc_lt (fun y hy => hb y (List.mem_of_mem_take hy)), rfl, hv, rfl, by omega⟩
  exact sees_parts hm g1 g2 (Nat.lt_of_lt_of_le g3 k.size) (fun j hj => by rw [k.cell (p := ⟨b, off + j, none⟩) g3 (by simp)]; exact g4 j hj)
theorem Dc.err {w : World} {b off m xc c v : Nat} {bs : List Nat} (h : Dc w b off m xc bs c v) (hn : v ≠ c) : decE bs = 191 := by
  have := h.m5
  have hl := h.len
  unfold decE
  rw [if_neg (by omega), if_neg (by omega), show bs.length - 4 = m by omega, if_pos]
  intro he
  exact hn (h.vv.trans (((sum_iff (by simp; omega) (fun y hy => h.byt y (List.mem_of_mem_drop hy)) h.cl).2 (by rw [h.cc]; exact he))))
theorem Dc.ok {w : World} {b off m xc c v : Nat} {bs : List Nat} (h : Dc w b off m xc bs c v) (hn : v = c) : decE bs = (if (readM (bs.take m)).2 = true ∧ snd (readM (bs.take m)).1 = true then 0 else 190) ∧ decM bs = (if decE bs = 0 then (readM (bs.take m)).1 else zeroM) := by
  have := h.m5
  have hl := h.len
  have hm : bs.length - 4 = m := by omega
  constructor
  · unfold decE
    rw [if_neg (by omega), if_neg (by omega), hm, if_neg]
    intro he
    apply he
    have := (sum_iff (by simp; omega) (fun y hy => h.byt y (List.mem_of_mem_drop hy)) h.cl).1 (h.vv.symm.trans hn)
    rw [this, h.cc]
  · unfold decM
    rw [hm]

set_option maxRecDepth 100000 in
set_option maxHeartbeats 1600000 in
theorem decode_sum (w : World) (bs : List Nat) (b off m xc c v : Nat) (hd : Dc w b off m xc bs c v) (hc1 : m + 4 ≤ xc) (hn : v ≠ c) : Calls Tryd.prog 17 #[.slice (some ⟨b, off, none⟩) (m + 4) xc] w (DecP w bs) := by
  have HD := hide hd
  have HE := hide (hd.err hn)
  have hm := hd.m5
  have hcl := hd.cl
  have hvl := hd.vl
  have hg1 : ((524288 : Int) < ((m + 4 : Nat) : Int)) = False := eq_false (by omega)
  have hg2 : (((m + 4 : Nat) : Int) < 8) = False := eq_false (by omega)
  have hg3 : ((524288 : Int) < (m : Int) + 4) = False := eq_false (by omega)
  have hg4 : ((m : Int) + 4 < 8) = False := eq_false (by omega)
  have e1 : IntKind.u64.wrap (c : Int) = (c : Int) := by rw [IntKind.wrap_u64]; omega
  have e2 : wrap64 ((m : Int) + 4 - 4) = (m : Int) := by unfold wrap64; omega
  have e3 : wrap64 (m : Int) = (m : Int) := by unfold wrap64; omega
  have hvc : ((v : Int) != (c : Int)) = true := by rw [bne_iff_ne]; omega
  clear hd hn
  go_enter Tryd.func17, Tryd.ntmps17
  go_upto_region 1 with fail
  refine world_at (R := fun X => Blk X w.heap.size (mcc zeroM nilM) 30 ∧ Kept [] w X) ⟨Blk.new _ _ _, (Kept.refl [] w).alloc _⟩ ?_
  rintro X ⟨hR, hK⟩
  have HR := hide hR
  have HK := hide hK
  clear hR hK
  go_wp2_with fail
  go_region_with (first
    | (go_at_call 36; refine ((unhide HD).read (by first | exact unhide HK | exact (unhide HK).drew | exact (unhide HK).drewN _)).mono ?_; rintro e w1 ⟨br, F, rfl, hr1, hf1, k1⟩; have HR1 := hide hr1; have hk1 := (Kept.trans (unhide HK) (show Kept [] X w1 from (by first | exact k1 | exact (Kept.refl [] X).drew.step k1)) (by simp)); have HF1 := hide hf1; have HK1 := hide hk1; have HX1 := hide (show Kept [] X w1 from (by first | exact k1 | exact (Kept.refl [] X).drew.step k1)); clear hr1 hf1 k1 hk1)
    | (go_at_call 37; refine ((unhide HD).fixed (unhide HR1)).mono ?_; rintro e w2 ⟨rfl, k2⟩; have hx2 : Kept [] X w2 := (unhide HX1).trans k2 (fun x hx => Or.inr (unhide HF1 x hx)); have HX2 := hide hx2; clear k2 hx2)
    | (go_at_call 31; refine ((unhide HD).sumc ((unhide HK).step (unhide HX2))).mono ?_; rintro e w3 ⟨rfl, hz⟩; have hz2 := hz.symm; subst hz2; clear hz))
  all_goals
    have hR2 := (unhide HR).kept (unhide HX2) (by simp)
    have hK2 := (unhide HK).step (unhide HX2)
    go_wp2_with (refine wpList_store_self rfl 30 _ _ rfl _ (mcc zeroM nilM) rfl rfl 30 hR2 infoMail (by simp [mcc, Value.oneCell']) ?_)
    refine ret_struct_tmp rfl rfl hR2 Tryd.underlying30 infoMail rfl ?_
    exact DecP.fail (c := 191) hK2 (unhide HE) (by omega)
end Go.Proofs.YtfhfkpgfnlmfhaaDoor

/- Decode: bytes with their right sum. -/
namespace Go.Proofs.YtfhfkpgfnlmfhaaDoor
open Go.RowKit

theorem NewM.kept {w W W' : World} {p : Ml} {l : Lm} (h : NewM w p l W) (k : Kept [] W W') : NewM w p l W' := ⟨fun o ho => (h.nw o ho).kept k (by simp), h.ap⟩
theorem Dc.rd2 {w : World} {b off m xc c v : Nat} {bs : List Nat} (h : Dc w b off m xc bs c v) {p : Ml} {ok : Bool} (hp : (readM (bs.take m)).1 = p) (ho : (readM (bs.take m)).2 = ok) (W : World) (k : Kept [] w W) : Calls Tryd.prog 38 #[.slice (some ⟨b, off, none⟩) m xc] W fun e w' => Kept [] W w' ∧ ∃ l, e = .returned (.tuple #[.agg (mcc p l), .bool ok]) ∧ NewM W p l w' := by
  subst hp ho
  exact h.rd k
theorem DecP.good {w X w2 Z : World} {bs : List Nat} {p : Ml} {l : Lm} (he : decE bs = 0 ∧ decM bs = p) (hk : Kept [] w X) (h3 : Kept [] X Z) (hn : NewM w2 p l Z) (hw : w.heap.size < w2.heap.size) : DecP w bs (.returned (.tuple #[.agg (mcc p l), .int .i64 0])) (Z.setRow w.heap.size (mcc p l)) := by
  have kR : Kept [w.heap.size] Z (Z.setRow w.heap.size (mcc p l)) := (Kept.refl _ Z).setRow (Or.inl (by simp)) _
  refine ⟨(hk.step h3).setRow (Or.inr (Nat.le_refl _)) _, l, ?_, fun o ho => ?_, ?_⟩
  · rw [he.1, he.2]; rfl
  · rw [he.2]
    refine ((hn.nw o ho).kept kR (fun x hx hm => ?_)).from (by omega)
    have := ((hn.nw o ho).lt hx).1
    simp at hm
    omega
  · rw [he.2]; exact hn.ap
set_option maxRecDepth 100000 in
set_option maxHeartbeats 1600000 in
theorem decode_odd (w : World) (bs : List Nat) (b off m xc c v : Nat) (hd : Dc w b off m xc bs c v) (hc1 : m + 4 ≤ xc) (hn : v = c) (ho : (readM (bs.take m)).2 = false) : Calls Tryd.prog 17 #[.slice (some ⟨b, off, none⟩) (m + 4) xc] w (DecP w bs) := by
  have HD := hide hd
  have HE := hide (show decE bs = 190 by have h1 := (hd.ok hn).1; rw [ho] at h1; simpa using h1)
  have hm := hd.m5
  have hcl := hd.cl
  have hvl := hd.vl
  have hg1 : ((524288 : Int) < ((m + 4 : Nat) : Int)) = False := eq_false (by omega)
  have hg2 : (((m + 4 : Nat) : Int) < 8) = False := eq_false (by omega)
  have hg3 : ((524288 : Int) < (m : Int) + 4) = False := eq_false (by omega)
  have hg4 : ((m : Int) + 4 < 8) = False := eq_false (by omega)
  have e1 : IntKind.u64.wrap (c : Int) = (c : Int) := by rw [IntKind.wrap_u64]; omega
  have e2 : wrap64 ((m : Int) + 4 - 4) = (m : Int) := by unfold wrap64; omega
  have e3 : wrap64 (m : Int) = (m : Int) := by unfold wrap64; omega
  have hvc : ((v : Int) != (c : Int)) = false := by rw [hn]; simp
  obtain ⟨p, hp⟩ : ∃ p, (readM (bs.take m)).1 = p := ⟨_, rfl⟩
  have HP := hide hp
  have HRD := hide (Dc.rd2 hd hp ho)
  have HS := fun W l => sound_any W p l

  clear hd hn hp ho
  go_enter Tryd.func17, Tryd.ntmps17
  go_upto_region 1 with fail
  refine world_at (R := fun X => Blk X w.heap.size (mcc zeroM nilM) 30 ∧ Kept [] w X) ⟨Blk.new _ _ _, (Kept.refl [] w).alloc _⟩ ?_
  rintro X ⟨hR, hK⟩
  have HR := hide hR
  have HK := hide hK
  clear hR hK
  go_wp2_with fail
  go_region_with (first
    | (go_at_call 36; refine ((unhide HD).read (by first | exact unhide HK | exact (unhide HK).drew | exact (unhide HK).drewN _)).mono ?_; rintro e w1 ⟨br, F, rfl, hr1, hf1, k1⟩; have HR1 := hide hr1; have hk1 := (Kept.trans (unhide HK) (show Kept [] X w1 from (by first | exact k1 | exact (Kept.refl [] X).drew.step k1)) (by simp)); have HF1 := hide hf1; have HK1 := hide hk1; have HX1 := hide (show Kept [] X w1 from (by first | exact k1 | exact (Kept.refl [] X).drew.step k1)); clear hr1 hf1 k1 hk1)
    | (go_at_call 37; refine ((unhide HD).fixed (unhide HR1)).mono ?_; rintro e w2 ⟨rfl, k2⟩; have hx2 : Kept [] X w2 := (unhide HX1).trans k2 (fun x hx => Or.inr (unhide HF1 x hx)); have HX2 := hide hx2; clear k2 hx2)
    | (go_at_call 31; refine ((unhide HD).sumc ((unhide HK).step (unhide HX2))).mono ?_; rintro e w3 ⟨rfl, hz⟩; have hz2 := hz.symm; subst hz2; clear hz))
  all_goals
    go_wp2_with (first
      | (go_at_call 38; refine (unhide HRD _ ((unhide HK).step (unhide HX2))).mono ?_; rintro e w3 ⟨k3, l, rfl, hnm⟩; have HX3 := hide ((unhide HX2).step k3); have HNM := hide hnm; have HS2 := hide k3.size; clear k3 hnm)
      | (refine wpList_store_row rfl 30 _ _ rfl _ (mcc p l) rfl rfl 30 _ (Blk.new w3 _ _) infoMail rfl (by simp [mcc, Value.oneCell']) ?_; refine world_at (R := fun Z => Blk Z w3.heap.size (mcc p l) 30 ∧ Kept [] w3 Z) ⟨setRow_heap _ _ _ _ _ _ (Blk.new w3 _ _), ((Kept.refl [] w3).alloc _).setRow (Or.inr (Nat.le_refl _)) _⟩ ?_; rintro Z ⟨hzb, hzk⟩; have HB := hide hzb; have HZ := hide hzk; have HX3 := hide ((unhide HX3).step (unhide HZ)); have HNM := hide (NewM.kept (unhide HNM) (unhide HZ)); clear hzb hzk)
      | (refine wpList_load_guard 30 _ rfl _ rfl 30 _ (0, 0) _ (unhide HB) Tryd.underlying30 rfl infoMail rfl ?_)
      | (refine wpList_store_self rfl 30 _ _ rfl _ (mcc zeroM nilM) rfl rfl 30 ((unhide HR).kept (unhide HX3) (by simp)) infoMail (by simp [mcc, Value.oneCell']) ?_))
    refine ret_struct_tmp rfl rfl ((unhide HR).kept (unhide HX3) (by simp)) Tryd.underlying30 infoMail rfl ?_
    exact DecP.fail (c := 190) ((unhide HK).step (unhide HX3)) (unhide HE) (by omega)
set_option maxRecDepth 100000 in
set_option maxHeartbeats 1600000 in
theorem decode_unsound (w : World) (bs : List Nat) (b off m xc c v : Nat) (hd : Dc w b off m xc bs c v) (hc1 : m + 4 ≤ xc) (hn : v = c) (ho : (readM (bs.take m)).2 = true) (hs : snd (readM (bs.take m)).1 = false) : Calls Tryd.prog 17 #[.slice (some ⟨b, off, none⟩) (m + 4) xc] w (DecP w bs) := by
  have HD := hide hd
  have HE := hide (show decE bs = 190 by have h1 := (hd.ok hn).1; rw [ho, hs] at h1; simpa using h1)
  have hm := hd.m5
  have hcl := hd.cl
  have hvl := hd.vl
  have hg1 : ((524288 : Int) < ((m + 4 : Nat) : Int)) = False := eq_false (by omega)
  have hg2 : (((m + 4 : Nat) : Int) < 8) = False := eq_false (by omega)
  have hg3 : ((524288 : Int) < (m : Int) + 4) = False := eq_false (by omega)
  have hg4 : ((m : Int) + 4 < 8) = False := eq_false (by omega)
  have e1 : IntKind.u64.wrap (c : Int) = (c : Int) := by rw [IntKind.wrap_u64]; omega
  have e2 : wrap64 ((m : Int) + 4 - 4) = (m : Int) := by unfold wrap64; omega
  have e3 : wrap64 (m : Int) = (m : Int) := by unfold wrap64; omega
  have hvc : ((v : Int) != (c : Int)) = false := by rw [hn]; simp
  obtain ⟨p, hp⟩ : ∃ p, (readM (bs.take m)).1 = p := ⟨_, rfl⟩
  rw [hp] at hs
  have HP := hide hp
  have HRD := hide (Dc.rd2 hd hp ho)
  have HS := fun W l => sound_any W p l
  rw [hs] at HS

  clear hd hn hp ho hs
  go_enter Tryd.func17, Tryd.ntmps17
  go_upto_region 1 with fail
  refine world_at (R := fun X => Blk X w.heap.size (mcc zeroM nilM) 30 ∧ Kept [] w X) ⟨Blk.new _ _ _, (Kept.refl [] w).alloc _⟩ ?_
  rintro X ⟨hR, hK⟩
  have HR := hide hR
  have HK := hide hK
  clear hR hK
  go_wp2_with fail
  go_region_with (first
    | (go_at_call 36; refine ((unhide HD).read (by first | exact unhide HK | exact (unhide HK).drew | exact (unhide HK).drewN _)).mono ?_; rintro e w1 ⟨br, F, rfl, hr1, hf1, k1⟩; have HR1 := hide hr1; have hk1 := (Kept.trans (unhide HK) (show Kept [] X w1 from (by first | exact k1 | exact (Kept.refl [] X).drew.step k1)) (by simp)); have HF1 := hide hf1; have HK1 := hide hk1; have HX1 := hide (show Kept [] X w1 from (by first | exact k1 | exact (Kept.refl [] X).drew.step k1)); clear hr1 hf1 k1 hk1)
    | (go_at_call 37; refine ((unhide HD).fixed (unhide HR1)).mono ?_; rintro e w2 ⟨rfl, k2⟩; have hx2 : Kept [] X w2 := (unhide HX1).trans k2 (fun x hx => Or.inr (unhide HF1 x hx)); have HX2 := hide hx2; clear k2 hx2)
    | (go_at_call 31; refine ((unhide HD).sumc ((unhide HK).step (unhide HX2))).mono ?_; rintro e w3 ⟨rfl, hz⟩; have hz2 := hz.symm; subst hz2; clear hz))
  all_goals
    go_wp2_with (first
      | (go_at_call 38; refine (unhide HRD _ ((unhide HK).step (unhide HX2))).mono ?_; rintro e w3 ⟨k3, l, rfl, hnm⟩; have HX3 := hide ((unhide HX2).step k3); have HNM := hide hnm; have HS2 := hide k3.size; clear k3 hnm)
      | (refine wpList_store_row rfl 30 _ _ rfl _ (mcc p l) rfl rfl 30 _ (Blk.new w3 _ _) infoMail rfl (by simp [mcc, Value.oneCell']) ?_; refine world_at (R := fun Z => Blk Z w3.heap.size (mcc p l) 30 ∧ Kept [] w3 Z) ⟨setRow_heap _ _ _ _ _ _ (Blk.new w3 _ _), ((Kept.refl [] w3).alloc _).setRow (Or.inr (Nat.le_refl _)) _⟩ ?_; rintro Z ⟨hzb, hzk⟩; have HB := hide hzb; have HZ := hide hzk; have HX3 := hide ((unhide HX3).step (unhide HZ)); have HNM := hide (NewM.kept (unhide HNM) (unhide HZ)); clear hzb hzk)
      | (refine wpList_load_guard 30 _ rfl _ rfl 30 _ (0, 0) _ (unhide HB) Tryd.underlying30 rfl infoMail rfl ?_)
      | (go_at_call 12; refine (HS _ l).mono ?_; rintro e w4 ⟨rfl, hz⟩; have hb := (unhide HB).kept hz (by simp); have hx := (unhide HX3).step hz; have hn4 := NewM.kept (unhide HNM) hz; clear HB HX3 HNM; have HB := hide hb; have HX3 := hide hx; have HNM := hide hn4; clear hb hx hn4 hz)
      | (refine wpList_store_self rfl 30 _ _ rfl _ (mcc zeroM nilM) rfl rfl 30 ((unhide HR).kept (unhide HX3) (by simp)) infoMail (by simp [mcc, Value.oneCell']) ?_))
    refine ret_struct_tmp rfl rfl ((unhide HR).kept (unhide HX3) (by simp)) Tryd.underlying30 infoMail rfl ?_
    exact DecP.fail (c := 190) ((unhide HK).step (unhide HX3)) (unhide HE) (by omega)
set_option maxRecDepth 100000 in
set_option maxHeartbeats 1600000 in
theorem decode_good (w : World) (bs : List Nat) (b off m xc c v : Nat) (hd : Dc w b off m xc bs c v) (hc1 : m + 4 ≤ xc) (hn : v = c) (ho : (readM (bs.take m)).2 = true) (hs : snd (readM (bs.take m)).1 = true) : Calls Tryd.prog 17 #[.slice (some ⟨b, off, none⟩) (m + 4) xc] w (DecP w bs) := by
  have HD := hide hd
  have HE0 : Hid (decE bs = 0 ∧ decM bs = (readM (bs.take m)).1) := by have h1 := (hd.ok hn).1; rw [ho, hs] at h1; have h2 : decE bs = 0 := (by simpa using h1); exact ⟨h2, by rw [(hd.ok hn).2, if_pos h2]⟩
  have hm := hd.m5
  have hcl := hd.cl
  have hvl := hd.vl
  have hg1 : ((524288 : Int) < ((m + 4 : Nat) : Int)) = False := eq_false (by omega)
  have hg2 : (((m + 4 : Nat) : Int) < 8) = False := eq_false (by omega)
  have hg3 : ((524288 : Int) < (m : Int) + 4) = False := eq_false (by omega)
  have hg4 : ((m : Int) + 4 < 8) = False := eq_false (by omega)
  have e1 : IntKind.u64.wrap (c : Int) = (c : Int) := by rw [IntKind.wrap_u64]; omega
  have e2 : wrap64 ((m : Int) + 4 - 4) = (m : Int) := by unfold wrap64; omega
  have e3 : wrap64 (m : Int) = (m : Int) := by unfold wrap64; omega
  have hvc : ((v : Int) != (c : Int)) = false := by rw [hn]; simp
  obtain ⟨p, hp⟩ : ∃ p, (readM (bs.take m)).1 = p := ⟨_, rfl⟩
  rw [hp] at hs
  have HP := hide hp
  have HE : Hid (decE bs = 0 ∧ decM bs = p) := by rw [← hp]; exact unhide HE0
  have HRD := hide (Dc.rd2 hd hp ho)
  have HS := fun W l => sound_any W p l
  rw [hs] at HS

  clear hd hn hp ho hs
  go_enter Tryd.func17, Tryd.ntmps17
  go_upto_region 1 with fail
  refine world_at (R := fun X => Blk X w.heap.size (mcc zeroM nilM) 30 ∧ Kept [] w X) ⟨Blk.new _ _ _, (Kept.refl [] w).alloc _⟩ ?_
  rintro X ⟨hR, hK⟩
  have HR := hide hR
  have HK := hide hK
  clear hR hK
  go_wp2_with fail
  go_region_with (first
    | (go_at_call 36; refine ((unhide HD).read (by first | exact unhide HK | exact (unhide HK).drew | exact (unhide HK).drewN _)).mono ?_; rintro e w1 ⟨br, F, rfl, hr1, hf1, k1⟩; have HR1 := hide hr1; have hk1 := (Kept.trans (unhide HK) (show Kept [] X w1 from (by first | exact k1 | exact (Kept.refl [] X).drew.step k1)) (by simp)); have HF1 := hide hf1; have HK1 := hide hk1; have HX1 := hide (show Kept [] X w1 from (by first | exact k1 | exact (Kept.refl [] X).drew.step k1)); clear hr1 hf1 k1 hk1)
    | (go_at_call 37; refine ((unhide HD).fixed (unhide HR1)).mono ?_; rintro e w2 ⟨rfl, k2⟩; have hx2 : Kept [] X w2 := (unhide HX1).trans k2 (fun x hx => Or.inr (unhide HF1 x hx)); have HX2 := hide hx2; clear k2 hx2)
    | (go_at_call 31; refine ((unhide HD).sumc ((unhide HK).step (unhide HX2))).mono ?_; rintro e w3 ⟨rfl, hz⟩; have hz2 := hz.symm; subst hz2; clear hz))
  all_goals
    go_wp2_with (first
      | (go_at_call 38; refine (unhide HRD _ ((unhide HK).step (unhide HX2))).mono ?_; rintro e w3 ⟨k3, l, rfl, hnm⟩; have HX3 := hide ((unhide HX2).step k3); have HNM := hide hnm; have HS2 := hide k3.size; clear k3 hnm)
      | (refine wpList_store_row rfl 30 _ _ rfl _ (mcc p l) rfl rfl 30 _ (Blk.new w3 _ _) infoMail rfl (by simp [mcc, Value.oneCell']) ?_; refine world_at (R := fun Z => Blk Z w3.heap.size (mcc p l) 30 ∧ Kept [] w3 Z) ⟨setRow_heap _ _ _ _ _ _ (Blk.new w3 _ _), ((Kept.refl [] w3).alloc _).setRow (Or.inr (Nat.le_refl _)) _⟩ ?_; rintro Z ⟨hzb, hzk⟩; have HB := hide hzb; have HZ := hide hzk; have HX3 := hide ((unhide HX3).step (unhide HZ)); have HNM := hide (NewM.kept (unhide HNM) (unhide HZ)); clear hzb hzk)
      | (refine wpList_load_guard 30 _ rfl _ rfl 30 _ (0, 0) _ (unhide HB) Tryd.underlying30 rfl infoMail rfl ?_)
      | (go_at_call 12; refine (HS _ l).mono ?_; rintro e w4 ⟨rfl, hz⟩; have hb := (unhide HB).kept hz (by simp); have hx := (unhide HX3).step hz; have hn4 := NewM.kept (unhide HNM) hz; clear HB HX3 HNM; have HB := hide hb; have HX3 := hide hx; have HNM := hide hn4; clear hb hx hn4 hz)
      | (refine wpList_store_row rfl 30 _ _ rfl w.heap.size (mcc p l) rfl rfl 30 _ ((unhide HR).kept (unhide HX3) (by simp)) infoMail rfl (by simp [mcc, Value.oneCell']) ?_))
    refine ret_struct_tmp rfl rfl (setRow_heap _ _ _ _ _ _ ((unhide HR).kept (unhide HX3) (by simp))) Tryd.underlying30 infoMail rfl ?_
    exact DecP.good (unhide HE) (unhide HK) (unhide HX3) (unhide HNM) (Nat.lt_of_lt_of_le (unhide HR).lt (unhide HX2).size)
theorem decode_any (w : World) (x : Value) (bs : List Nat) (ht : Tab w) (hx : Wide w x bs) (hb : ∀ y ∈ bs, y < 256) : Calls Tryd.prog 17 #[x] w (DecP w bs) := by
  rcases Nat.lt_or_ge 524288 bs.length with h1 | h1
  · exact decode_far w x bs hx h1
  · rcases Nat.lt_or_ge bs.length 8 with h2 | h2
    · exact decode_few w x bs hx h2
    · obtain ⟨xa, xc, rfl⟩ := wide_len hx
      obtain ⟨b, off, m, c, v, rfl, hm, g1, _, hd⟩ := Dc.of ht hx h2 h1 hb
      rw [hm]
      by_cases hn : v = c
      · cases ho : (readM (bs.take m)).2 with
        | false => exact decode_odd w bs b off m xc c v hd g1 hn ho
        | true =>
          cases hs : snd (readM (bs.take m)).1 with
          | false => exact decode_unsound w bs b off m xc c v hd g1 hn ho hs
          | true => exact decode_good w bs b off m xc c v hd g1 hn ho hs
      · exact decode_sum w bs b off m xc c v hd g1 hn
end Go.Proofs.YtfhfkpgfnlmfhaaDoor

/- The laws' awake. -/
namespace Go.Proofs.YtfhfkpgfnlmfhaaDoor
open Go.RowKit

theorem encA_any {w : World} (ht : Tab w) : Calls Tryd.prog 11 #[mv pA nilM] w fun e w' => ∃ a cap, e = .returned (.tuple #[.slice a 10 cap, .int .i64 0]) ∧ Sees w' (.slice a 10 cap) wantA ∧ Kept [] w w' := by
  refine (encode_any w pA nilM ht (MW.A w)).mono ?_
  rintro e w' ⟨hk, ⟨_, a, cap, rfl, ho⟩ | ⟨hs, _⟩⟩
  · have hs := Sees.of_own ho
    rw [encA] at hs ⊢
    exact ⟨a, cap, rfl, hs, hk⟩
  · rw [sndA] at hs; cases hs
theorem sumB_any {w : World} {x : Value} (ht : Tab w) (h : Wide w x wantB) : Calls Tryd.prog 18 #[x] w fun e w' => ∃ a cap, e = .returned (.slice a 10 cap) ∧ Sees w' (.slice a 10 cap) wantA ∧ Kept [] w w' := by
  refine (summed_any ht h byteB (by simp [wantB])).mono ?_
  rintro e w' ⟨hk, a, cap, rfl, ho⟩
  have hs := Sees.of_own ho
  rw [sumA] at hs ⊢
  exact ⟨a, cap, rfl, hs, hk⟩
theorem decA_any {w : World} {x : Value} (ht : Tab w) (h : Wide w x wantA) : Calls Tryd.prog 17 #[x] w fun e w' => ∃ l, e = .returned (.tuple #[.agg (mcc pA l), .int .i64 0]) ∧ MW w' pA l ∧ Kept [] w w' := by
  refine (decode_any w x wantA ht h byteA).mono ?_
  rintro e w' ⟨hk, l, rfl, hn⟩
  have hm := hn.mw byteA
  rw [decA.1, decA.2] at *
  exact ⟨l, rfl, hm, hk⟩
theorem decA0_any {w : World} {x : Value} (ht : Tab w) (h : Wide w x (wantA ++ [0])) : Calls Tryd.prog 17 #[x] w fun e w' => ∃ l, e = .returned (.tuple #[.agg (mcc zeroM l), .int .i64 191]) ∧ Kept [] w w' := by
  refine (decode_any w x (wantA ++ [0]) ht h byteA0).mono ?_
  rintro e w' ⟨hk, l, rfl, hn⟩
  have hz : decM (wantA ++ [0]) = zeroM := by unfold decM; rw [decA0, if_neg (by decide)]
  rw [decA0, hz]
  exact ⟨l, rfl, hk⟩
theorem seesB (w : World) : Sees (w.alloc (.cells #[.int .u8 7, .int .u8 2, .int .u8 0, .int .u8 63, .int .u8 200, .int .u8 1] 5)) (.slice (some ⟨w.heap.size, 0, none⟩) 6 6) wantB := by
  refine Or.inr ⟨w.heap.size, 0, 6, rfl, by simp [wantB], by unfold maxLen; omega, by simp, fun j hj => ?_⟩
  rw [(Blk.new w _ _).cell]
  simp only [wantB, List.length_cons, List.length_nil] at hj
  match j, hj with
  | 0, _ => rfl
  | 1, _ => rfl
  | 2, _ => rfl
  | 3, _ => rfl
  | 4, _ => rfl
  | 5, _ => rfl
/-- What awake has when all has been asked. -/
structure AW (w : World) (p q : Value) (b b2 : Nat) (l : Lm) (X : World) : Prop where
  two : MW X pA l
  b1 : Blk X b (mcc pA nilM) 30
  bb : Blk X b2 (mcc pA l) 30
  sp : Sees X p wantA
  sq : Sees X q wantA
  kept : Kept [] w X
theorem AW.go {w : World} {p q : Value} {b b2 : Nat} {l : Lm} {X Y : World} (h : AW w p q b b2 l X) (k : Kept [] X Y) : AW w p q b b2 l Y := ⟨h.two.kept k, h.b1.kept k (by simp), h.bb.kept k (by simp), h.sp.kept k (by simp), h.sq.kept k (by simp), h.kept.step k⟩

set_option maxRecDepth 100000 in
set_option maxHeartbeats 1600000 in
theorem awake_any (w : World) (ht : Tab w) : Calls Tryd.prog 15 #[] w fun e w' => e = .returned (.bool true) ∧ Kept [] w w' := by
  have HT := hide (fun W (k : Kept [] w W) => ht.kept k (by simp))
  clear ht
  go_enter Tryd.func15, Tryd.ntmps15
  go_upto_region 2 with (refine wpList_store_row rfl 30 _ _ rfl _ (mcc pA nilM) rfl rfl 30 _ (Blk.new w _ _) infoMail rfl (by simp [mcc, Value.oneCell']) ?_)
  refine world_at (R := fun X => Blk X w.heap.size (mcc pA nilM) 30 ∧ Kept [] w X) ⟨setRow_heap _ _ _ _ _ _ (Blk.new w _ _), ((Kept.refl [] w).alloc _).setRow (Or.inr (Nat.le_refl _)) _⟩ ?_
  rintro X0 ⟨hb0, hk0⟩
  have HB0 := hide hb0
  have HK0 := hide hk0
  clear hb0 hk0
  go_upto_region 5 with (first
    | (refine wpList_load_guard 30 _ rfl _ rfl 30 _ (0, 0) _ (unhide HB0) Tryd.underlying30 rfl infoMail rfl ?_)
    | (go_at_call 11; refine (encA_any (unhide HT _ (unhide HK0))).mono ?_; rintro e w1 ⟨pa, pc, rfl, hs1, k1⟩; have HB1 := hide ((unhide HB0).kept k1 (by simp)); have HK1 := hide ((unhide HK0).step k1); have HS1 := hide hs1; clear hs1 k1 HB0 HK0)
    | (go_at_call 18; refine (sumB_any (unhide HT _ ((unhide HK1).alloc _)) (Or.inl (seesB w1))).mono ?_; rintro e w2 ⟨sa, sc, rfl, hs2, k2⟩; have k2' := ((Kept.refl [] w1).alloc _).step k2; have HB2 := hide ((unhide HB1).kept k2' (by simp)); have HK2 := hide ((unhide HK1).step k2'); have HS2 := hide ((unhide HS1).kept k2' (by simp)); have HW2 := hide hs2; clear hs2 k2 k2' HB1 HK1 HS1)
    | (go_at_call 17; refine (decA_any (unhide HT _ (unhide HK2)) (Or.inl (unhide HW2))).mono ?_; rintro e w3 ⟨l, rfl, hm3, k3⟩; have HB3 := hide ((unhide HB2).kept k3 (by simp)); have HK3 := hide ((unhide HK2).step k3); have HS3 := hide ((unhide HS2).kept k3 (by simp)); have HW3 := hide ((unhide HW2).kept k3 (by simp)); have HM3 := hide hm3; clear hm3 k3 HB2 HK2 HS2 HW2)
    | (refine wpList_store_row rfl 30 _ _ rfl _ (mcc pA l) rfl rfl 30 _ (Blk.new w3 _ _) infoMail rfl (by simp [mcc, Value.oneCell']) ?_))
  refine world_at (R := fun X => Kept [] w3 X ∧ Blk X w3.heap.size (mcc pA l) 30) ⟨((Kept.refl [] w3).alloc _).setRow (Or.inr (Nat.le_refl _)) _, setRow_heap _ _ _ _ _ _ (Blk.new w3 _ _)⟩ ?_
  rintro X ⟨kx, hbx⟩
  have hX : AW w (.slice pa 10 pc) (.slice sa 10 sc) w.heap.size w3.heap.size l X := ⟨(unhide HM3).kept kx, (unhide HB3).kept kx (by simp), hbx, (unhide HS3).kept kx (by simp), (unhide HW3).kept kx (by simp), (unhide HK3).step kx⟩
  clear HB3 HK3 HS3 HW3 HM3 kx hbx
  have HX := hide hX
  clear hX
  obtain ⟨i0, hi, hz0, hz1, hz2⟩ := info_parts Tryd.info5
  go_wp2_with (at_builtin; refine wpList_append_wide _ rfl _ _ 23 rfl X.heap.size 5 i0 (.int .u8 0) Tryd.underlying23 hi hz0 hz1 hz2 rfl _ [] rfl (World.ownsRow_made X #[] 0 (Nat.le_refl _) (Nat.zero_le _) rfl) _ wantA rfl (Or.inl ((unhide HX).sq.kept ((Kept.refl [] X).alloc _) (by simp))) ?c1 ?c2 ?_)
  case c1 => simp [wantA]
  case c2 => simp
  intro v1 w4 hown hg hat
  have hk1 : Kept [] X w4 := ((Kept.refl [] X).alloc _).grown hg (fun k hk => by simp [Value.ownBlock] at hk; right; omega)
  obtain ⟨a1, c1, hv⟩ := own_len hown
  subst hv
  have HO1 := hide hown
  have HX3 := hide ((unhide HX).go hk1)
  have HKX3 := hide hk1
  have hs1 := hk1.size
  clear hown hg hat hk1
  go_wp2_with (at_builtin; refine wpList_append_sees _ rfl _ _ 23 rfl X.heap.size 5 i0 (.int .u8 0) Tryd.underlying23 hi hz0 hz1 hz2 rfl _ wantA rfl ((unhide HO1).alloc _) _ [0] rfl (news_one w4 0) ?c3 ?c4 ?_)
  case c3 => simp [wantA]
  case c4 => simp; omega
  intro v2 w5 hown hg hat
  have hkx4 : Kept [] X w5 := ((unhide HKX3).alloc _).grown hg (fun k hk => Or.inr ((unhide HO1).lt k hk).1)
  have hsee : Sees w5 v2 (wantA ++ [0]) := Sees.of_own hown
  obtain ⟨a2, c2, hv⟩ := own_len hown
  subst hv
  have HS2 := hide hsee
  have HX4 := hide ((unhide HX).go hkx4)
  clear hown hg hat hkx4 hsee HX HX3 HKX3
  have hd0 : Hid (Calls Tryd.prog 17 #[.slice a2 (wantA ++ [0]).length c2] w5 _) := decA0_any (unhide HT _ (unhide HX4).kept) (Or.inl (unhide HS2))
  have hlen : (wantA ++ [0]).length = 11 := rfl
  rw [hlen] at hd0
  try rw [hlen]
  go_upto_region 6 with (first
    | (go_at_call 17; refine (unhide hd0).mono ?_; rintro e w6 ⟨l2, rfl, k6⟩; have HX5 := hide ((unhide HX4).go k6); clear hd0 HX4)
    | (refine wpList_store_row rfl 30 _ _ rfl _ (mcc zeroM l2) rfl rfl 30 _ (Blk.new w6 _ _) infoMail rfl (by simp [mcc, Value.oneCell']) ?_))
  refine world_at (R := fun X => Kept [] w6 X) (((Kept.refl [] w6).alloc _).setRow (Or.inr (Nat.le_refl _)) _) ?_
  rintro Y kY
  have HX6 := hide ((unhide HX5).go kY)
  clear HX5 kY
  go_wp2_with (first
    | (go_at_call 14; refine (same_full (Or.inl (unhide HX6).sp) (Or.inl (unhide HX6).sq) (by simp [wantA])).mono ?_; rintro e w8 ⟨rfl, k6⟩; have HX7 := hide ((unhide HX6).go k6); clear HX6; simp only [decide_true])
    | (refine wpList_load_guard 30 _ rfl _ rfl 30 _ (0, 0) _ (unhide HX7).b1 Tryd.underlying30 rfl infoMail rfl ?_)
    | (refine wpList_load_guard 30 _ rfl _ rfl 30 _ (0, 0) _ (unhide HX7).bb Tryd.underlying30 rfl infoMail rfl ?_)
    | (go_at_call 16; refine (sameMail_any (MW.A _) (unhide HX7).two).mono ?_; rintro e w9 ⟨rfl, k7⟩; rw [(eqM_iff pA pA).2 rfl]; have HK7 := hide ((unhide HX7).kept.step k7)))
  all_goals
    go_ret
    exact ⟨rfl, unhide HK7⟩
end Go.Proofs.YtfhfkpgfnlmfhaaDoor

/- What Decode and Encode answer, case by case. -/
namespace Go.Proofs.YtfhfkpgfnlmfhaaDoor
open Go.RowKit

/-- Why bytes are no form. -/
theorem decE_cases (bs : List Nat) : decE bs = 0 ∨ (decE bs = 3 ∧ 524288 < bs.length) ∨ (decE bs = 190 ∧ bs.length < 8) ∨ (decE bs = 190 ∧ 8 ≤ bs.length ∧ bs.length ≤ 524288) ∨ (decE bs = 191 ∧ (8 ≤ bs.length ∧ bs.length ≤ 524288) ∧ ∀ x, bs ≠ summed x) := by
  unfold decE
  split
  · rename_i h; exact Or.inr (Or.inl ⟨rfl, h⟩)
  · rename_i h1
    split
    · rename_i h; exact Or.inr (Or.inr (Or.inl ⟨rfl, h⟩))
    · rename_i h2
      split
      · rename_i h3
        refine Or.inr (Or.inr (Or.inr (Or.inr ⟨rfl, ⟨by omega, by omega⟩, fun x hx => h3 ?_⟩)))
        rw [hx, (summed_parts x).1, (summed_parts x).2]
      · split
        · exact Or.inl rfl
        · exact Or.inr (Or.inr (Or.inr (Or.inl ⟨rfl, by omega, by omega⟩)))
theorem decM_zero {bs : List Nat} (h : decE bs ≠ 0) : decM bs = zeroM := by unfold decM; rw [if_neg h]
theorem dec_bad {w : World} {x : Value} {bs : List Nat} (ht : Tab w) (hx : Wide w x bs) (hb : ∀ y ∈ bs, y < 256) {c : Nat} (h : decE bs = c) (hc : c ≠ 0) : Calls Tryd.prog 17 #[x] w fun e w' => ∃ l, e = .returned (.tuple #[.agg (mcc zeroM l), .int .i64 (c : Nat)]) ∧ MW w' zeroM l ∧ Kept [] w w' := by
  refine (decode_any w x bs ht hx hb).mono ?_
  rintro e w' ⟨hk, l, rfl, hn⟩
  have hm := hn.mw hb
  have hz := decM_zero (bs := bs) (by omega)
  rw [hz] at hm ⊢
  rw [h]
  exact ⟨l, rfl, hm, hk⟩
theorem dec_good {w : World} {x : Value} {bs : List Nat} (ht : Tab w) (hx : Wide w x bs) (hb : ∀ y ∈ bs, y < 256) (h : decE bs = 0) : Calls Tryd.prog 17 #[x] w fun e w' => ∃ l, e = .returned (.tuple #[.agg (mcc (decM bs) l), .int .i64 0]) ∧ MW w' (decM bs) l ∧ Kept [] w w' := by
  refine (decode_any w x bs ht hx hb).mono ?_
  rintro e w' ⟨hk, l, rfl, hn⟩
  have hm := hn.mw hb
  rw [h]
  exact ⟨l, rfl, hm, hk⟩
theorem enc_good {w : World} {p : Ml} {l : Lm} (ht : Tab w) (hm : MW w p l) (hs : snd p = true) : Calls Tryd.prog 11 #[.agg (mcc p l)] w fun e w' => ∃ a cap, e = .returned (.tuple #[.slice a (enc p).length cap, .int .i64 0]) ∧ Sees w' (.slice a (enc p).length cap) (enc p) ∧ Kept [] w w' := by
  refine (encode_any w p l ht hm).mono ?_
  rintro e w' ⟨hk, ⟨_, a, cap, rfl, ho⟩ | ⟨hs', _⟩⟩
  · exact ⟨a, cap, rfl, Sees.of_own ho, hk⟩
  · rw [hs] at hs'; cases hs'
theorem enc_bad {w : World} {p : Ml} {l : Lm} (ht : Tab w) (hm : MW w p l) (hs : snd p = false) : Calls Tryd.prog 11 #[.agg (mcc p l)] w fun e w' => e = .returned (.tuple #[.slice none 0 0, .int .i64 190]) ∧ Kept [] w w' := by
  refine (encode_any w p l ht hm).mono ?_
  rintro e w' ⟨hk, ⟨hs', _⟩ | ⟨_, rfl⟩⟩
  · rw [hs] at hs'; cases hs'
  · exact ⟨rfl, hk⟩
theorem same_mail {w : World} {p : Ml} {l m : Lm} (h1 : MW w p l) (h2 : MW w p m) : Calls Tryd.prog 16 #[.agg (mcc p l), .agg (mcc p m)] w fun e w' => e = .returned (.bool true) ∧ Kept [] w w' := by
  have h := sameMail_any h1 h2
  rw [(eqM_iff p p).2 rfl] at h
  exact h
theorem sound_is {w : World} {p : Ml} {l : Lm} : Calls Tryd.prog 12 #[.agg (mcc p l)] w fun e w' => e = .returned (.bool (snd p)) ∧ Kept [] w w' := sound_any w p l
end Go.Proofs.YtfhfkpgfnlmfhaaDoor

/- The document's CRC and Summed. -/
namespace Go.Proofs.YtfhfkpgfnlmfhaaDoor
open Go.RowKit

theorem and_one (v : Nat) (hv : v < 4294967296) : bits .and .u32 (v : Int) 1 = ((v % 2 : Nat) : Int) := by
  have := u32_and_nat v 1 hv (by omega)
  rw [nat_mask1] at this
  simpa using this
theorem stp_of_one {x : Nat} (hx : x < 4294967296) (h : ((x : Int) % 2 == 1) = true) : bits .xor .u32 ((x : Int) / 2) 2197175160 = (stp x : Nat) := by
  have h2 : x % 2 = 1 := by rw [beq_iff_eq] at h; omega
  have := u32_xor_nat (x / 2) 2197175160 (by omega) (by omega)
  unfold stp
  rw [if_pos h2, ← this]
  simp
theorem stp_of_zero {x : Nat} (h : ((x : Int) % 2 == 1) = false) : (x : Int) / 2 = (stp x : Nat) := by
  have h2 : ¬ x % 2 = 1 := by rw [beq_eq_false_iff_ne] at h; omega
  unfold stp
  rw [if_neg h2]; omega

set_option maxRecDepth 100000 in
set_option maxHeartbeats 400000 in
set_option maxRecDepth 100000 in
set_option maxHeartbeats 400000 in
theorem rstep_any (v : Nat) (hv : v < 4294967296) (w : World) :
    Calls Tryd.prog 91 #[.int .u32 v] w fun e w' => e = .returned (.int .u32 (stp v : Nat)) ∧ w' = w := by
  have ha := and_one v hv
  go_enter Tryd.func91, Tryd.ntmps91
  go_wp2
  · rename_i hb
    go_ret
    exact ⟨by rw [← stp_of_one hv hb]; rfl, rfl⟩
  · rename_i hb
    go_ret
    exact ⟨by rw [← stp_of_zero hb]; rfl, rfl⟩

set_option maxRecDepth 100000 in
set_option maxHeartbeats 1000000 in
theorem rcrc_any {w : World} {v : Value} {bs : List Nat} (hs : Wide w v bs) (hb : ∀ x ∈ bs, x < 256) (hl : bs.length ≤ 140737488355328) :
    Calls Tryd.prog 73 #[v] w fun e w' => e = .returned (.int .u32 (crc bs : Nat)) ∧ w' = w := by
  obtain ⟨a, cap, rfl⟩ := wide_len hs
  have hcl : (4294967295 : Nat) < 4294967296 := by omega
  have HG : Hid (crc bs = cpl (takes 4294967295 bs)) := by
    unfold Hid crc grown
    rw [show cpl 0 = 4294967295 by decide]
  have H3 := hide hb
  have H4 := hide hs
  clear hb hs
  generalize hL : bs.length = L at *
  have HL := hide hL
  have hml : L ≤ 9223372036854775807 := by omega
  clear hL
  go_enter Tryd.func73, Tryd.ntmps73
  go_wp2_with fail
  go_loop [3, 4] (fun r i => ∃ k : Nat, k ≤ L ∧ i = .int .i64 k ∧ r = .int .u32 (takes 4294967295 (bs.take k) : Nat)) (fun _ i => L - (intOf i).toNat)
  case atStart => exact ⟨0, by omega, rfl, rfl⟩
  case round =>
    obtain ⟨k, hk, rfl, rfl⟩ := hrel
    have hlt := takes_lt hcl (bs.take k) (fun b hb => unhide H3 b (List.mem_of_mem_take hb))
    by_cases hkl : k < L
    · obtain ⟨b, off, rfl, hc⟩ := (unhide H4).at k (by rw [unhide HL]; exact hkl)
      have hx := getD_lt8 (unhide H3) (show k < bs.length by rw [unhide HL]; exact hkl)
      have HE : Hid (takes 4294967295 (bs.take (k + 1)) = take1 (takes 4294967295 (bs.take k)) (bs.getD k 0)) := takes_succ _ bs k (by rw [unhide HL]; exact hkl)
      generalize bs.getD k 0 = x at hc HE hx
      generalize takes 4294967295 (bs.take k) = r at hlt HE
      have e1 := u32_xor_nat r x hlt (by omega)
      have l1 : r ^^^ x < 4294967296 := Nat.xor_lt_two_pow (n := 32) hlt (by omega)
      have HE2 : Hid (takes 4294967295 (bs.take (k + 1)) = stps 8 (r ^^^ x)) := unhide HE
      clear HE
      generalize r ^^^ x = y at e1 l1 HE2
      go_wp2_with fail
      go_loop [3, 5] (fun r2 i2 => ∃ j : Nat, j ≤ 8 ∧ i2 = .int .i64 j ∧ r2 = .int .u32 (stps j y : Nat)) (fun _ i2 => 8 - (intOf i2).toNat)
      case atStart => exact ⟨0, by omega, rfl, rfl⟩
      case round =>
        obtain ⟨j, hj, rfl, rfl⟩ := hrel
        by_cases hjl : j < 8
        · have l2 := stps_lt j l1
          have HST := hide (rstep_any _ l2)
          rw [← stps_succ'] at HST
          generalize hz : stps (j + 1) y = z at HST
          have HZ := hide hz
          clear hz
          generalize stps j y = t at l2 HST
          go_wp2_with (first | (go_at_call 91; refine (unhide HST _).mono ?_; rintro e w' ⟨rfl, rfl⟩))
          exact ⟨⟨j + 1, by omega, by simp, by rw [unhide HZ]⟩, by simp [intOf]; omega⟩
        · obtain rfl : j = 8 := by omega
          go_wp2
          exact ⟨⟨k + 1, by omega, by simp, by rw [unhide HE2]⟩, by simp [intOf]; omega⟩
    · obtain rfl : k = L := by omega
      have hfull : bs.take k = bs := by rw [← unhide HL, List.take_length]
      rw [hfull] at hlt ⊢
      have e4 : bits .xor .u32 ((takes 4294967295 bs : Nat) : Int) 4294967295 = (cpl (takes 4294967295 bs) : Nat) := u32_xor_nat _ 4294967295 hlt (by omega)
      rw [← unhide HG] at e4
      generalize hgg : crc bs = g at e4
      have HGG := hide hgg
      clear hgg
      generalize takes 4294967295 bs = q at hlt e4
      go_wp2
      go_ret
      exact ⟨by rw [unhide HGG]; rfl, rfl⟩


set_option maxRecDepth 100000 in
set_option maxHeartbeats 400000 in
theorem rsummed_any {w : World} {x : Value} {bs : List Nat} (hx : Wide w x bs) (hb : ∀ y ∈ bs, y < 256) (hl : bs.length + 4 ≤ 140737488355328) : Calls Tryd.prog 46 #[x] w (SumP w bs) := by
  obtain ⟨i0, hi, hz0, hz1, hz2⟩ := info_parts Tryd.info5
  have HI := hide (And.intro hi (And.intro hz0 (And.intro hz1 hz2)))
  have HC := hide (rcrc_any hx hb (by omega))
  have HX := hide hx
  have hcl := crc_lt hb
  obtain ⟨c, hc⟩ : ∃ c, crc bs = c := ⟨_, rfl⟩
  rw [hc] at HC hcl
  obtain ⟨s, hs⟩ : ∃ s, s = bs ++ le c 4 := ⟨_, rfl⟩
  have HSM : Hid (summed bs = s) := by unfold Hid summed; rw [hc, hs]
  obtain ⟨xa, xc, rfl⟩ := wide_len hx
  have HCL := hide hcl
  have HSS := hide hs
  have HL := hide hl
  clear hx hb hc hs hl
  go_enter Tryd.func46, Tryd.ntmps46
  go_upto_region 4 with (first
    | (go_at_call 73; refine (unhide HC).mono ?_; rintro e w1 ⟨rfl, hz⟩; have hz2' := hz.symm; subst hz2'; clear hz)
    | (at_builtin; refine wpList_append_wide _ rfl _ _ 23 rfl w.heap.size 5 i0 (.int .u8 0) Tryd.underlying23 hi hz0 hz1 hz2 rfl _ [] rfl ⟨rfl, Or.inl ⟨rfl, rfl⟩⟩ _ bs rfl (unhide HX) ?c1 ?c2 ?_))
  case c1 => have := unhide HL; simp; omega
  case c2 => simp
  intro v1 w3 hown hg hat
  have hk1 : Kept [] w w3 := (Kept.refl [] w).grown hg (fun k hk => by simp [Value.ownBlock] at hk)
  obtain ⟨a1, c1, hv⟩ := own_len hown
  subst hv
  have hs1 := hk1.size
  have HO1 := hide hown
  have HK := hide hk1
  have HS1 := hide hs1
  clear hown hg hat hk1 hs1
  go_wp2_with (at_builtin; refine wpList_append_sees _ rfl _ _ 23 rfl w.heap.size 5 i0 (.int .u8 0) Tryd.underlying23 hi hz0 hz1 hz2 rfl _ bs rfl ((unhide HO1).alloc _) _ (le c 4) rfl (news_four w3 (unhide HCL)) ?c3 ?c4 ?_)
  case c3 => rw [le_len]; exact unhide HL
  case c4 => rw [World.size_alloc]; exact Nat.le_succ_of_le (unhide HS1)
  intro v2 w4 hown4 hgrow4 hat4
  obtain ⟨a2, c2, hv'⟩ := own_len hown4
  subst hv'
  have HK4 := hide (((unhide HK).alloc _).grown hgrow4 (fun k hk => Or.inr ((unhide HO1).lt k hk).1))
  have HO4 := hide hown4
  clear hown4 hgrow4 hat4
  go_wp2_with fail
  go_ret
  refine ⟨unhide HK4, a2, c2, ?_, ?_⟩
  · rw [unhide HSM, unhide HSS, List.length_append]; rfl
  · have h := unhide HO4
    rw [← List.length_append] at h
    rw [unhide HSM, unhide HSS]; exact h
end Go.Proofs.YtfhfkpgfnlmfhaaDoor

/- The document's small questions about a message. -/
namespace Go.Proofs.YtfhfkpgfnlmfhaaDoor
open Go.RowKit

set_option maxRecDepth 100000 in
theorem rserver_any (w : World) (n : Int) : Calls Tryd.prog 22 #[.int .i64 n] w fun e w' => e = .returned (.bool (srv n)) ∧ Kept [] w w' := by
  go_enter Tryd.func22, Tryd.ntmps22
  go_wp2_with fail
  all_goals
    go_ret
    refine ⟨ret_bool ?_, Kept.refl _ _⟩
    rw [Bool.eq_iff_iff]
    simp [srv, wthn]
    try omega
set_option maxRecDepth 100000 in
theorem rclient_any (w : World) (m n : Int) (h1 : -9223372036854775808 ≤ n) (h2 : n ≤ 9223372036854775807) : Calls Tryd.prog 21 #[.int .i64 m, .int .i64 n] w fun e w' => e = .returned (.bool (cli n m)) ∧ Kept [] w w' := by
  by_cases h0 : 0 ≤ n ∧ n < 16
  · have e1 : wrap64 (100 + n) = 100 + n := by unfold wrap64; omega
    go_enter Tryd.func21, Tryd.ntmps21
    go_wp2_with fail
    all_goals
      go_ret
      refine ⟨ret_bool ?_, Kept.refl _ _⟩
      rw [Bool.eq_iff_iff]
      simp_all [cli, wthn]
      try omega
  · go_enter Tryd.func21, Tryd.ntmps21
    go_wp2_with fail
    all_goals
      go_ret
      refine ⟨ret_bool ?_, Kept.refl _ _⟩
      rw [Bool.eq_iff_iff]
      simp_all [cli, wthn]
      try omega
set_option maxRecDepth 100000 in
theorem rnoOp_any (w : World) (k : Int) (ka : Option Addr) (kl kc : Nat) (va : Option Addr) (vl vc : Nat) (rev : Int) : Calls Tryd.prog 24 #[ov k ka kl kc va vl vc rev] w fun e w' => e = .returned (.bool (blo k kl vl rev)) ∧ Kept [] w w' := by
  unfold ov
  go_enter Tryd.func24, Tryd.ntmps24
  go_wp2_with fail
  all_goals
    go_ret
    refine ⟨ret_bool ?_, (Kept.refl _ _).alloc _⟩
    rw [Bool.eq_iff_iff]
    simp [blo]
    try omega
set_option maxRecDepth 100000 in
theorem rnoAns_any (w : World) (d : Bool) (ka : Option Addr) (kl kc : Nat) (va : Option Addr) (vl vc : Nat) (rev at_ : Int) : Calls Tryd.prog 20 #[av d ka kl kc va vl vc rev at_] w fun e w' => e = .returned (.bool (bla d kl vl rev at_)) ∧ Kept [] w w' := by
  unfold av
  cases d <;>
  · go_enter Tryd.func20, Tryd.ntmps20
    go_wp2_with fail
    all_goals
      go_ret
      refine ⟨ret_bool ?_, (Kept.refl _ _).alloc _⟩
      rw [Bool.eq_iff_iff]
      simp [bla]
      try omega
set_option maxRecDepth 100000 in
set_option maxHeartbeats 800000 in
theorem rfit_any (w : World) (d : Bool) (ka : Option Addr) (kl kc : Nat) (va : Option Addr) (vl vc : Nat) (rev at_ : Int) : Calls Tryd.prog 47 #[av d ka kl kc va vl vc rev at_] w fun e w' => e = .returned (.bool (fit kl vl rev at_)) ∧ Kept [] w w' := by
  unfold av
  go_enter Tryd.func47, Tryd.ntmps47
  go_wp2_with fail
  all_goals
    go_ret
    refine ⟨ret_bool ?_, (Kept.refl _ _).alloc _⟩
    rw [Bool.eq_iff_iff]
    simp_all [fit]
    try omega
def rgt2 (k : Int) (kl vl : Nat) (rev : Int) : Bool := decide (((k = 1 ∨ k = 3) ∧ 1 ≤ kl ∧ kl ≤ 64 ∧ vl = 0 ∧ rev = 0) ∨ (k = 2 ∧ 1 ≤ kl ∧ kl ≤ 64 ∧ vl ≤ 256 ∧ rev = 0) ∨ (k = 4 ∧ 1 ≤ kl ∧ kl ≤ 64 ∧ vl ≤ 256 ∧ 0 ≤ rev ∧ rev ≤ 1099511627776) ∨ (k = 5 ∧ kl ≤ 65 ∧ vl = 0 ∧ rev = 0))
set_option maxRecDepth 100000 in
set_option maxHeartbeats 1600000 in
theorem rright_any (w : World) (k : Int) (ka : Option Addr) (kl kc : Nat) (va : Option Addr) (vl vc : Nat) (rev : Int) : Calls Tryd.prog 23 #[ov k ka kl kc va vl vc rev] w fun e w' => e = .returned (.bool (rgt2 k kl vl rev)) ∧ Kept [] w w' := by
  unfold ov at *
  go_enter Tryd.func23, Tryd.ntmps23
  go_wp2_with fail
  refine world_at (R := fun W => Kept [] w W ∧ Blk W w.heap.size #[.int .i64 k, .slice ka kl kc, .slice va vl vc, .int .i64 rev] 25) ⟨(Kept.refl _ _).alloc _, Blk.new _ _ _⟩ ?_
  rintro W ⟨hkW, hbW⟩
  have c0 := hbW.cell 0
  have c1 := hbW.cell 1
  have c2 := hbW.cell 2
  have c3 := hbW.cell 3
  simp at c0 c1 c2 c3
  go_region_held3 (fun w' => w'.cell? ⟨w.heap.size, 0, none⟩ = some (.int .i64 k) ∧ w'.cell? ⟨w.heap.size, 1, none⟩ = some (.slice ka kl kc) ∧ w'.cell? ⟨w.heap.size, 2, none⟩ = some (.slice va vl vc) ∧ w'.cell? ⟨w.heap.size, 3, none⟩ = some (.int .i64 rev)) (go_keep) (fail)
  go_wp2_with fail
  all_goals
    go_ret
    refine ⟨ret_bool ?_, by first | exact hkW | exact hkW.drew⟩
    rw [Bool.eq_iff_iff]
    simp [rgt2] at *
    try omega
theorem rgt_same (k : Int) (kl vl : Nat) (rev : Int) : rgt2 k kl vl rev = rgt k kl vl rev := by
  unfold rgt2 rgt
  rw [Bool.eq_iff_iff]
  repeat' split
  all_goals (simp; omega)
end Go.Proofs.YtfhfkpgfnlmfhaaDoor

/- The document's Sound. -/
namespace Go.Proofs.YtfhfkpgfnlmfhaaDoor
open Go.RowKit

/-- The message's box. -/
structure RB (w : World) (p : Ml) (l : Lm) (X : World) : Prop where
  blk : Blk X w.heap.size (mcc p l) 30
  kept : Kept [] w X
theorem RB.go {w : World} {p : Ml} {l : Lm} {X Y : World} (h : RB w p l X) (k : Kept [] X Y) : RB w p l Y := ⟨h.blk.kept k (by simp), h.kept.step k⟩
theorem RB.begin (w : World) (p : Ml) (l : Lm) : RB w p l (w.alloc (.cells (mcc p l) 30)) := ⟨Blk.new _ _ _, (Kept.refl [] w).alloc _⟩
set_option linter.unusedSimpArgs false
set_option maxRecDepth 100000 in
set_option maxHeartbeats 1600000 in
theorem rreplies_any (w : World) (p : Ml) (l : Lm) : Calls Tryd.prog 25 #[.agg (mcc p l)] w fun e w' => e = .returned (.bool (sVerd p)) ∧ Kept [] w w' := by
  go_enter Tryd.func25, Tryd.ntmps25
  go_upto_region 1 with fail
  refine world_at (R := fun X => RB w p l X) (RB.begin w p l) ?_
  rintro X hx
  have H0 := hide hx
  clear hx
  obtain ⟨c0, c1, c2, c3, c4, c5, c6, c7, c8, c9, c10, c11, c12, c13, c14, c15, c16, c17, c18, c19⟩ := box20 (unhide H0).blk
  go_wp2_with (first
    | (go_at_call 47; refine (rfit_any _ _ _ _ _ _ _ _ _ _).mono ?_; rintro e w2 ⟨rfl, k2⟩; have H1 := hide ((unhide H0).go k2); clear k2 H0 c0 c1 c2 c3 c4 c5 c6 c7 c8 c9 c10 c11 c12 c13 c14 c15 c16 c17 c18 c19; obtain ⟨c0, c1, c2, c3, c4, c5, c6, c7, c8, c9, c10, c11, c12, c13, c14, c15, c16, c17, c18, c19⟩ := box20 (unhide H1).blk)
    | (go_at_call 20; refine (rnoAns_any _ _ _ _ _ _ _ _ _ _).mono ?_; rintro e w2 ⟨rfl, k2⟩; have H1 := hide ((unhide H0).go k2); clear k2 H0 c0 c1 c2 c3 c4 c5 c6 c7 c8 c9 c10 c11 c12 c13 c14 c15 c16 c17 c18 c19; obtain ⟨c0, c1, c2, c3, c4, c5, c6, c7, c8, c9, c10, c11, c12, c13, c14, c15, c16, c17, c18, c19⟩ := box20 (unhide H1).blk)
    | (go_at_call 22; refine (rserver_any _ _).mono ?_; rintro e w3 ⟨rfl, k3⟩; have H2 := hide ((unhide H1).go k3); clear k3 H1))
  all_goals
    go_ret
    refine ⟨ret_bool ?_, by first | exact (unhide H2).kept | exact (unhide H1).kept | exact (unhide H0).kept⟩
    simp_all [sVerd, fitB, ansB]
    try (rw [Bool.eq_iff_iff]; simp)
theorem snd_k1 {p : Ml} (hk : p.kind = 1) (h0 : 0 ≤ p.shard) (h1 : p.shard < 64) : snd p = (noTrans p && noVerd p && cli p.client p.frm && srv p.dst && decide (1 ≤ p.seq) && decide (p.seq ≤ 1073741824) && rgt2 p.okind p.key.length p.val.length p.rev) := by
  have hw : wthn p.shard 0 63 = true := by simp [wthn]; omega
  rw [rgt_same, snd, sKind, hw, if_pos hk, Bool.eq_iff_iff]
  simp [seqB, wthn]
  constructor
  · rintro ⟨⟨⟨⟨⟨a, b⟩, c⟩, d⟩, e⟩, f⟩; simp_all
  · rintro ⟨⟨⟨⟨⟨⟨a, b⟩, c⟩, d⟩, e⟩, f⟩, g⟩; simp_all
theorem snd_k2 {p : Ml} (hk : p.kind = 2) (h0 : 0 ≤ p.shard) (h1 : p.shard < 64) : snd p = (noTrans p && opB p && srv p.frm && cli p.client p.dst && decide (1 ≤ p.seq) && decide (p.seq ≤ 1073741824) && sVerd p) := by
  have hw : wthn p.shard 0 63 = true := by simp [wthn]; omega
  rw [snd, sKind, hw, if_neg (by omega), if_pos hk, Bool.eq_iff_iff]
  simp [seqB, wthn]
  constructor
  · rintro ⟨⟨⟨⟨⟨a, b⟩, c⟩, d⟩, e⟩, f⟩; simp_all
  · rintro ⟨⟨⟨⟨⟨⟨a, b⟩, c⟩, d⟩, e⟩, f⟩, g⟩; simp_all
theorem snd_kh {p : Ml} (hk : 3 ≤ p.kind) (hk8 : p.kind ≤ 8) (h0 : 0 ≤ p.shard) (h1 : p.shard < 64) : snd p = (noVerd p && opB p && decide (p.client = 0) && decide (p.seq = 0) && srv p.frm && srv p.dst && decide (p.frm ≠ p.dst) && decide (1 ≤ p.epoch) && decide (p.epoch ≤ 1073741824) && (if p.kind = 3 then decide (p.copy.length ≤ 262144) else decide (p.root = 0) && decide (p.copy.length = 0))) := by
  have hw : wthn p.shard 0 63 = true := by simp [wthn]; omega
  rw [snd, sKind, hw, if_neg (by omega), if_neg (by omega), Bool.eq_iff_iff]
  by_cases h3 : p.kind = 3
  · rw [if_pos h3, if_pos h3]
    simp [hand, noCall, wthn]
    constructor
    · rintro ⟨a, ⟨⟨⟨b, c⟩, d⟩, e⟩, ⟨f, g⟩, h⟩; simp_all
    · rintro ⟨⟨⟨⟨⟨⟨⟨⟨⟨a, b⟩, c⟩, d⟩, e⟩, f⟩, g⟩, h⟩, i⟩, j⟩; simp_all
  · rw [if_neg h3, if_pos (by omega), if_neg h3]
    simp only [hand, noCall, noCopy, wthn, Bool.true_and, Bool.and_eq_true, decide_eq_true_eq]
    constructor
    · intro h; simp_all
    · intro h; simp_all
end Go.Proofs.YtfhfkpgfnlmfhaaDoor

/- The document's Sound: kinds and shards that there are not. -/
namespace Go.Proofs.YtfhfkpgfnlmfhaaDoor
open Go.RowKit
set_option linter.unusedSimpArgs false

theorem snd_out {p : Ml} (hb : p.kind < 1 ∨ 8 < p.kind ∨ p.shard < 0 ∨ 64 ≤ p.shard) : snd p = false := by
  cases h : snd p
  · rfl
  · obtain ⟨a, b⟩ := (snd_iff p).1 h
    unfold shardP at a
    rcases b with ⟨h1, _⟩ | ⟨h1, _⟩ | ⟨h1, _⟩ | ⟨h1, _⟩ <;> omega
set_option maxRecDepth 100000 in
set_option maxHeartbeats 3200000 in
theorem rsound_0 (w : World) (p : Ml) (l : Lm) (hb : p.kind < 1 ∨ 8 < p.kind ∨ p.shard < 0 ∨ 64 ≤ p.shard) : Calls Tryd.prog 9 #[.agg (mcc p l)] w fun e w' => e = .returned (.bool (snd p)) ∧ Kept [] w w' := by
  have HSK := hide (snd_out hb)
  have q : ((p.kind < 1) = True) ∨ ((p.kind < 1) = False ∧ ((8 : Int) < p.kind) = True) ∨ ((p.kind < 1) = False ∧ ((8 : Int) < p.kind) = False ∧ (p.shard < 0) = True) ∨ ((p.kind < 1) = False ∧ ((8 : Int) < p.kind) = False ∧ (p.shard < 0) = False ∧ ((64 : Int) ≤ p.shard) = True) := by
    simp only [eq_iff_iff, iff_true, iff_false]
    omega
  clear hb
  rcases q with k1 | ⟨k1, k2⟩ | ⟨k1, k2, g0⟩ | ⟨k1, k2, g0, g1⟩
  all_goals
    go_enter Tryd.func9, Tryd.ntmps9
    go_upto_region 1 with fail
    refine world_at (R := fun X => RB w p l X) (RB.begin w p l) ?_
    rintro X hx
    have H0 := hide hx
    clear hx
    obtain ⟨c0, c1, c2, c3, c4, c5, c6, c7, c8, c9, c10, c11, c12, c13, c14, c15, c16, c17, c18, c19⟩ := box20 (unhide H0).blk
    go_wp2_with fail
    all_goals
      go_ret
      refine ⟨ret_bool ?_, (unhide H0).kept⟩
      rw [unhide HSK]
end Go.Proofs.YtfhfkpgfnlmfhaaDoor

/- The document's Sound, by kinds. -/
namespace Go.Proofs.YtfhfkpgfnlmfhaaDoor
open Go.RowKit
set_option linter.unusedSimpArgs false

set_option maxRecDepth 100000 in
set_option maxHeartbeats 6400000 in
theorem rsound_1 (w : World) (p : Ml) (l : Lm) (hk : p.kind = 1) (h0 : 0 ≤ p.shard) (h1 : p.shard < 64) (hc1 : -9223372036854775808 ≤ p.client) (hc2 : p.client ≤ 9223372036854775807) : Calls Tryd.prog 9 #[.agg (mcc p l)] w fun e w' => e = .returned (.bool (snd p)) ∧ Kept [] w w' := by
  have HSK := hide (snd_k1 hk h0 h1)
  have HCI := hide (And.intro hc1 hc2)
  have g0 : (p.shard < 0) = False := eq_false (by omega)
  have g1 : ((64 : Int) ≤ p.shard) = False := eq_false (by omega)
  have k1 : (p.kind < 1) = False := eq_false (by omega)
  have k2 : ((8 : Int) < p.kind) = False := eq_false (by omega)
  clear h0 h1 hc1 hc2
  go_enter Tryd.func9, Tryd.ntmps9
  go_upto_region 1 with fail
  refine world_at (R := fun X => RB w p l X) (RB.begin w p l) ?_
  rintro X hx
  have H0 := hide hx
  clear hx
  obtain ⟨c0, c1, c2, c3, c4, c5, c6, c7, c8, c9, c10, c11, c12, c13, c14, c15, c16, c17, c18, c19⟩ := box20 (unhide H0).blk
  go_upto_region 3 with fail
  obtain ⟨b3, hb3⟩ : ∃ b, noVerd p = b := ⟨_, rfl⟩
  obtain ⟨b4, hb4⟩ : ∃ b, noTrans p = b := ⟨_, rfl⟩
  have HB3 := hide hb3
  have HB4 := hide hb4
  clear hb3 hb4
  go_cut [3] (fun t wc => ∃ Z, Z = wc ∧ t = .bool b3 ∧ Hid (Kept [] X Z))
  case first =>
    go_wp2_with (go_at_call 20; refine (rnoAns_any _ _ _ _ _ _ _ _ _ _).mono ?_; rintro e w2 ⟨rfl, k2⟩; have HK2 := hide k2; have H1 := hide ((unhide H0).go k2); clear k2 H0 c0 c1 c2 c3 c4 c5 c6 c7 c8 c9 c10 c11 c12 c13 c14 c15 c16 c17 c18 c19; obtain ⟨c0, c1, c2, c3, c4, c5, c6, c7, c8, c9, c10, c11, c12, c13, c14, c15, c16, c17, c18, c19⟩ := box20 (unhide H1).blk)
    all_goals
      go_meet
      refine ⟨_, rfl, ?_, hide (by first | exact unhide HK2 | exact Kept.refl _ _)⟩
      rw [← unhide HB3]
      simp_all [noVerd, ansB]
      try (rw [Bool.eq_iff_iff]; simp)
  case rest =>
    obtain ⟨Z, rfl, rfl, hz⟩ := hcut
    have H1 := hide ((unhide H0).go (unhide hz))
    clear H0 hz c0 c1 c2 c3 c4 c5 c6 c7 c8 c9 c10 c11 c12 c13 c14 c15 c16 c17 c18 c19
    obtain ⟨c0, c1, c2, c3, c4, c5, c6, c7, c8, c9, c10, c11, c12, c13, c14, c15, c16, c17, c18, c19⟩ := box20 (unhide H1).blk
    go_upto_region 4 with fail
    go_cut [4] (fun t wc => Z = wc ∧ t = .bool b4)
    case first =>
      go_wp2_with fail
      all_goals
        go_meet
        refine ⟨rfl, ?_⟩
        rw [← unhide HB4]
        simp_all [noTrans, noCopy]
        try (rw [Bool.eq_iff_iff]; simp)
    case rest =>
      obtain ⟨hz, rfl⟩ := hcut
      subst hz
      cases b3 <;> cases b4
      all_goals
        go_wp2_with (first
          | (go_at_call 21; refine (rclient_any _ _ _ (unhide HCI).1 (unhide HCI).2).mono ?_; rintro e w2 ⟨rfl, k2⟩; have H1 := hide ((unhide H1).go k2); clear k2 c0 c1 c2 c3 c4 c5 c6 c7 c8 c9 c10 c11 c12 c13 c14 c15 c16 c17 c18 c19; obtain ⟨c0, c1, c2, c3, c4, c5, c6, c7, c8, c9, c10, c11, c12, c13, c14, c15, c16, c17, c18, c19⟩ := box20 (unhide H1).blk)
          | (go_at_call 22; refine (rserver_any _ _).mono ?_; rintro e w3 ⟨rfl, k3⟩; have H1 := hide ((unhide H1).go k3); clear k3 c0 c1 c2 c3 c4 c5 c6 c7 c8 c9 c10 c11 c12 c13 c14 c15 c16 c17 c18 c19; obtain ⟨c0, c1, c2, c3, c4, c5, c6, c7, c8, c9, c10, c11, c12, c13, c14, c15, c16, c17, c18, c19⟩ := box20 (unhide H1).blk)
          | (go_at_call 24; refine (rnoOp_any _ _ _ _ _ _ _ _ _).mono ?_; rintro e w3 ⟨rfl, k3⟩; have H1 := hide ((unhide H1).go k3); clear k3 c0 c1 c2 c3 c4 c5 c6 c7 c8 c9 c10 c11 c12 c13 c14 c15 c16 c17 c18 c19; obtain ⟨c0, c1, c2, c3, c4, c5, c6, c7, c8, c9, c10, c11, c12, c13, c14, c15, c16, c17, c18, c19⟩ := box20 (unhide H1).blk)
          | (go_at_call 23; refine (rright_any _ _ _ _ _ _ _ _ _).mono ?_; rintro e w3 ⟨rfl, k3⟩; have H1 := hide ((unhide H1).go k3); clear k3 c0 c1 c2 c3 c4 c5 c6 c7 c8 c9 c10 c11 c12 c13 c14 c15 c16 c17 c18 c19)
          | (refine wpList_load_guard 30 _ rfl _ rfl 30 _ (0, 0) _ (unhide H1).blk Tryd.underlying30 rfl infoMail rfl ?_)
          | (go_at_call 25; refine (rreplies_any _ p l).mono ?_; rintro e w3 ⟨rfl, k3⟩; have H1 := hide ((unhide H1).go k3); clear k3 c0 c1 c2 c3 c4 c5 c6 c7 c8 c9 c10 c11 c12 c13 c14 c15 c16 c17 c18 c19))
      all_goals
        go_ret
        refine ⟨ret_bool ?_, (unhide H1).kept⟩
        have e3 := unhide HB3
        have e4 := unhide HB4
        rw [unhide HSK]
        simp_all [opB]
        try (first | omega | (rw [Bool.eq_iff_iff]; simp; try omega))
end Go.Proofs.YtfhfkpgfnlmfhaaDoor

/- The document's Sound, kind 2: one text for each place where the chain of tests ends (written by mkrs2.py). -/
namespace Go.Proofs.YtfhfkpgfnlmfhaaDoor
open Go.RowKit
set_option linter.unusedSimpArgs false

set_option maxRecDepth 100000 in
set_option maxHeartbeats 3200000 in
theorem rsound_2_0 (w : World) (p : Ml) (l : Lm) (hk : p.kind = 2) (h0 : 0 ≤ p.shard) (h1 : p.shard < 64) (hc1 : -9223372036854775808 ≤ p.client) (hc2 : p.client ≤ 9223372036854775807) (t0 : noTrans p = false) : Calls Tryd.prog 9 #[.agg (mcc p l)] w fun e w' => e = .returned (.bool false) ∧ Kept [] w w' := by
  have HCI := hide (And.intro hc1 hc2)
  have g0 : (p.shard < 0) = False := eq_false (by omega)
  have g1 : ((64 : Int) ≤ p.shard) = False := eq_false (by omega)
  have k1 : (p.kind < 1) = False := eq_false (by omega)
  have k2 : ((8 : Int) < p.kind) = False := eq_false (by omega)
  have k3 : (p.kind == 1) = false := by rw [beq_eq_false_iff_ne]; omega
  have k4 : (p.kind == 2) = true := by rw [beq_iff_eq]; omega
  have HT := hide t0
  clear t0
  clear hk
  clear h0 h1 hc1 hc2
  go_enter Tryd.func9, Tryd.ntmps9
  go_upto_region 1 with fail
  refine world_at (R := fun X => RB w p l X) (RB.begin w p l) ?_
  rintro X hx
  have H0 := hide hx
  clear hx
  obtain ⟨c0, c1, c2, c3, c4, c5, c6, c7, c8, c9, c10, c11, c12, c13, c14, c15, c16, c17, c18, c19⟩ := box20 (unhide H0).blk
  go_upto_region 3 with fail
  obtain ⟨b3, hb3⟩ : ∃ b, noVerd p = b := ⟨_, rfl⟩
  have HB3 := hide hb3
  clear hb3
  go_cut [3] (fun t wc => ∃ Z, Z = wc ∧ t = .bool b3 ∧ Hid (Kept [] X Z))
  case first =>
    go_wp2_with (go_at_call 20; refine (rnoAns_any _ _ _ _ _ _ _ _ _ _).mono ?_; rintro e w2 ⟨rfl, k2⟩; have HK2 := hide k2; have H1 := hide ((unhide H0).go k2); clear k2 H0 c0 c1 c2 c3 c4 c5 c6 c7 c8 c9 c10 c11 c12 c13 c14 c15 c16 c17 c18 c19; obtain ⟨c0, c1, c2, c3, c4, c5, c6, c7, c8, c9, c10, c11, c12, c13, c14, c15, c16, c17, c18, c19⟩ := box20 (unhide H1).blk)
    all_goals
      go_meet
      refine ⟨_, rfl, ?_, hide (by first | exact unhide HK2 | exact Kept.refl _ _)⟩
      rw [← unhide HB3]
      simp_all [noVerd, ansB]
      try (rw [Bool.eq_iff_iff]; simp)
  case rest =>
    obtain ⟨Z, rfl, rfl, hz⟩ := hcut
    have H1 := hide ((unhide H0).go (unhide hz))
    clear H0 hz HB3 c0 c1 c2 c3 c4 c5 c6 c7 c8 c9 c10 c11 c12 c13 c14 c15 c16 c17 c18 c19
    obtain ⟨c0, c1, c2, c3, c4, c5, c6, c7, c8, c9, c10, c11, c12, c13, c14, c15, c16, c17, c18, c19⟩ := box20 (unhide H1).blk
    go_upto_region 4 with fail
    go_cut [4] (fun t wc => Z = wc ∧ t = .bool false)
    case first =>
      go_wp2_with fail
      all_goals
        go_meet
        refine ⟨rfl, ?_⟩
        have e4 := unhide HT
        clear HT
        simp only [noTrans, noCopy] at e4
        simp_all
    case rest =>
      obtain ⟨hz, rfl⟩ := hcut
      subst hz
      clear HT
      go_wp2_with (first
        | (refine wpList_load_guard 30 _ rfl _ rfl 30 _ (0, 0) _ (unhide H1).blk Tryd.underlying30 rfl infoMail rfl ?_)
        | fail)
      all_goals
        go_ret
        exact ⟨ret_bool rfl, (unhide H1).kept⟩

set_option maxRecDepth 100000 in
set_option maxHeartbeats 3200000 in
theorem rsound_2_1 (w : World) (p : Ml) (l : Lm) (hk : p.kind = 2) (h0 : 0 ≤ p.shard) (h1 : p.shard < 64) (hc1 : -9223372036854775808 ≤ p.client) (hc2 : p.client ≤ 9223372036854775807) (t0 : noTrans p = true) (t1 : blo p.okind p.key.length p.val.length p.rev = false) : Calls Tryd.prog 9 #[.agg (mcc p l)] w fun e w' => e = .returned (.bool false) ∧ Kept [] w w' := by
  have HCI := hide (And.intro hc1 hc2)
  have g0 : (p.shard < 0) = False := eq_false (by omega)
  have g1 : ((64 : Int) ≤ p.shard) = False := eq_false (by omega)
  have k1 : (p.kind < 1) = False := eq_false (by omega)
  have k2 : ((8 : Int) < p.kind) = False := eq_false (by omega)
  have k3 : (p.kind == 1) = false := by rw [beq_eq_false_iff_ne]; omega
  have k4 : (p.kind == 2) = true := by rw [beq_iff_eq]; omega
  have HT := hide t0
  clear t0
  have HO := hide t1
  clear t1
  clear hk
  clear h0 h1 hc1 hc2
  go_enter Tryd.func9, Tryd.ntmps9
  go_upto_region 1 with fail
  refine world_at (R := fun X => RB w p l X) (RB.begin w p l) ?_
  rintro X hx
  have H0 := hide hx
  clear hx
  obtain ⟨c0, c1, c2, c3, c4, c5, c6, c7, c8, c9, c10, c11, c12, c13, c14, c15, c16, c17, c18, c19⟩ := box20 (unhide H0).blk
  go_upto_region 3 with fail
  obtain ⟨b3, hb3⟩ : ∃ b, noVerd p = b := ⟨_, rfl⟩
  have HB3 := hide hb3
  clear hb3
  go_cut [3] (fun t wc => ∃ Z, Z = wc ∧ t = .bool b3 ∧ Hid (Kept [] X Z))
  case first =>
    go_wp2_with (go_at_call 20; refine (rnoAns_any _ _ _ _ _ _ _ _ _ _).mono ?_; rintro e w2 ⟨rfl, k2⟩; have HK2 := hide k2; have H1 := hide ((unhide H0).go k2); clear k2 H0 c0 c1 c2 c3 c4 c5 c6 c7 c8 c9 c10 c11 c12 c13 c14 c15 c16 c17 c18 c19; obtain ⟨c0, c1, c2, c3, c4, c5, c6, c7, c8, c9, c10, c11, c12, c13, c14, c15, c16, c17, c18, c19⟩ := box20 (unhide H1).blk)
    all_goals
      go_meet
      refine ⟨_, rfl, ?_, hide (by first | exact unhide HK2 | exact Kept.refl _ _)⟩
      rw [← unhide HB3]
      simp_all [noVerd, ansB]
      try (rw [Bool.eq_iff_iff]; simp)
  case rest =>
    obtain ⟨Z, rfl, rfl, hz⟩ := hcut
    have H1 := hide ((unhide H0).go (unhide hz))
    clear H0 hz HB3 c0 c1 c2 c3 c4 c5 c6 c7 c8 c9 c10 c11 c12 c13 c14 c15 c16 c17 c18 c19
    obtain ⟨c0, c1, c2, c3, c4, c5, c6, c7, c8, c9, c10, c11, c12, c13, c14, c15, c16, c17, c18, c19⟩ := box20 (unhide H1).blk
    go_upto_region 4 with fail
    go_cut [4] (fun t wc => Z = wc ∧ t = .bool true)
    case first =>
      go_wp2_with fail
      all_goals
        go_meet
        refine ⟨rfl, ?_⟩
        have e4 := unhide HT
        clear HT
        simp only [noTrans, noCopy] at e4
        simp_all
    case rest =>
      obtain ⟨hz, rfl⟩ := hcut
      subst hz
      clear HT
      go_wp2_with (first
        | (refine wpList_load_guard 30 _ rfl _ rfl 30 _ (0, 0) _ (unhide H1).blk Tryd.underlying30 rfl infoMail rfl ?_)
        | (go_at_call 24; refine (rnoOp_any _ _ _ _ _ _ _ _ _).mono ?_; rintro e w3 ⟨he, k3⟩; rw [unhide HO] at he; subst he; have H1 := hide ((unhide H1).go k3); clear k3 c0 c1 c2 c3 c4 c5 c6 c7 c8 c9 c10 c11 c12 c13 c14 c15 c16 c17 c18 c19; obtain ⟨c0, c1, c2, c3, c4, c5, c6, c7, c8, c9, c10, c11, c12, c13, c14, c15, c16, c17, c18, c19⟩ := box20 (unhide H1).blk))
      all_goals
        go_ret
        exact ⟨ret_bool rfl, (unhide H1).kept⟩

set_option maxRecDepth 100000 in
set_option maxHeartbeats 3200000 in
theorem rsound_2_2 (w : World) (p : Ml) (l : Lm) (hk : p.kind = 2) (h0 : 0 ≤ p.shard) (h1 : p.shard < 64) (hc1 : -9223372036854775808 ≤ p.client) (hc2 : p.client ≤ 9223372036854775807) (t0 : noTrans p = true) (t1 : blo p.okind p.key.length p.val.length p.rev = true) (t2 : srv p.frm = false) : Calls Tryd.prog 9 #[.agg (mcc p l)] w fun e w' => e = .returned (.bool false) ∧ Kept [] w w' := by
  have HCI := hide (And.intro hc1 hc2)
  have g0 : (p.shard < 0) = False := eq_false (by omega)
  have g1 : ((64 : Int) ≤ p.shard) = False := eq_false (by omega)
  have k1 : (p.kind < 1) = False := eq_false (by omega)
  have k2 : ((8 : Int) < p.kind) = False := eq_false (by omega)
  have k3 : (p.kind == 1) = false := by rw [beq_eq_false_iff_ne]; omega
  have k4 : (p.kind == 2) = true := by rw [beq_iff_eq]; omega
  have HT := hide t0
  clear t0
  have HO := hide t1
  clear t1
  have HS := hide t2
  clear t2
  clear hk
  clear h0 h1 hc1 hc2
  go_enter Tryd.func9, Tryd.ntmps9
  go_upto_region 1 with fail
  refine world_at (R := fun X => RB w p l X) (RB.begin w p l) ?_
  rintro X hx
  have H0 := hide hx
  clear hx
  obtain ⟨c0, c1, c2, c3, c4, c5, c6, c7, c8, c9, c10, c11, c12, c13, c14, c15, c16, c17, c18, c19⟩ := box20 (unhide H0).blk
  go_upto_region 3 with fail
  obtain ⟨b3, hb3⟩ : ∃ b, noVerd p = b := ⟨_, rfl⟩
  have HB3 := hide hb3
  clear hb3
  go_cut [3] (fun t wc => ∃ Z, Z = wc ∧ t = .bool b3 ∧ Hid (Kept [] X Z))
  case first =>
    go_wp2_with (go_at_call 20; refine (rnoAns_any _ _ _ _ _ _ _ _ _ _).mono ?_; rintro e w2 ⟨rfl, k2⟩; have HK2 := hide k2; have H1 := hide ((unhide H0).go k2); clear k2 H0 c0 c1 c2 c3 c4 c5 c6 c7 c8 c9 c10 c11 c12 c13 c14 c15 c16 c17 c18 c19; obtain ⟨c0, c1, c2, c3, c4, c5, c6, c7, c8, c9, c10, c11, c12, c13, c14, c15, c16, c17, c18, c19⟩ := box20 (unhide H1).blk)
    all_goals
      go_meet
      refine ⟨_, rfl, ?_, hide (by first | exact unhide HK2 | exact Kept.refl _ _)⟩
      rw [← unhide HB3]
      simp_all [noVerd, ansB]
      try (rw [Bool.eq_iff_iff]; simp)
  case rest =>
    obtain ⟨Z, rfl, rfl, hz⟩ := hcut
    have H1 := hide ((unhide H0).go (unhide hz))
    clear H0 hz HB3 c0 c1 c2 c3 c4 c5 c6 c7 c8 c9 c10 c11 c12 c13 c14 c15 c16 c17 c18 c19
    obtain ⟨c0, c1, c2, c3, c4, c5, c6, c7, c8, c9, c10, c11, c12, c13, c14, c15, c16, c17, c18, c19⟩ := box20 (unhide H1).blk
    go_upto_region 4 with fail
    go_cut [4] (fun t wc => Z = wc ∧ t = .bool true)
    case first =>
      go_wp2_with fail
      all_goals
        go_meet
        refine ⟨rfl, ?_⟩
        have e4 := unhide HT
        clear HT
        simp only [noTrans, noCopy] at e4
        simp_all
    case rest =>
      obtain ⟨hz, rfl⟩ := hcut
      subst hz
      clear HT
      go_wp2_with (first
        | (refine wpList_load_guard 30 _ rfl _ rfl 30 _ (0, 0) _ (unhide H1).blk Tryd.underlying30 rfl infoMail rfl ?_)
        | (go_at_call 24; refine (rnoOp_any _ _ _ _ _ _ _ _ _).mono ?_; rintro e w3 ⟨he, k3⟩; rw [unhide HO] at he; subst he; have H1 := hide ((unhide H1).go k3); clear k3 c0 c1 c2 c3 c4 c5 c6 c7 c8 c9 c10 c11 c12 c13 c14 c15 c16 c17 c18 c19; obtain ⟨c0, c1, c2, c3, c4, c5, c6, c7, c8, c9, c10, c11, c12, c13, c14, c15, c16, c17, c18, c19⟩ := box20 (unhide H1).blk)
        | (go_at_call 22; refine (rserver_any _ _).mono ?_; rintro e w3 ⟨he, k3⟩; rw [unhide HS] at he; subst he; have H1 := hide ((unhide H1).go k3); clear k3 c0 c1 c2 c3 c4 c5 c6 c7 c8 c9 c10 c11 c12 c13 c14 c15 c16 c17 c18 c19; obtain ⟨c0, c1, c2, c3, c4, c5, c6, c7, c8, c9, c10, c11, c12, c13, c14, c15, c16, c17, c18, c19⟩ := box20 (unhide H1).blk))
      all_goals
        go_ret
        exact ⟨ret_bool rfl, (unhide H1).kept⟩

set_option maxRecDepth 100000 in
set_option maxHeartbeats 3200000 in
theorem rsound_2_3 (w : World) (p : Ml) (l : Lm) (hk : p.kind = 2) (h0 : 0 ≤ p.shard) (h1 : p.shard < 64) (hc1 : -9223372036854775808 ≤ p.client) (hc2 : p.client ≤ 9223372036854775807) (t0 : noTrans p = true) (t1 : blo p.okind p.key.length p.val.length p.rev = true) (t2 : srv p.frm = true) (t3 : cli p.client p.dst = false) : Calls Tryd.prog 9 #[.agg (mcc p l)] w fun e w' => e = .returned (.bool false) ∧ Kept [] w w' := by
  have HCI := hide (And.intro hc1 hc2)
  have g0 : (p.shard < 0) = False := eq_false (by omega)
  have g1 : ((64 : Int) ≤ p.shard) = False := eq_false (by omega)
  have k1 : (p.kind < 1) = False := eq_false (by omega)
  have k2 : ((8 : Int) < p.kind) = False := eq_false (by omega)
  have k3 : (p.kind == 1) = false := by rw [beq_eq_false_iff_ne]; omega
  have k4 : (p.kind == 2) = true := by rw [beq_iff_eq]; omega
  have HT := hide t0
  clear t0
  have HO := hide t1
  clear t1
  have HS := hide t2
  clear t2
  have HC := hide t3
  clear t3
  clear hk
  clear h0 h1 hc1 hc2
  go_enter Tryd.func9, Tryd.ntmps9
  go_upto_region 1 with fail
  refine world_at (R := fun X => RB w p l X) (RB.begin w p l) ?_
  rintro X hx
  have H0 := hide hx
  clear hx
  obtain ⟨c0, c1, c2, c3, c4, c5, c6, c7, c8, c9, c10, c11, c12, c13, c14, c15, c16, c17, c18, c19⟩ := box20 (unhide H0).blk
  go_upto_region 3 with fail
  obtain ⟨b3, hb3⟩ : ∃ b, noVerd p = b := ⟨_, rfl⟩
  have HB3 := hide hb3
  clear hb3
  go_cut [3] (fun t wc => ∃ Z, Z = wc ∧ t = .bool b3 ∧ Hid (Kept [] X Z))
  case first =>
    go_wp2_with (go_at_call 20; refine (rnoAns_any _ _ _ _ _ _ _ _ _ _).mono ?_; rintro e w2 ⟨rfl, k2⟩; have HK2 := hide k2; have H1 := hide ((unhide H0).go k2); clear k2 H0 c0 c1 c2 c3 c4 c5 c6 c7 c8 c9 c10 c11 c12 c13 c14 c15 c16 c17 c18 c19; obtain ⟨c0, c1, c2, c3, c4, c5, c6, c7, c8, c9, c10, c11, c12, c13, c14, c15, c16, c17, c18, c19⟩ := box20 (unhide H1).blk)
    all_goals
      go_meet
      refine ⟨_, rfl, ?_, hide (by first | exact unhide HK2 | exact Kept.refl _ _)⟩
      rw [← unhide HB3]
      simp_all [noVerd, ansB]
      try (rw [Bool.eq_iff_iff]; simp)
  case rest =>
    obtain ⟨Z, rfl, rfl, hz⟩ := hcut
    have H1 := hide ((unhide H0).go (unhide hz))
    clear H0 hz HB3 c0 c1 c2 c3 c4 c5 c6 c7 c8 c9 c10 c11 c12 c13 c14 c15 c16 c17 c18 c19
    obtain ⟨c0, c1, c2, c3, c4, c5, c6, c7, c8, c9, c10, c11, c12, c13, c14, c15, c16, c17, c18, c19⟩ := box20 (unhide H1).blk
    go_upto_region 4 with fail
    go_cut [4] (fun t wc => Z = wc ∧ t = .bool true)
    case first =>
      go_wp2_with fail
      all_goals
        go_meet
        refine ⟨rfl, ?_⟩
        have e4 := unhide HT
        clear HT
        simp only [noTrans, noCopy] at e4
        simp_all
    case rest =>
      obtain ⟨hz, rfl⟩ := hcut
      subst hz
      clear HT
      go_wp2_with (first
        | (refine wpList_load_guard 30 _ rfl _ rfl 30 _ (0, 0) _ (unhide H1).blk Tryd.underlying30 rfl infoMail rfl ?_)
        | (go_at_call 24; refine (rnoOp_any _ _ _ _ _ _ _ _ _).mono ?_; rintro e w3 ⟨he, k3⟩; rw [unhide HO] at he; subst he; have H1 := hide ((unhide H1).go k3); clear k3 c0 c1 c2 c3 c4 c5 c6 c7 c8 c9 c10 c11 c12 c13 c14 c15 c16 c17 c18 c19; obtain ⟨c0, c1, c2, c3, c4, c5, c6, c7, c8, c9, c10, c11, c12, c13, c14, c15, c16, c17, c18, c19⟩ := box20 (unhide H1).blk)
        | (go_at_call 22; refine (rserver_any _ _).mono ?_; rintro e w3 ⟨he, k3⟩; rw [unhide HS] at he; subst he; have H1 := hide ((unhide H1).go k3); clear k3 c0 c1 c2 c3 c4 c5 c6 c7 c8 c9 c10 c11 c12 c13 c14 c15 c16 c17 c18 c19; obtain ⟨c0, c1, c2, c3, c4, c5, c6, c7, c8, c9, c10, c11, c12, c13, c14, c15, c16, c17, c18, c19⟩ := box20 (unhide H1).blk)
        | (go_at_call 21; refine (rclient_any _ _ _ (unhide HCI).1 (unhide HCI).2).mono ?_; rintro e w3 ⟨he, k3⟩; rw [unhide HC] at he; subst he; have H1 := hide ((unhide H1).go k3); clear k3 c0 c1 c2 c3 c4 c5 c6 c7 c8 c9 c10 c11 c12 c13 c14 c15 c16 c17 c18 c19; obtain ⟨c0, c1, c2, c3, c4, c5, c6, c7, c8, c9, c10, c11, c12, c13, c14, c15, c16, c17, c18, c19⟩ := box20 (unhide H1).blk))
      all_goals
        go_ret
        exact ⟨ret_bool rfl, (unhide H1).kept⟩

set_option maxRecDepth 100000 in
set_option maxHeartbeats 3200000 in
theorem rsound_2_4 (w : World) (p : Ml) (l : Lm) (hk : p.kind = 2) (h0 : 0 ≤ p.shard) (h1 : p.shard < 64) (hc1 : -9223372036854775808 ≤ p.client) (hc2 : p.client ≤ 9223372036854775807) (t0 : noTrans p = true) (t1 : blo p.okind p.key.length p.val.length p.rev = true) (t2 : srv p.frm = true) (t3 : cli p.client p.dst = true) (t4 : ¬ 1 ≤ p.seq) : Calls Tryd.prog 9 #[.agg (mcc p l)] w fun e w' => e = .returned (.bool false) ∧ Kept [] w w' := by
  have HCI := hide (And.intro hc1 hc2)
  have g0 : (p.shard < 0) = False := eq_false (by omega)
  have g1 : ((64 : Int) ≤ p.shard) = False := eq_false (by omega)
  have k1 : (p.kind < 1) = False := eq_false (by omega)
  have k2 : ((8 : Int) < p.kind) = False := eq_false (by omega)
  have k3 : (p.kind == 1) = false := by rw [beq_eq_false_iff_ne]; omega
  have k4 : (p.kind == 2) = true := by rw [beq_iff_eq]; omega
  have HT := hide t0
  clear t0
  have HO := hide t1
  clear t1
  have HS := hide t2
  clear t2
  have HC := hide t3
  clear t3
  have q4 : (1 ≤ p.seq) = False := eq_false t4
  clear t4
  clear hk
  clear h0 h1 hc1 hc2
  go_enter Tryd.func9, Tryd.ntmps9
  go_upto_region 1 with fail
  refine world_at (R := fun X => RB w p l X) (RB.begin w p l) ?_
  rintro X hx
  have H0 := hide hx
  clear hx
  obtain ⟨c0, c1, c2, c3, c4, c5, c6, c7, c8, c9, c10, c11, c12, c13, c14, c15, c16, c17, c18, c19⟩ := box20 (unhide H0).blk
  go_upto_region 3 with fail
  obtain ⟨b3, hb3⟩ : ∃ b, noVerd p = b := ⟨_, rfl⟩
  have HB3 := hide hb3
  clear hb3
  go_cut [3] (fun t wc => ∃ Z, Z = wc ∧ t = .bool b3 ∧ Hid (Kept [] X Z))
  case first =>
    go_wp2_with (go_at_call 20; refine (rnoAns_any _ _ _ _ _ _ _ _ _ _).mono ?_; rintro e w2 ⟨rfl, k2⟩; have HK2 := hide k2; have H1 := hide ((unhide H0).go k2); clear k2 H0 c0 c1 c2 c3 c4 c5 c6 c7 c8 c9 c10 c11 c12 c13 c14 c15 c16 c17 c18 c19; obtain ⟨c0, c1, c2, c3, c4, c5, c6, c7, c8, c9, c10, c11, c12, c13, c14, c15, c16, c17, c18, c19⟩ := box20 (unhide H1).blk)
    all_goals
      go_meet
      refine ⟨_, rfl, ?_, hide (by first | exact unhide HK2 | exact Kept.refl _ _)⟩
      rw [← unhide HB3]
      simp_all [noVerd, ansB]
      try (rw [Bool.eq_iff_iff]; simp)
  case rest =>
    obtain ⟨Z, rfl, rfl, hz⟩ := hcut
    have H1 := hide ((unhide H0).go (unhide hz))
    clear H0 hz HB3 c0 c1 c2 c3 c4 c5 c6 c7 c8 c9 c10 c11 c12 c13 c14 c15 c16 c17 c18 c19
    obtain ⟨c0, c1, c2, c3, c4, c5, c6, c7, c8, c9, c10, c11, c12, c13, c14, c15, c16, c17, c18, c19⟩ := box20 (unhide H1).blk
    go_upto_region 4 with fail
    go_cut [4] (fun t wc => Z = wc ∧ t = .bool true)
    case first =>
      go_wp2_with fail
      all_goals
        go_meet
        refine ⟨rfl, ?_⟩
        have e4 := unhide HT
        clear HT
        simp only [noTrans, noCopy] at e4
        simp_all
    case rest =>
      obtain ⟨hz, rfl⟩ := hcut
      subst hz
      clear HT
      go_wp2_with (first
        | (refine wpList_load_guard 30 _ rfl _ rfl 30 _ (0, 0) _ (unhide H1).blk Tryd.underlying30 rfl infoMail rfl ?_)
        | (go_at_call 24; refine (rnoOp_any _ _ _ _ _ _ _ _ _).mono ?_; rintro e w3 ⟨he, k3⟩; rw [unhide HO] at he; subst he; have H1 := hide ((unhide H1).go k3); clear k3 c0 c1 c2 c3 c4 c5 c6 c7 c8 c9 c10 c11 c12 c13 c14 c15 c16 c17 c18 c19; obtain ⟨c0, c1, c2, c3, c4, c5, c6, c7, c8, c9, c10, c11, c12, c13, c14, c15, c16, c17, c18, c19⟩ := box20 (unhide H1).blk)
        | (go_at_call 22; refine (rserver_any _ _).mono ?_; rintro e w3 ⟨he, k3⟩; rw [unhide HS] at he; subst he; have H1 := hide ((unhide H1).go k3); clear k3 c0 c1 c2 c3 c4 c5 c6 c7 c8 c9 c10 c11 c12 c13 c14 c15 c16 c17 c18 c19; obtain ⟨c0, c1, c2, c3, c4, c5, c6, c7, c8, c9, c10, c11, c12, c13, c14, c15, c16, c17, c18, c19⟩ := box20 (unhide H1).blk)
        | (go_at_call 21; refine (rclient_any _ _ _ (unhide HCI).1 (unhide HCI).2).mono ?_; rintro e w3 ⟨he, k3⟩; rw [unhide HC] at he; subst he; have H1 := hide ((unhide H1).go k3); clear k3 c0 c1 c2 c3 c4 c5 c6 c7 c8 c9 c10 c11 c12 c13 c14 c15 c16 c17 c18 c19; obtain ⟨c0, c1, c2, c3, c4, c5, c6, c7, c8, c9, c10, c11, c12, c13, c14, c15, c16, c17, c18, c19⟩ := box20 (unhide H1).blk))
      all_goals
        go_ret
        exact ⟨ret_bool rfl, (unhide H1).kept⟩

set_option maxRecDepth 100000 in
set_option maxHeartbeats 3200000 in
theorem rsound_2_5 (w : World) (p : Ml) (l : Lm) (hk : p.kind = 2) (h0 : 0 ≤ p.shard) (h1 : p.shard < 64) (hc1 : -9223372036854775808 ≤ p.client) (hc2 : p.client ≤ 9223372036854775807) (t0 : noTrans p = true) (t1 : blo p.okind p.key.length p.val.length p.rev = true) (t2 : srv p.frm = true) (t3 : cli p.client p.dst = true) (t4 : 1 ≤ p.seq) (t5 : ¬ p.seq ≤ 1073741824) : Calls Tryd.prog 9 #[.agg (mcc p l)] w fun e w' => e = .returned (.bool false) ∧ Kept [] w w' := by
  have HCI := hide (And.intro hc1 hc2)
  have g0 : (p.shard < 0) = False := eq_false (by omega)
  have g1 : ((64 : Int) ≤ p.shard) = False := eq_false (by omega)
  have k1 : (p.kind < 1) = False := eq_false (by omega)
  have k2 : ((8 : Int) < p.kind) = False := eq_false (by omega)
  have k3 : (p.kind == 1) = false := by rw [beq_eq_false_iff_ne]; omega
  have k4 : (p.kind == 2) = true := by rw [beq_iff_eq]; omega
  have HT := hide t0
  clear t0
  have HO := hide t1
  clear t1
  have HS := hide t2
  clear t2
  have HC := hide t3
  clear t3
  have q4 : (1 ≤ p.seq) = True := eq_true t4
  clear t4
  have q5 : (p.seq ≤ 1073741824) = False := eq_false t5
  clear t5
  clear hk
  clear h0 h1 hc1 hc2
  go_enter Tryd.func9, Tryd.ntmps9
  go_upto_region 1 with fail
  refine world_at (R := fun X => RB w p l X) (RB.begin w p l) ?_
  rintro X hx
  have H0 := hide hx
  clear hx
  obtain ⟨c0, c1, c2, c3, c4, c5, c6, c7, c8, c9, c10, c11, c12, c13, c14, c15, c16, c17, c18, c19⟩ := box20 (unhide H0).blk
  go_upto_region 3 with fail
  obtain ⟨b3, hb3⟩ : ∃ b, noVerd p = b := ⟨_, rfl⟩
  have HB3 := hide hb3
  clear hb3
  go_cut [3] (fun t wc => ∃ Z, Z = wc ∧ t = .bool b3 ∧ Hid (Kept [] X Z))
  case first =>
    go_wp2_with (go_at_call 20; refine (rnoAns_any _ _ _ _ _ _ _ _ _ _).mono ?_; rintro e w2 ⟨rfl, k2⟩; have HK2 := hide k2; have H1 := hide ((unhide H0).go k2); clear k2 H0 c0 c1 c2 c3 c4 c5 c6 c7 c8 c9 c10 c11 c12 c13 c14 c15 c16 c17 c18 c19; obtain ⟨c0, c1, c2, c3, c4, c5, c6, c7, c8, c9, c10, c11, c12, c13, c14, c15, c16, c17, c18, c19⟩ := box20 (unhide H1).blk)
    all_goals
      go_meet
      refine ⟨_, rfl, ?_, hide (by first | exact unhide HK2 | exact Kept.refl _ _)⟩
      rw [← unhide HB3]
      simp_all [noVerd, ansB]
      try (rw [Bool.eq_iff_iff]; simp)
  case rest =>
    obtain ⟨Z, rfl, rfl, hz⟩ := hcut
    have H1 := hide ((unhide H0).go (unhide hz))
    clear H0 hz HB3 c0 c1 c2 c3 c4 c5 c6 c7 c8 c9 c10 c11 c12 c13 c14 c15 c16 c17 c18 c19
    obtain ⟨c0, c1, c2, c3, c4, c5, c6, c7, c8, c9, c10, c11, c12, c13, c14, c15, c16, c17, c18, c19⟩ := box20 (unhide H1).blk
    go_upto_region 4 with fail
    go_cut [4] (fun t wc => Z = wc ∧ t = .bool true)
    case first =>
      go_wp2_with fail
      all_goals
        go_meet
        refine ⟨rfl, ?_⟩
        have e4 := unhide HT
        clear HT
        simp only [noTrans, noCopy] at e4
        simp_all
    case rest =>
      obtain ⟨hz, rfl⟩ := hcut
      subst hz
      clear HT
      go_wp2_with (first
        | (refine wpList_load_guard 30 _ rfl _ rfl 30 _ (0, 0) _ (unhide H1).blk Tryd.underlying30 rfl infoMail rfl ?_)
        | (go_at_call 24; refine (rnoOp_any _ _ _ _ _ _ _ _ _).mono ?_; rintro e w3 ⟨he, k3⟩; rw [unhide HO] at he; subst he; have H1 := hide ((unhide H1).go k3); clear k3 c0 c1 c2 c3 c4 c5 c6 c7 c8 c9 c10 c11 c12 c13 c14 c15 c16 c17 c18 c19; obtain ⟨c0, c1, c2, c3, c4, c5, c6, c7, c8, c9, c10, c11, c12, c13, c14, c15, c16, c17, c18, c19⟩ := box20 (unhide H1).blk)
        | (go_at_call 22; refine (rserver_any _ _).mono ?_; rintro e w3 ⟨he, k3⟩; rw [unhide HS] at he; subst he; have H1 := hide ((unhide H1).go k3); clear k3 c0 c1 c2 c3 c4 c5 c6 c7 c8 c9 c10 c11 c12 c13 c14 c15 c16 c17 c18 c19; obtain ⟨c0, c1, c2, c3, c4, c5, c6, c7, c8, c9, c10, c11, c12, c13, c14, c15, c16, c17, c18, c19⟩ := box20 (unhide H1).blk)
        | (go_at_call 21; refine (rclient_any _ _ _ (unhide HCI).1 (unhide HCI).2).mono ?_; rintro e w3 ⟨he, k3⟩; rw [unhide HC] at he; subst he; have H1 := hide ((unhide H1).go k3); clear k3 c0 c1 c2 c3 c4 c5 c6 c7 c8 c9 c10 c11 c12 c13 c14 c15 c16 c17 c18 c19; obtain ⟨c0, c1, c2, c3, c4, c5, c6, c7, c8, c9, c10, c11, c12, c13, c14, c15, c16, c17, c18, c19⟩ := box20 (unhide H1).blk))
      all_goals
        go_ret
        exact ⟨ret_bool rfl, (unhide H1).kept⟩

set_option maxRecDepth 100000 in
set_option maxHeartbeats 3200000 in
theorem rsound_2_6 (w : World) (p : Ml) (l : Lm) (hk : p.kind = 2) (h0 : 0 ≤ p.shard) (h1 : p.shard < 64) (hc1 : -9223372036854775808 ≤ p.client) (hc2 : p.client ≤ 9223372036854775807) (t0 : noTrans p = true) (t1 : blo p.okind p.key.length p.val.length p.rev = true) (t2 : srv p.frm = true) (t3 : cli p.client p.dst = true) (t4 : 1 ≤ p.seq) (t5 : p.seq ≤ 1073741824) : Calls Tryd.prog 9 #[.agg (mcc p l)] w fun e w' => e = .returned (.bool (sVerd p)) ∧ Kept [] w w' := by
  have HCI := hide (And.intro hc1 hc2)
  have g0 : (p.shard < 0) = False := eq_false (by omega)
  have g1 : ((64 : Int) ≤ p.shard) = False := eq_false (by omega)
  have k1 : (p.kind < 1) = False := eq_false (by omega)
  have k2 : ((8 : Int) < p.kind) = False := eq_false (by omega)
  have k3 : (p.kind == 1) = false := by rw [beq_eq_false_iff_ne]; omega
  have k4 : (p.kind == 2) = true := by rw [beq_iff_eq]; omega
  have HT := hide t0
  clear t0
  have HO := hide t1
  clear t1
  have HS := hide t2
  clear t2
  have HC := hide t3
  clear t3
  have q4 : (1 ≤ p.seq) = True := eq_true t4
  clear t4
  have q5 : (p.seq ≤ 1073741824) = True := eq_true t5
  clear t5
  clear hk
  clear h0 h1 hc1 hc2
  go_enter Tryd.func9, Tryd.ntmps9
  go_upto_region 1 with fail
  refine world_at (R := fun X => RB w p l X) (RB.begin w p l) ?_
  rintro X hx
  have H0 := hide hx
  clear hx
  obtain ⟨c0, c1, c2, c3, c4, c5, c6, c7, c8, c9, c10, c11, c12, c13, c14, c15, c16, c17, c18, c19⟩ := box20 (unhide H0).blk
  go_upto_region 3 with fail
  obtain ⟨b3, hb3⟩ : ∃ b, noVerd p = b := ⟨_, rfl⟩
  have HB3 := hide hb3
  clear hb3
  go_cut [3] (fun t wc => ∃ Z, Z = wc ∧ t = .bool b3 ∧ Hid (Kept [] X Z))
  case first =>
    go_wp2_with (go_at_call 20; refine (rnoAns_any _ _ _ _ _ _ _ _ _ _).mono ?_; rintro e w2 ⟨rfl, k2⟩; have HK2 := hide k2; have H1 := hide ((unhide H0).go k2); clear k2 H0 c0 c1 c2 c3 c4 c5 c6 c7 c8 c9 c10 c11 c12 c13 c14 c15 c16 c17 c18 c19; obtain ⟨c0, c1, c2, c3, c4, c5, c6, c7, c8, c9, c10, c11, c12, c13, c14, c15, c16, c17, c18, c19⟩ := box20 (unhide H1).blk)
    all_goals
      go_meet
      refine ⟨_, rfl, ?_, hide (by first | exact unhide HK2 | exact Kept.refl _ _)⟩
      rw [← unhide HB3]
      simp_all [noVerd, ansB]
      try (rw [Bool.eq_iff_iff]; simp)
  case rest =>
    obtain ⟨Z, rfl, rfl, hz⟩ := hcut
    have H1 := hide ((unhide H0).go (unhide hz))
    clear H0 hz HB3 c0 c1 c2 c3 c4 c5 c6 c7 c8 c9 c10 c11 c12 c13 c14 c15 c16 c17 c18 c19
    obtain ⟨c0, c1, c2, c3, c4, c5, c6, c7, c8, c9, c10, c11, c12, c13, c14, c15, c16, c17, c18, c19⟩ := box20 (unhide H1).blk
    go_upto_region 4 with fail
    go_cut [4] (fun t wc => Z = wc ∧ t = .bool true)
    case first =>
      go_wp2_with fail
      all_goals
        go_meet
        refine ⟨rfl, ?_⟩
        have e4 := unhide HT
        clear HT
        simp only [noTrans, noCopy] at e4
        simp_all
    case rest =>
      obtain ⟨hz, rfl⟩ := hcut
      subst hz
      clear HT
      go_wp2_with (first
        | (refine wpList_load_guard 30 _ rfl _ rfl 30 _ (0, 0) _ (unhide H1).blk Tryd.underlying30 rfl infoMail rfl ?_)
        | (go_at_call 24; refine (rnoOp_any _ _ _ _ _ _ _ _ _).mono ?_; rintro e w3 ⟨he, k3⟩; rw [unhide HO] at he; subst he; have H1 := hide ((unhide H1).go k3); clear k3 c0 c1 c2 c3 c4 c5 c6 c7 c8 c9 c10 c11 c12 c13 c14 c15 c16 c17 c18 c19; obtain ⟨c0, c1, c2, c3, c4, c5, c6, c7, c8, c9, c10, c11, c12, c13, c14, c15, c16, c17, c18, c19⟩ := box20 (unhide H1).blk)
        | (go_at_call 22; refine (rserver_any _ _).mono ?_; rintro e w3 ⟨he, k3⟩; rw [unhide HS] at he; subst he; have H1 := hide ((unhide H1).go k3); clear k3 c0 c1 c2 c3 c4 c5 c6 c7 c8 c9 c10 c11 c12 c13 c14 c15 c16 c17 c18 c19; obtain ⟨c0, c1, c2, c3, c4, c5, c6, c7, c8, c9, c10, c11, c12, c13, c14, c15, c16, c17, c18, c19⟩ := box20 (unhide H1).blk)
        | (go_at_call 21; refine (rclient_any _ _ _ (unhide HCI).1 (unhide HCI).2).mono ?_; rintro e w3 ⟨he, k3⟩; rw [unhide HC] at he; subst he; have H1 := hide ((unhide H1).go k3); clear k3 c0 c1 c2 c3 c4 c5 c6 c7 c8 c9 c10 c11 c12 c13 c14 c15 c16 c17 c18 c19; obtain ⟨c0, c1, c2, c3, c4, c5, c6, c7, c8, c9, c10, c11, c12, c13, c14, c15, c16, c17, c18, c19⟩ := box20 (unhide H1).blk)
        | (go_at_call 25; refine (rreplies_any _ p l).mono ?_; rintro e w3 ⟨rfl, k3⟩; have H1 := hide ((unhide H1).go k3); clear k3 c0 c1 c2 c3 c4 c5 c6 c7 c8 c9 c10 c11 c12 c13 c14 c15 c16 c17 c18 c19))
      all_goals
        go_ret
        exact ⟨ret_bool rfl, (unhide H1).kept⟩

theorem rsound_2 (w : World) (p : Ml) (l : Lm) (hk : p.kind = 2) (h0 : 0 ≤ p.shard) (h1 : p.shard < 64) (hc1 : -9223372036854775808 ≤ p.client) (hc2 : p.client ≤ 9223372036854775807) : Calls Tryd.prog 9 #[.agg (mcc p l)] w fun e w' => e = .returned (.bool (snd p)) ∧ Kept [] w w' := by
  rw [snd_k2 hk h0 h1]
  unfold opB
  cases t0 : noTrans p with
  | false => exact rsound_2_0 w p l hk h0 h1 hc1 hc2 t0
  | true =>
    cases t1 : blo p.okind p.key.length p.val.length p.rev with
    | false => exact rsound_2_1 w p l hk h0 h1 hc1 hc2 t0 t1
    | true =>
      cases t2 : srv p.frm with
      | false => exact rsound_2_2 w p l hk h0 h1 hc1 hc2 t0 t1 t2
      | true =>
        cases t3 : cli p.client p.dst with
        | false => exact rsound_2_3 w p l hk h0 h1 hc1 hc2 t0 t1 t2 t3
        | true =>
          by_cases t4 : 1 ≤ p.seq
          · by_cases t5 : p.seq ≤ 1073741824
            · rw [decide_eq_true t4, decide_eq_true t5]
              exact rsound_2_6 w p l hk h0 h1 hc1 hc2 t0 t1 t2 t3 t4 t5
            · rw [decide_eq_true t4, decide_eq_false t5]
              exact rsound_2_5 w p l hk h0 h1 hc1 hc2 t0 t1 t2 t3 t4 t5
          · rw [decide_eq_false t4]
            exact rsound_2_4 w p l hk h0 h1 hc1 hc2 t0 t1 t2 t3 t4
end Go.Proofs.YtfhfkpgfnlmfhaaDoor

/- The document's Sound, by kinds. -/
namespace Go.Proofs.YtfhfkpgfnlmfhaaDoor
open Go.RowKit
set_option linter.unusedSimpArgs false

set_option maxRecDepth 100000 in
set_option maxHeartbeats 6400000 in
theorem rsound_3 (w : World) (p : Ml) (l : Lm) (hk : p.kind = 3) (h0 : 0 ≤ p.shard) (h1 : p.shard < 64) (hc1 : -9223372036854775808 ≤ p.client) (hc2 : p.client ≤ 9223372036854775807) : Calls Tryd.prog 9 #[.agg (mcc p l)] w fun e w' => e = .returned (.bool (snd p)) ∧ Kept [] w w' := by
  have HSK := hide ((snd_kh (by omega) (by omega) h0 h1).trans (by rw [if_pos hk]))
  have HCI := hide (And.intro hc1 hc2)
  have g0 : (p.shard < 0) = False := eq_false (by omega)
  have g1 : ((64 : Int) ≤ p.shard) = False := eq_false (by omega)
  have k1 : (p.kind < 1) = False := eq_false (by omega)
  have k2 : ((8 : Int) < p.kind) = False := eq_false (by omega)
  have k3 : (p.kind == 1) = false := by rw [beq_eq_false_iff_ne]; omega
  have k4 : (p.kind == 2) = false := by rw [beq_eq_false_iff_ne]; omega
  have k5 : (p.kind == 3) = true := by rw [beq_iff_eq]; omega
  clear hk
  clear h0 h1 hc1 hc2
  go_enter Tryd.func9, Tryd.ntmps9
  go_upto_region 1 with fail
  refine world_at (R := fun X => RB w p l X) (RB.begin w p l) ?_
  rintro X hx
  have H0 := hide hx
  clear hx
  obtain ⟨c0, c1, c2, c3, c4, c5, c6, c7, c8, c9, c10, c11, c12, c13, c14, c15, c16, c17, c18, c19⟩ := box20 (unhide H0).blk
  go_upto_region 3 with fail
  obtain ⟨b3, hb3⟩ : ∃ b, noVerd p = b := ⟨_, rfl⟩
  obtain ⟨b4, hb4⟩ : ∃ b, noTrans p = b := ⟨_, rfl⟩
  have HB3 := hide hb3
  have HB4 := hide hb4
  clear hb3 hb4
  go_cut [3] (fun t wc => ∃ Z, Z = wc ∧ t = .bool b3 ∧ Hid (Kept [] X Z))
  case first =>
    go_wp2_with (go_at_call 20; refine (rnoAns_any _ _ _ _ _ _ _ _ _ _).mono ?_; rintro e w2 ⟨rfl, k2⟩; have HK2 := hide k2; have H1 := hide ((unhide H0).go k2); clear k2 H0 c0 c1 c2 c3 c4 c5 c6 c7 c8 c9 c10 c11 c12 c13 c14 c15 c16 c17 c18 c19; obtain ⟨c0, c1, c2, c3, c4, c5, c6, c7, c8, c9, c10, c11, c12, c13, c14, c15, c16, c17, c18, c19⟩ := box20 (unhide H1).blk)
    all_goals
      go_meet
      refine ⟨_, rfl, ?_, hide (by first | exact unhide HK2 | exact Kept.refl _ _)⟩
      rw [← unhide HB3]
      simp_all [noVerd, ansB]
      try (rw [Bool.eq_iff_iff]; simp)
  case rest =>
    obtain ⟨Z, rfl, rfl, hz⟩ := hcut
    have H1 := hide ((unhide H0).go (unhide hz))
    clear H0 hz c0 c1 c2 c3 c4 c5 c6 c7 c8 c9 c10 c11 c12 c13 c14 c15 c16 c17 c18 c19
    obtain ⟨c0, c1, c2, c3, c4, c5, c6, c7, c8, c9, c10, c11, c12, c13, c14, c15, c16, c17, c18, c19⟩ := box20 (unhide H1).blk
    go_upto_region 4 with fail
    go_cut [4] (fun t wc => Z = wc ∧ t = .bool b4)
    case first =>
      go_wp2_with fail
      all_goals
        go_meet
        refine ⟨rfl, ?_⟩
        rw [← unhide HB4]
        simp_all [noTrans, noCopy]
        try (rw [Bool.eq_iff_iff]; simp)
    case rest =>
      obtain ⟨hz, rfl⟩ := hcut
      subst hz
      cases b3
      all_goals as_aux_lemma =>
        go_wp2_with (first
          | (go_at_call 21; refine (rclient_any _ _ _ (unhide HCI).1 (unhide HCI).2).mono ?_; rintro e w2 ⟨rfl, k2⟩; have H1 := hide ((unhide H1).go k2); clear k2 c0 c1 c2 c3 c4 c5 c6 c7 c8 c9 c10 c11 c12 c13 c14 c15 c16 c17 c18 c19; obtain ⟨c0, c1, c2, c3, c4, c5, c6, c7, c8, c9, c10, c11, c12, c13, c14, c15, c16, c17, c18, c19⟩ := box20 (unhide H1).blk)
          | (go_at_call 22; refine (rserver_any _ _).mono ?_; rintro e w3 ⟨rfl, k3⟩; have H1 := hide ((unhide H1).go k3); clear k3 c0 c1 c2 c3 c4 c5 c6 c7 c8 c9 c10 c11 c12 c13 c14 c15 c16 c17 c18 c19; obtain ⟨c0, c1, c2, c3, c4, c5, c6, c7, c8, c9, c10, c11, c12, c13, c14, c15, c16, c17, c18, c19⟩ := box20 (unhide H1).blk)
          | (go_at_call 24; refine (rnoOp_any _ _ _ _ _ _ _ _ _).mono ?_; rintro e w3 ⟨rfl, k3⟩; have H1 := hide ((unhide H1).go k3); clear k3 c0 c1 c2 c3 c4 c5 c6 c7 c8 c9 c10 c11 c12 c13 c14 c15 c16 c17 c18 c19; obtain ⟨c0, c1, c2, c3, c4, c5, c6, c7, c8, c9, c10, c11, c12, c13, c14, c15, c16, c17, c18, c19⟩ := box20 (unhide H1).blk)
          | (go_at_call 23; refine (rright_any _ _ _ _ _ _ _ _ _).mono ?_; rintro e w3 ⟨rfl, k3⟩; have H1 := hide ((unhide H1).go k3); clear k3 c0 c1 c2 c3 c4 c5 c6 c7 c8 c9 c10 c11 c12 c13 c14 c15 c16 c17 c18 c19)
          | (refine wpList_load_guard 30 _ rfl _ rfl 30 _ (0, 0) _ (unhide H1).blk Tryd.underlying30 rfl infoMail rfl ?_)
          | (go_at_call 25; refine (rreplies_any _ p l).mono ?_; rintro e w3 ⟨rfl, k3⟩; have H1 := hide ((unhide H1).go k3); clear k3 c0 c1 c2 c3 c4 c5 c6 c7 c8 c9 c10 c11 c12 c13 c14 c15 c16 c17 c18 c19))
        all_goals as_aux_lemma =>
          go_ret
          refine ⟨ret_bool ?_, (unhide H1).kept⟩
          (try clear c0 c1 c2 c3 c4 c5 c6 c7 c8 c9 c10 c11 c12 c13 c14 c15 c16 c17 c18 c19)
          clear H1
          have e3 := unhide HB3
          have e4 := unhide HB4
          rw [unhide HSK]
          clear HSK HCI HB3 HB4
          simp_all [opB]
          try (first | omega | (rw [Bool.eq_iff_iff]; simp; try omega))
end Go.Proofs.YtfhfkpgfnlmfhaaDoor

/- The document's Sound, by kinds. -/
namespace Go.Proofs.YtfhfkpgfnlmfhaaDoor
open Go.RowKit
set_option linter.unusedSimpArgs false

set_option maxRecDepth 100000 in
set_option maxHeartbeats 6400000 in
theorem rsound_4 (w : World) (p : Ml) (l : Lm) (hk : 4 ≤ p.kind) (hk8 : p.kind ≤ 8) (h0 : 0 ≤ p.shard) (h1 : p.shard < 64) (hc1 : -9223372036854775808 ≤ p.client) (hc2 : p.client ≤ 9223372036854775807) : Calls Tryd.prog 9 #[.agg (mcc p l)] w fun e w' => e = .returned (.bool (snd p)) ∧ Kept [] w w' := by
  have HSK := hide (snd_kh (by omega) hk8 h0 h1)
  have HCI := hide (And.intro hc1 hc2)
  have g0 : (p.shard < 0) = False := eq_false (by omega)
  have g1 : ((64 : Int) ≤ p.shard) = False := eq_false (by omega)
  have k1 : (p.kind < 1) = False := eq_false (by omega)
  have k2 : ((8 : Int) < p.kind) = False := eq_false (by omega)
  have k3 : (p.kind == 1) = false := by rw [beq_eq_false_iff_ne]; omega
  have k4 : (p.kind == 2) = false := by rw [beq_eq_false_iff_ne]; omega
  have k5 : (p.kind == 3) = false := by rw [beq_eq_false_iff_ne]; omega
  have k6 : ¬ p.kind = 3 := by omega
  have k7 : ¬ p.kind = 1 := by omega
  have k8 : ¬ p.kind = 2 := by omega
  clear hk hk8
  clear h0 h1 hc1 hc2
  go_enter Tryd.func9, Tryd.ntmps9
  go_upto_region 1 with fail
  refine world_at (R := fun X => RB w p l X) (RB.begin w p l) ?_
  rintro X hx
  have H0 := hide hx
  clear hx
  obtain ⟨c0, c1, c2, c3, c4, c5, c6, c7, c8, c9, c10, c11, c12, c13, c14, c15, c16, c17, c18, c19⟩ := box20 (unhide H0).blk
  go_upto_region 3 with fail
  obtain ⟨b3, hb3⟩ : ∃ b, noVerd p = b := ⟨_, rfl⟩
  obtain ⟨b4, hb4⟩ : ∃ b, noTrans p = b := ⟨_, rfl⟩
  have HB3 := hide hb3
  have HB4 := hide hb4
  clear hb3 hb4
  go_cut [3] (fun t wc => ∃ Z, Z = wc ∧ t = .bool b3 ∧ Hid (Kept [] X Z))
  case first =>
    go_wp2_with (go_at_call 20; refine (rnoAns_any _ _ _ _ _ _ _ _ _ _).mono ?_; rintro e w2 ⟨rfl, k2⟩; have HK2 := hide k2; have H1 := hide ((unhide H0).go k2); clear k2 H0 c0 c1 c2 c3 c4 c5 c6 c7 c8 c9 c10 c11 c12 c13 c14 c15 c16 c17 c18 c19; obtain ⟨c0, c1, c2, c3, c4, c5, c6, c7, c8, c9, c10, c11, c12, c13, c14, c15, c16, c17, c18, c19⟩ := box20 (unhide H1).blk)
    all_goals
      go_meet
      refine ⟨_, rfl, ?_, hide (by first | exact unhide HK2 | exact Kept.refl _ _)⟩
      rw [← unhide HB3]
      simp_all [noVerd, ansB]
      try (rw [Bool.eq_iff_iff]; simp)
  case rest =>
    obtain ⟨Z, rfl, rfl, hz⟩ := hcut
    have H1 := hide ((unhide H0).go (unhide hz))
    clear H0 hz c0 c1 c2 c3 c4 c5 c6 c7 c8 c9 c10 c11 c12 c13 c14 c15 c16 c17 c18 c19
    obtain ⟨c0, c1, c2, c3, c4, c5, c6, c7, c8, c9, c10, c11, c12, c13, c14, c15, c16, c17, c18, c19⟩ := box20 (unhide H1).blk
    go_upto_region 4 with fail
    go_cut [4] (fun t wc => Z = wc ∧ t = .bool b4)
    case first =>
      go_wp2_with fail
      all_goals
        go_meet
        refine ⟨rfl, ?_⟩
        rw [← unhide HB4]
        simp_all [noTrans, noCopy]
        try (rw [Bool.eq_iff_iff]; simp)
    case rest =>
      obtain ⟨hz, rfl⟩ := hcut
      subst hz
      cases b3 <;> cases b4
      all_goals
        go_wp2_with (first
          | (go_at_call 21; refine (rclient_any _ _ _ (unhide HCI).1 (unhide HCI).2).mono ?_; rintro e w2 ⟨rfl, k2⟩; have H1 := hide ((unhide H1).go k2); clear k2 c0 c1 c2 c3 c4 c5 c6 c7 c8 c9 c10 c11 c12 c13 c14 c15 c16 c17 c18 c19; obtain ⟨c0, c1, c2, c3, c4, c5, c6, c7, c8, c9, c10, c11, c12, c13, c14, c15, c16, c17, c18, c19⟩ := box20 (unhide H1).blk)
          | (go_at_call 22; refine (rserver_any _ _).mono ?_; rintro e w3 ⟨rfl, k3⟩; have H1 := hide ((unhide H1).go k3); clear k3 c0 c1 c2 c3 c4 c5 c6 c7 c8 c9 c10 c11 c12 c13 c14 c15 c16 c17 c18 c19; obtain ⟨c0, c1, c2, c3, c4, c5, c6, c7, c8, c9, c10, c11, c12, c13, c14, c15, c16, c17, c18, c19⟩ := box20 (unhide H1).blk)
          | (go_at_call 24; refine (rnoOp_any _ _ _ _ _ _ _ _ _).mono ?_; rintro e w3 ⟨rfl, k3⟩; have H1 := hide ((unhide H1).go k3); clear k3 c0 c1 c2 c3 c4 c5 c6 c7 c8 c9 c10 c11 c12 c13 c14 c15 c16 c17 c18 c19; obtain ⟨c0, c1, c2, c3, c4, c5, c6, c7, c8, c9, c10, c11, c12, c13, c14, c15, c16, c17, c18, c19⟩ := box20 (unhide H1).blk)
          | (go_at_call 23; refine (rright_any _ _ _ _ _ _ _ _ _).mono ?_; rintro e w3 ⟨rfl, k3⟩; have H1 := hide ((unhide H1).go k3); clear k3 c0 c1 c2 c3 c4 c5 c6 c7 c8 c9 c10 c11 c12 c13 c14 c15 c16 c17 c18 c19)
          | (refine wpList_load_guard 30 _ rfl _ rfl 30 _ (0, 0) _ (unhide H1).blk Tryd.underlying30 rfl infoMail rfl ?_)
          | (go_at_call 25; refine (rreplies_any _ p l).mono ?_; rintro e w3 ⟨rfl, k3⟩; have H1 := hide ((unhide H1).go k3); clear k3 c0 c1 c2 c3 c4 c5 c6 c7 c8 c9 c10 c11 c12 c13 c14 c15 c16 c17 c18 c19))
      all_goals
        go_ret
        refine ⟨ret_bool ?_, (unhide H1).kept⟩
        have e3 := unhide HB3
        have e4 := unhide HB4
        rw [unhide HSK]
        simp_all [opB]
        try (first | omega | (rw [Bool.eq_iff_iff]; simp; try omega))
end Go.Proofs.YtfhfkpgfnlmfhaaDoor
