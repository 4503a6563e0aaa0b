/- takeRow, Decode. -/
import Derived.Test.YtigmofbammofbabKTakeR
namespace Go.Proofs.Ytigmofbammofbab
open Go.RowKit

def preR (acc : Row) : Except Nat (Row × List Nat) → Except Nat (Row × List Nat)
  | .error e => .error e
  | .ok (r, rest) => .ok (acc.app r, rest)
theorem preR_nil (o : Except Nat (Row × List Nat)) : preR .nil o = o := by
  cases o with
  | error e => rfl
  | ok x => obtain ⟨a, b⟩ := x; rfl
theorem preR_cons (acc : Row) (h : Hd) (p : Row) (o : Except Nat (Row × List Nat)) : preR acc (match o with | .error e => .error e | .ok (r, rest') => .ok (.cons h p r, rest')) = preR (acc.app (.cons h p .nil)) o := by
  cases o with
  | error e => rfl
  | ok x => obtain ⟨a, b⟩ := x; simp only [preR, Row.app_assoc]; rfl

def RowC (f : Nat) : Prop := ∀ (w : World) (v : Value) (bs : List Nat) (d : Nat), Sees w v bs → bs.length < f → bs.length ≤ 1099511627776 → d ≤ 16 →
  Calls Try.prog 30 #[v, .int .i64 (d : Int)] w fun e w' => OutR v.ownBlock (takeR f bs d) w.heap.size w' e ∧ Kept [] w w'

set_option maxRecDepth 100000 in
set_option maxHeartbeats 2000000 in
theorem takeRow_any (f : Nat) : RowC f := by
  induction f using Nat.strongRecOn with
  | _ F ih =>
  intro w v bs d hs hlf hl40 hd
  have HIH := hide ih
  clear ih
  have HS := hide hs
  obtain ⟨a, cap, rfl, h1, h2, h3, h4⟩ := hs
  clear h3 h4 h1 h2
  generalize hL : bs.length = L at HS hlf hl40 ⊢
  have HL := hide hL
  clear hL
  have hsf := fun (w : World) (a : Addr) (m : Nat) (md : Mode) => run_store Try.prog w a (.float .f64 m) md rfl
  have hsc := fun (w : World) (a : Addr) (m n : Nat) (md : Mode) => run_store Try.prog w a (.complex .f64 m n) md rfl
  go_enter Try.func30, Try.ntmps30
  go_wp2_with fail
  go_loopw [0, 7] (fun p row wr => ∃ (g : Nat) (cur : List Nat) (l : List El) (pa : Option Addr) (m pc : Nat) (va : Option Addr) (vn vc : Nat), p = .slice pa m pc ∧ row = .slice va vn vc ∧ cur.length = m ∧ m < g ∧ g ≤ F ∧ m + vn ≤ L ∧ l.length = vn ∧ Sees wr (.slice pa m pc) cur ∧ (Value.slice pa m pc).ownBlock = (Value.slice a L cap).ownBlock ∧ takeR F bs d = preR (rowE l) (takeR g cur d) ∧ OwnV w.heap.size wr (.slice va vn vc) l ∧ Kept [] w wr) (fun p _ _ => match p with | .slice _ m _ => m | _ => 0)
  case atStart => exact ⟨F, bs, [], a, L, cap, none, 0, 0, rfl, rfl, unhide HL, hlf, Nat.le_refl _, by omega, rfl, unhide HS, rfl, (preR_nil _).symm, OwnV.nil _ _, Kept.refl _ _⟩
  case round =>
    obtain ⟨g, cur, l, pa, m, pc, va, vn, vc, rfl, rfl, hcm, hmg, hgF, hmn, hln, hsc', hob, htk, how, hkp⟩ := hrel
    have HOW := hide how
    have HKP := hide hkp
    have HTK := hide htk
    have HLN := hide hln
    have HOB := hide hob
    have HSC := hide hsc'
    have HCM := hide hcm
    clear how hkp htk hln hob hcm
    obtain ⟨g', rfl⟩ : ∃ g', g = g' + 1 := ⟨g - 1, by omega⟩
    cases cur with
    | nil =>
      have hm0 : m = 0 := (unhide HCM).symm
      subst hm0
      rw [takeR_nil] at HTK
      simp only [preR, Row.app_nil] at HTK
      clear hsc'
      go_wp2
      go_ret3
      exact ⟨by rw [unhide HTK]; exact ⟨va, vn, vc, pa, 0, pc, rfl, by rw [rowE_len]; exact unhide HLN, (unhide HOW).row, rfl, unhide HSC, unhide HOB⟩, unhide HKP⟩
    | cons k t =>
      obtain ⟨m', rfl⟩ : ∃ m', m = m' + 1 := ⟨t.length, (unhide HCM).symm⟩
      obtain ⟨pa', pc', hv, q1, q2, q3, q4⟩ := hsc'
      have hv1 : pa' = pa ∧ pc' = pc := by cases hv; exact ⟨rfl, rfl⟩
      obtain ⟨rfl, rfl⟩ := hv1
      clear hv
      rcases q4 with q4 | ⟨b, off, rfl, q5, q6⟩
      · cases q4
      have hc : wr.cell? ⟨b, off, none⟩ = some (.int .u8 (k : Int)) := by
        have := q6 0 (by simp)
        simpa using this
      have hk256 : k < 256 := q3 k (List.mem_cons_self ..)
      have hrc : m' + 1 ≤ pc' := by have := q1; rw [unhide HCM] at this; exact this
      unfold maxLen at q2
      clear q1 q3 q6
      have t1 : ((m' : Int) + 1 > 0) = True := by simp
      have hbw : b < w.heap.size := by
        obtain ⟨a2, c2, hv2, _, _, _, r4⟩ := unhide HS
        rcases r4 with r4 | ⟨b0, off0, r5, r6, _⟩
        · have := unhide HL; rw [r4] at this; simp at this; omega
        · cases hv2
          subst r5
          have := unhide HOB
          simp [Value.ownBlock] at this
          omega
      by_cases hk0 : k = 0
      · subst hk0
        rw [takeR_end] at HTK
        simp only [preR, Row.app_nil] at HTK
        have hc' : wr.cell? ⟨b, off, none⟩ = some (.int .u8 0) := hc
        clear hc
        go_wp2
        go_ret3
        exact ⟨by rw [unhide HTK]; exact ⟨va, vn, vc, _, m' + 1, pc', rfl, by rw [rowE_len]; exact unhide HLN, (unhide HOW).row, unhide HCM, unhide HSC, unhide HOB⟩, unhide HKP⟩
      · have t2 : ((k : Int) != 0) = true := by simp; omega
        rw [takeR_succ _ _ _ _ hk0] at HTK
        have htl : t.length = m' := by have := unhide HCM; simpa using this
        have HTV := hide (takeValue_any (d := d) (rec := takeR g' t (d + 1)) (unhide HSC) (by omega) hd (fun w v hv hd16 => unhide HIH g' (by omega) w v t (d + 1) hv (by omega) (by omega) (by omega)) (fun n hn => takeR_err hn (by omega)))
        have HVL : Hid (∀ h p r, takeV (takeR g' t (d + 1)) k t d = .ok (h, p, r) → r.length ≤ m') := fun h p r e => by rw [← htl]; exact takeV_len e (fun q x hq => takeR_len hq)
        have HVE : Hid (∀ n, takeV (takeR g' t (d + 1)) k t d = .error n → n = 40 ∨ n = 41) := fun n hn => takeV_err hn (fun n hn => takeR_err hn (by omega))
        clear hk0 htl
        cases hv : takeV (takeR g' t (d + 1)) k t d with
        | error n =>
          rw [hv] at HTV HTK
          have hn := unhide HVE n hv
          have t3 : ((n : Int) != 0) = true := by simp; omega
          have HTK2 : Hid (takeR F bs d = .error n) := unhide HTK
          clear HTK hv HVL HVE
          go_wp2_with (first | (go_at_call 36; refine (unhide HTV).mono ?_; rintro e w1 ⟨⟨h, ra, rm, rc, rfl⟩, hk1⟩; obtain ⟨kind, bb, nn, re, prr, im, text⟩ := h; unfold aggV; simp only; have HK1 := hide ((unhide HKP).trans hk1 (by simp)); clear hk1))
          go_ret3
          exact ⟨by rw [unhide HTK2]; rfl, (unhide HK1).alloc _⟩
        | ok hpr =>
          obtain ⟨h, p, rest⟩ := hpr
          rw [hv] at HTV HTK
          have hrl := unhide HVL h p rest hv
          have HTK2 : Hid (takeR F bs d = preR ((rowE l).app (.cons h p .nil)) (takeR g' rest d)) := (unhide HTK).trans (preR_cons _ _ _ _)
          clear HTK hv HVL HVE
          have HWW := hide (unhide HKP).size
          have HRB : Hid (∀ x, (Value.slice va vn vc).ownBlock = some x → w.heap.size ≤ x ∧ x < wr.heap.size) := fun x hx => (unhide HOW).1.lt x hx
          have HVN : Hid (vn ≤ 1099511627776) := by unfold Hid; omega
          go_wp2_with (first | (go_at_call 36; refine (unhide HTV).mono ?_; rintro e w1 ⟨⟨ta, tn, tc, qa, qn, qc, ra, rm, rc, rfl, hok, htx, hpl, hpr, hrm, hsr, hbr⟩, hk1⟩; have HOE : Hid (ElOk (New wr.heap.size) w1 ⟨h, .slice ta tn tc, .slice qa qn qc, p⟩) := ⟨hok, htx, hpr⟩; have HRM := hide hrm; have HSR := hide hsr; have HBR := hide hbr; have HK1 := hide ((unhide HKP).trans hk1 (by simp)); have HOW1 := hide ((unhide HOW).kept hk1); have hws := hk1.size; clear hk1 hok htx hpl hpr hrm hsr hbr; obtain ⟨kind, bb, nn, re, prr, im, text⟩ := h; unfold aggV; simp only; have HK3 : Hid (Kept [] w1 ((w1.alloc (.cells #[.int .i64 kind, .bool bb, .int .i64 nn, .float .f64 re, .complex .f64 prr im, .slice ta tn tc, .slice qa qn qc] 48)).alloc (.cells #[.int .i64 kind, .bool bb, .int .i64 nn, .float .f64 re, .complex .f64 prr im, .slice ta tn tc, .slice qa qn qc] 48))) := ((Kept.refl [] w1).alloc _).alloc _; have HOW3 := hide ((unhide HOW1).kept (unhide HK3)); have HCE := hide (cells_seven_new (w1.alloc (.cells #[.int .i64 kind, .bool bb, .int .i64 nn, .float .f64 re, .complex .f64 prr im, .slice ta tn tc, .slice qa qn qc] 48)) (.int .i64 kind) (.bool bb) (.int .i64 nn) (.float .f64 re) (.complex .f64 prr im) (.slice ta tn tc) (.slice qa qn qc) 48); have HE3 : Hid (ElOk (fun x => w.heap.size ≤ x ∧ (Value.slice va vn vc).ownBlock ≠ some x) ((w1.alloc (.cells #[.int .i64 kind, .bool bb, .int .i64 nn, .float .f64 re, .complex .f64 prr im, .slice ta tn tc, .slice qa qn qc] 48)).alloc (.cells #[.int .i64 kind, .bool bb, .int .i64 nn, .float .f64 re, .complex .f64 prr im, .slice ta tn tc, .slice qa qn qc] 48)) ⟨⟨kind, bb, nn, re, prr, im, text⟩, .slice ta tn tc, .slice qa qn qc, p⟩) := (((unhide HOE).mono (fun x _ hx => ⟨Nat.le_trans (unhide HWW) hx, fun e => by have := (unhide HRB x e).2; unfold New at hx; omega⟩)).kept (unhide HK3) (by simp)); simp only [World.size_alloc] at HCE) | (at_builtin; refine wpList_append_val (e := ⟨⟨kind, bb, nn, re, prr, im, text⟩, .slice ta tn tc, .slice qa qn qc, p⟩) _ rfl _ _ rfl rfl HOW3 HLN rfl HCE (by intro u hu; simp [cellsV] at hu; rcases hu with rfl | rfl | rfl | rfl | rfl | rfl | rfl <;> rfl) HE3 HVN (by have h1 := (unhide HK1).size; have h2 := (unhide HK3).size; exact Nat.le_trans h1 h2) ?_))
          intro va' vc' w4 HO4 HK4
          have HK5 : Hid (Kept [] w w4) := ((unhide HK1).trans (unhide HK3) (by simp)).trans (unhide HK4) (fun x hx => Or.inr (unhide HRB x (by simpa using hx)).1)
          have HSR4 : Hid (Sees w4 (.slice ra rm rc) rest) := ((unhide HSR).kept (unhide HK3) (Or.inr (by simp))).kept (unhide HK4) (Or.inr (fun x hx hm => by
            have h1 := (unhide HRB x (by simpa using hm)).1
            have h2 := unhide HBR
            rw [hx] at h2
            simp [Value.ownBlock] at h2
            omega))
          have HTK3 : Hid (takeR F bs d = preR (rowE (l ++ [⟨⟨kind, bb, nn, re, prr, im, text⟩, .slice ta tn tc, .slice qa qn qc, p⟩])) (takeR g' rest d)) := by
            unfold Hid
            rw [rowE_app]
            exact unhide HTK2
          have HLN4 : Hid ((l ++ [(⟨⟨kind, bb, nn, re, prr, im, text⟩, .slice ta tn tc, .slice qa qn qc, p⟩ : El)]).length = vn + 1) := by unfold Hid; rw [List.length_append, unhide HLN]; rfl
          have hrm2 : rm ≤ m' := by rw [← unhide HRM]; exact hrl
          go_wp2
          exact ⟨⟨g', rest, _, ra, rm, rc, va', vn + 1, vc', rfl, rfl, unhide HRM, by omega, by omega, by omega, unhide HLN4, unhide HSR4, (unhide HBR).trans (unhide HOB), unhide HTK3, unhide HO4, unhide HK5⟩, by simp; omega⟩
/-- the answer of Decode -/
def OutD (o : Except Nat Row) (B : Nat) (w : World) (e : Ending) : Prop :=
  match o with
  | .error n => e = .returned (.tuple #[.slice none 0 0, .int .i64 (n : Int)])
  | .ok r => ∃ va vn vc, e = .returned (.tuple #[.slice va vn vc, .int .i64 0]) ∧ r.len = vn ∧ RowV (New B) w (.slice va vn vc) r
theorem decR_err {bs : List Nat} {n : Nat} (h : decR bs = .error n) : n = 40 ∨ n = 41 := by
  unfold decR at h
  split at h
  · rename_i hr
    cases h
    exact takeR_err hr (by omega)
  · split at h
    · cases h
    · cases h; exact Or.inl rfl

set_option maxRecDepth 100000 in
set_option maxHeartbeats 1000000 in
theorem decode_any {w : World} {v : Value} {bs : List Nat} (hs : Sees w v bs) (hl : bs.length ≤ 1099511627776) :
    Calls Try.prog 12 #[v] w fun e w' => OutD (decR bs) w.heap.size w' e ∧ Kept [] w w' := by
  have HTR := hide (takeRow_any (bs.length + 1) w v bs 0 hs (by omega) hl (by omega))
  obtain ⟨a, cap, rfl, h1, h2, h3, h4⟩ := hs
  clear h3 h4
  have hE : ∀ n, takeR (bs.length + 1) bs 0 = .error n → n = 40 ∨ n = 41 := fun n hn => takeR_err hn (by omega)
  unfold decR
  cases ho : takeR (bs.length + 1) bs 0 with
  | error n =>
    rw [ho] at HTR
    have hn := hE n ho
    have t3 : ((n : Int) != 0) = true := by simp; omega
    clear ho hE
    generalize bs.length = L at *
    go_enter Try.func12, Try.ntmps12
    go_wp2_with (first | (go_at_call 30; refine (unhide HTR).mono ?_; rintro e w1 ⟨rfl, hk1⟩; have HK1 := hide hk1; clear hk1))
    go_ret2
    exact ⟨rfl, unhide HK1⟩
  | ok rr =>
    obtain ⟨r, rest⟩ := rr
    rw [ho] at HTR
    clear ho hE
    generalize bs.length = L at *
    by_cases hr : rest = []
    · subst hr
      simp only [if_pos]
      go_enter Try.func12, Try.ntmps12
      go_wp2_with (first | (go_at_call 30; refine (unhide HTR).mono ?_; rintro e w1 ⟨⟨va, vn, vc, ra, m, rc, rfl, hl1, hr1, hm1, hs1⟩, hk1⟩; have HK1 := hide hk1; have hm2 : m = 0 := hm1.symm; subst hm2; have HO1 := hide (⟨hl1, hr1⟩ : _ ∧ _); clear hk1 hl1 hr1 hs1 hm1))
      go_ret2
      exact ⟨⟨va, vn, vc, rfl, (unhide HO1).1, (unhide HO1).2⟩, unhide HK1⟩
    · simp only [if_neg hr]
      go_enter Try.func12, Try.ntmps12
      go_wp2_with (first | (go_at_call 30; refine (unhide HTR).mono ?_; rintro e w1 ⟨⟨va, vn, vc, ra, m, rc, rfl, hl1, hr1, hm1, hs1⟩, hk1⟩; have HK1 := hide hk1; have hm2 : 0 < m := (by cases rest with | nil => exact absurd rfl hr | cons y z => simp at hm1; omega); clear hk1 hl1 hr1 hs1 hm1))
      go_ret2
      exact ⟨rfl, unhide HK1⟩
end Go.Proofs.Ytigmofbammofbab
