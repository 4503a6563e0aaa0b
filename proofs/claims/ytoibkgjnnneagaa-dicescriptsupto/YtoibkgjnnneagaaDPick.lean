/- Pick. -/
import Derived.Test.YtoibkgjnnneagaaDReal
import Derived.Test.YtoibkgjnnneagaaDSum
namespace Go.Proofs.Ytoibkgjnnneagaa
open Go.RowKit

/-- The slice v reads as these words. -/
def SeesF (w : World) (v : Value) (l : List Nat) : Prop :=
  ∃ a cap, v = .slice a l.length cap ∧ l.length ≤ cap ∧ cap ≤ maxLen ∧
    (l = [] ∨ ∃ b off, a = some ⟨b, off, none⟩ ∧ b < w.heap.size ∧ ∀ j, j < l.length → w.cell? ⟨b, off + j, none⟩ = some (.float .f64 (l.getD j 0)))
theorem SeesF.kept {F : List Nat} {w w' : World} {v : Value} {l : List Nat} (h : SeesF w v l) (hk : Kept F w w') (hn : l = [] ∨ ∀ k, v.ownBlock = some k → k ∉ F) : SeesF w' v l := by
  obtain ⟨a, cap, rfl, h1, h2, h4⟩ := h
  refine ⟨a, cap, rfl, h1, h2, ?_⟩
  rcases h4 with h4 | ⟨b, off, rfl, h5, h6⟩
  · exact Or.inl h4
  · rcases hn with hn | hn
    · exact Or.inl hn
    · refine Or.inr ⟨b, off, rfl, Nat.lt_of_lt_of_le h5 hk.size, fun j hj => ?_⟩
      rw [hk.cell (p := ⟨b, off + j, none⟩) h5 (hn b rfl)]
      exact h6 j hj
theorem at_flt {w : World} {a : Option Addr} {L : Nat} {l : List Nat} (hL : l.length = L) (h : l = [] ∨ ∃ b off, a = some ⟨b, off, none⟩ ∧ b < w.heap.size ∧ ∀ j, j < L → w.cell? ⟨b, off + j, none⟩ = some (.float .f64 (l.getD j 0))) {k : Nat} (hk : k < L) :
    ∃ b off, a = some ⟨b, off, none⟩ ∧ w.cell? ⟨b, off + k, none⟩ = some (.float .f64 (l.getD k 0)) := by
  rcases h with h | ⟨b, off, h1, _, h3⟩
  · subst h; simp at hL; omega
  · exact ⟨b, off, h1, h3 k hk⟩

set_option maxRecDepth 100000 in
theorem isInf_any (w : World) (b : Nat) : Calls Try.prog 50 #[.float .f64 b, .int .i64 1] w fun e w' => e = .returned (.bool (FloatKind.f64.format.order b 9218868437227405311 == some Ordering.gt)) ∧ w' = w := by
  go_enter Try.func50, Try.ntmps50
  go_wp2
  go_ret
  exact ⟨rfl, rfl⟩
set_option maxRecDepth 100000 in
theorem isNaN_any (w : World) (b : Nat) : Calls Try.prog 51 #[.float .f64 b] w fun e w' => e = .returned (.bool (FloatKind.f64.format.order b b != some Ordering.eq)) ∧ w' = w := by
  go_enter Try.func51, Try.ntmps51
  go_wp2
  go_ret
  exact ⟨rfl, rfl⟩

/-- can weights be picked from -/
def right (ws : List Nat) : Prop := (∀ j, j < ws.length → fair (ws.getD j 0)) ∧ fine (sumF ws ws.length) = true

theorem fmt_yes {b : Nat} (h : fair b) : (FloatKind.f64.format.order b 0 == some .lt) = false ∧ (FloatKind.f64.format.order b 9218868437227405311 == some .gt) = false ∧ (FloatKind.f64.format.order b b != some .eq) = false := fair_yes h
theorem fmt_no {b : Nat} (h : ¬ fair b) (hb : b < 18446744073709551616) : (FloatKind.f64.format.order b 0 == some .lt) = true ∨ ((FloatKind.f64.format.order b 0 == some .lt) = false ∧ (FloatKind.f64.format.order b 9218868437227405311 == some .gt) = true) ∨ ((FloatKind.f64.format.order b 0 == some .lt) = false ∧ (FloatKind.f64.format.order b 9218868437227405311 == some .gt) = false ∧ (FloatKind.f64.format.order b b != some .eq) = true) := fair_no h hb
theorem fmt_fine {s : Nat} (hs : good s) (h : fine s = true) : (FloatKind.f64.format.order s 0 == some .gt) = true ∧ (FloatKind.f64.format.order s 9218868437227405311 == some .gt) = false := fine_yes hs h
theorem fmt_unfine {s : Nat} (hs : good s) (h : fine s = false) : (FloatKind.f64.format.order s 0 == some .gt) = false ∨ ((FloatKind.f64.format.order s 0 == some .gt) = true ∧ (FloatKind.f64.format.order s 9218868437227405311 == some .gt) = true) := fine_no hs h

set_option maxRecDepth 100000 in
set_option maxHeartbeats 2000000 in
theorem total_yes {w : World} {v : Value} {ws : List Nat} (hs : SeesF w v ws) (hf : ∀ j, j < ws.length → fair (ws.getD j 0)) (hl : ws.length ≤ 1099511627776) :
    Calls Try.prog 41 #[v] w fun e w' => e = .returned (.tuple #[.float .f64 (sumF ws ws.length), .bool (fine (sumF ws ws.length))]) ∧ w' = w := by
  obtain ⟨p, pc, rfl, h1, h2, h4⟩ := hs
  have HS := fun k (hk : k ≤ ws.length) => sum_good (ws := ws) (k := k) fun j hj => hf j (by omega)
  have HSS : ∀ k, sumF ws (k + 1) = addF (sumF ws k) (ws.getD k 0) := fun k => rfl
  generalize hLL : ws.length = L at *
  have HL := hide hLL
  have H4 := hide h4
  clear hLL h4
  have HI := fun b w => hide (isInf_any w b)
  have HN := fun b w => hide (isNaN_any w b)
  go_enter Try.func41, Try.ntmps41
  go_wp2_with fail
  go_loop [4, 9] (fun s i => ∃ k : Nat, k ≤ L ∧ i = .int .i64 k ∧ s = .float .f64 (sumF ws k)) (fun _ i => L - (intOf i).toNat)
  case atStart => exact ⟨0, by omega, rfl, rfl⟩
  case round =>
    obtain ⟨k, hk, rfl, rfl⟩ := hrel
    by_cases hlt : k < L
    · obtain ⟨b, off, hpa, hc⟩ := at_flt (k := k) (unhide HL) (unhide H4) hlt
      subst hpa
      have hg := HS k hk
      have hfk := hf k hlt
      have hadd := (add_eq hg hfk).1
      obtain ⟨t1, t2, t3⟩ := fmt_yes hfk
      have hss := hide (HSS k)
      clear HS HSS hf H4
      replace HI := HI (ws.getD k 0)
      replace HN := HN (ws.getD k 0)
      generalize ws.getD k 0 = x at *
      rw [t2] at HI
      rw [t3] at HN
      generalize hS : sumF ws k = S at *
      generalize hA : addF S x = A at *
      have hrun : ∀ t w, (binOp .add t (.float .f64 S) (.float .f64 x)).run Try.prog w = .ok (.float .f64 A) w := fun t w => run_float_arith w .add t .f64 _ _ _ hadd
      clear hadd t2 t3 hg hfk hS hA
      go_wp2_with (first
        | (go_at_call 50; refine (unhide (HI _)).mono ?_; rintro e w1 ⟨rfl, hq⟩; have hq' := hq.symm; subst hq'; clear HI)
        | (go_at_call 51; refine (unhide (HN _)).mono ?_; rintro e w1 ⟨rfl, hq⟩; have hq' := hq.symm; subst hq'; clear HN))
      exact ⟨⟨k + 1, by omega, by simp, by rw [unhide hss]⟩, by simp [intOf]; omega⟩
    · obtain rfl : k = L := by omega
      have hg := HS k (by omega)
      obtain ⟨S, hS⟩ : ∃ S, sumF ws k = S := ⟨_, rfl⟩
      rw [hS] at hg
      rw [hS]
      replace HI := HI S
      have HE := hide hS
      clear HS HSS hS
      cases hfi : fine S with
      | true =>
        obtain ⟨t1, t2⟩ := fmt_fine hg hfi
        rw [t2] at HI
        have HF := hide hfi
        clear hf hfi t2
        go_wp2_with (first
          | (go_at_call 50; refine (unhide (HI _)).mono ?_; rintro e w1 ⟨rfl, hq⟩; have hq' := hq.symm; subst hq'; clear HI))
        refine bodyPost_ret (results_tmp2 rfl _ _ _) rfl ?_
        refine ⟨?_, rfl⟩
        rw [unhide HE, unhide HF]; rfl
      | false =>
        rcases fmt_unfine hg hfi with t1 | ⟨t1, t2⟩
        · have HF := hide hfi
          clear hf hfi
          go_wp2_with (first
            | (go_at_call 50; refine (unhide (HI _)).mono ?_; rintro e w1 ⟨rfl, hq⟩; have hq' := hq.symm; subst hq'; clear HI))
          refine bodyPost_ret (results_tmp2 rfl _ _ _) rfl ?_
          refine ⟨?_, rfl⟩
          rw [unhide HE, unhide HF]; rfl
        · rw [t2] at HI
          have HF := hide hfi
          clear hf hfi t2
          go_wp2_with (first
            | (go_at_call 50; refine (unhide (HI _)).mono ?_; rintro e w1 ⟨rfl, hq⟩; have hq' := hq.symm; subst hq'; clear HI))
          refine bodyPost_ret (results_tmp2 rfl _ _ _) rfl ?_
          refine ⟨?_, rfl⟩
          rw [unhide HE, unhide HF]; rfl

set_option maxRecDepth 100000 in
set_option maxHeartbeats 2000000 in
theorem total_no {w : World} {v : Value} {ws : List Nat} (hs : SeesF w v ws) (hb : ∀ j, j < ws.length → ws.getD j 0 < 18446744073709551616) (hf : ¬ ∀ j, j < ws.length → fair (ws.getD j 0)) (hl : ws.length ≤ 1099511627776) :
    Calls Try.prog 41 #[v] w fun e w' => e = .returned (.tuple #[.float .f64 0, .bool false]) ∧ w' = w := by
  obtain ⟨p, pc, rfl, h1, h2, h4⟩ := hs
  have HSS : ∀ k, sumF ws (k + 1) = addF (sumF ws k) (ws.getD k 0) := fun k => rfl
  generalize hLL : ws.length = L at *
  have HL := hide hLL
  have H4 := hide h4
  have HF := hide hf
  clear hLL h4 hf
  have HI := fun b w => hide (isInf_any w b)
  have HN := fun b w => hide (isNaN_any w b)
  go_enter Try.func41, Try.ntmps41
  go_wp2_with fail
  go_loop [4, 9] (fun s i => ∃ k : Nat, k ≤ L ∧ i = .int .i64 k ∧ s = .float .f64 (sumF ws k) ∧ ∀ j, j < k → fair (ws.getD j 0)) (fun _ i => L - (intOf i).toNat)
  case atStart => exact ⟨0, by omega, rfl, rfl, fun j hj => by omega⟩
  case round =>
    obtain ⟨k, hk, rfl, rfl, hfk⟩ := hrel
    by_cases hlt : k < L
    · obtain ⟨b, off, hpa, hc⟩ := at_flt (k := k) (unhide HL) (unhide H4) hlt
      subst hpa
      have hg := sum_good hfk
      have hss := hide (HSS k)
      have hbk := hb k hlt
      have HFK := hide hfk
      clear HSS H4 hfk hb
      replace HI := HI (ws.getD k 0)
      replace HN := HN (ws.getD k 0)
      by_cases hfx : fair (ws.getD k 0)
      · have HN1 : Hid (∀ j, j < k + 1 → fair (ws.getD j 0)) := fun j hj => by
          by_cases e : j = k
          · rw [e]; exact hfx
          · exact unhide HFK j (by omega)
        have hadd := (add_eq hg hfx).1
        obtain ⟨t1, t2, t3⟩ := fmt_yes hfx
        generalize ws.getD k 0 = x at *
        rw [t2] at HI
        rw [t3] at HN
        generalize hS : sumF ws k = S at *
        generalize hA : addF S x = A at *
        have hrun : ∀ t w, (binOp .add t (.float .f64 S) (.float .f64 x)).run Try.prog w = .ok (.float .f64 A) w := fun t w => run_float_arith w .add t .f64 _ _ _ hadd
        clear hadd t2 t3 hg hfx hS hA HFK
        go_wp2_with (first
          | (go_at_call 50; refine (unhide (HI _)).mono ?_; rintro e w1 ⟨rfl, hq⟩; have hq' := hq.symm; subst hq'; clear HI)
          | (go_at_call 51; refine (unhide (HN _)).mono ?_; rintro e w1 ⟨rfl, hq⟩; have hq' := hq.symm; subst hq'; clear HN))
        exact ⟨⟨k + 1, by omega, by simp, by rw [unhide hss], unhide HN1⟩, by simp [intOf]; omega⟩
      · have hno := fmt_no hfx hbk
        generalize ws.getD k 0 = x at *
        generalize hS : sumF ws k = S at *
        clear hg hfx hS hbk
        rcases hno with t1 | ⟨t1, t2⟩ | ⟨t1, t2, t3⟩
        · go_wp2_with fail
          refine bodyPost_ret (results_tmp2 rfl _ _ _) rfl ?_
          exact ⟨rfl, rfl⟩
        · rw [t2] at HI
          clear t2
          go_wp2_with (first
            | (go_at_call 50; refine (unhide (HI _)).mono ?_; rintro e w1 ⟨rfl, hq⟩; have hq' := hq.symm; subst hq'; clear HI))
          refine bodyPost_ret (results_tmp2 rfl _ _ _) rfl ?_
          exact ⟨rfl, rfl⟩
        · rw [t2] at HI
          rw [t3] at HN
          clear t2 t3
          go_wp2_with (first
            | (go_at_call 50; refine (unhide (HI _)).mono ?_; rintro e w1 ⟨rfl, hq⟩; have hq' := hq.symm; subst hq'; clear HI)
            | (go_at_call 51; refine (unhide (HN _)).mono ?_; rintro e w1 ⟨rfl, hq⟩; have hq' := hq.symm; subst hq'; clear HN))
          refine bodyPost_ret (results_tmp2 rfl _ _ _) rfl ?_
          exact ⟨rfl, rfl⟩
    · exact absurd (fun j hj => hfk j (by omega)) (unhide HF)

set_option maxRecDepth 100000 in
set_option maxHeartbeats 2000000 in
theorem above_any {w : World} {v : Value} {ws : List Nat} (hs : SeesF w v ws) (hf : ∀ j, j < ws.length → fair (ws.getD j 0)) (hl : ws.length ≤ 1099511627776) (x : Nat) :
    Calls Try.prog 42 #[v, .float .f64 x] w fun e w' => e = .returned (.int .i64 ((aboveF ws x ws.length 0 : Nat) : Int)) ∧ w' = w := by
  obtain ⟨p, pc, rfl, h1, h2, h4⟩ := hs
  have HS := fun k (hk : k ≤ ws.length) => sum_good (ws := ws) (k := k) fun j hj => hf j (by omega)
  have HSS : ∀ k, sumF ws (k + 1) = addF (sumF ws k) (ws.getD k 0) := fun k => rfl
  have HA : ∀ f k, aboveF ws x (f + 1) k = if (FloatKind.f64.format.order (sumF ws (k + 1)) x == some .gt) = true then k else aboveF ws x f (k + 1) := fun f k => rfl
  have HLa : ∀ k, lastF ws (k + 1) = if (FloatKind.f64.format.order (ws.getD k 0) 0 == some .gt) = true then k else lastF ws k := fun k => rfl
  generalize hLL : ws.length = L at *
  have HL := hide hLL
  have H4 := hide h4
  clear hLL h4
  have hl0 : ∀ k, lastF ws k ≤ k := by
    intro k
    induction k with
    | zero => exact Nat.le_refl _
    | succ k ih => rw [HLa]; split <;> omega
  go_enter Try.func42, Try.ntmps42
  go_wp2_with fail
  go_loop [5, 6, 11] (fun s l i => ∃ k : Nat, k ≤ L ∧ i = .int .i64 k ∧ s = .float .f64 (sumF ws k) ∧ l = .int .i64 (lastF ws k : Nat) ∧ aboveF ws x L 0 = aboveF ws x (L - k) k) (fun _ _ i => L - (intOf i).toNat)
  case atStart => exact ⟨0, by omega, rfl, rfl, rfl, rfl⟩
  case round =>
    obtain ⟨k, hk, rfl, rfl, rfl, hab⟩ := hrel
    by_cases hlt : k < L
    · obtain ⟨b, off, hpa, hc⟩ := at_flt (k := k) (unhide HL) (unhide H4) hlt
      subst hpa
      have hg := HS k hk
      have hfk := hf k hlt
      have hadd := (add_eq hg hfk).1
      have hss := HSS k
      have hla := HLa k
      rw [show L - k = (L - (k + 1)) + 1 by omega, HA] at hab
      clear HS HSS hf H4 HA HLa hl0
      rw [hss] at hab
      have HSS := hide hss
      generalize ws.getD k 0 = y at *
      generalize hS : sumF ws k = S at *
      generalize hA : addF S y = A at *
      have HAB := hide hab
      have HLA := hide hla
      have hrun : ∀ t w, (binOp .add t (.float .f64 S) (.float .f64 y)).run Try.prog w = .ok (.float .f64 A) w := fun t w => run_float_arith w .add t .f64 _ _ _ hadd
      clear hadd hg hfk hS hA hab hla hss
      generalize hgt : (FloatKind.f64.format.order A x == some Ordering.gt) = B at *
      cases B with
      | true =>
        rw [if_pos rfl] at HAB
        go_wp2
        go_ret
        refine ⟨?_, rfl⟩
        rw [unhide HAB]
        rfl
      | false =>
        rw [if_neg (by simp)] at HAB
        generalize hpo : (FloatKind.f64.format.order y 0 == some Ordering.gt) = B2 at *
        cases B2 with
        | true =>
          rw [if_pos rfl] at HLA
          generalize lastF ws k = la at *
          go_wp2
          exact ⟨⟨k + 1, by omega, by simp, by rw [unhide HSS], by rw [unhide HLA], by rw [unhide HAB]⟩, by simp [intOf]; omega⟩
        | false =>
          rw [if_neg (by simp)] at HLA
          generalize lastF ws k = la at *
          go_wp2
          exact ⟨⟨k + 1, by omega, by simp, by rw [unhide HSS], by rw [unhide HLA], by rw [unhide HAB]⟩, by simp [intOf]; omega⟩
    · obtain rfl : k = L := by omega
      rw [Nat.sub_self] at hab
      have HAB := hide hab
      clear hab HS HSS hf H4 HA HLa hl0
      obtain ⟨la, hla⟩ : ∃ la, lastF ws k = la := ⟨_, rfl⟩
      have HLA := hide hla
      rw [hla]
      clear hla
      go_wp2
      go_ret
      refine ⟨?_, rfl⟩
      rw [unhide HAB, show aboveF ws x 0 k = lastF ws k from rfl, unhide HLA]
      rfl

/-- what is picked -/
def pickF (ws : List Nat) (s : Nat) : Nat := aboveF ws (mulF (realW (mixN (on s 1) / 2048)) (sumF ws ws.length)) ws.length 0

set_option maxRecDepth 100000 in
set_option maxHeartbeats 2000000 in
theorem pick_yes {w : World} {b s : Nat} {v : Value} {ws : List Nat} (h : Dc w b s) (hs : SeesF w v ws) (hv : ∀ k, v.ownBlock = some k → k ≠ b) (hr : right ws) (hl : ws.length ≤ 1099511627776) :
    Calls Try.prog 13 #[.pointer (some ⟨b, 0, none⟩), v] w fun e w' => e = .returned (.tuple #[.int .i64 ((pickF ws s : Nat) : Int), .int .i64 0]) ∧ Dc w' b (on s 1) ∧ Kept [b] w w' := by
  have HT := hide (total_yes hs hr.1 hl)
  have HR := hide (real_any h)
  have HA := fun w1 (hk : Kept [b] w w1) x => hide (above_any (hs.kept hk (Or.inr fun k hk => by have := hv k hk; simpa using this)) hr.1 hl x)
  have hfi := hr.2
  have hg := sum_good hr.1
  have hlt : mixN (on s 1) / 2048 < 2 ^ 53 := by have := mixN_lt (on s 1); omega
  have hfin : 0 < sumF ws ws.length ∧ sumF ws ws.length < 9218868437227405312 := of_decide_eq_true hfi
  have hm := (mul_eq (x := realW (mixN (on s 1) / 2048)) (s := sumF ws ws.length) (by have := realW_lt hlt; omega) hfin.2).1
  rw [hfi] at HT
  unfold pickF
  obtain ⟨p, pc, rfl, h1, h2, -⟩ := hs
  clear hr h hfin hlt hg hfi hv
  generalize ws.length = L at *
  generalize realW (mixN (on s 1) / 2048) = X at *
  generalize sumF ws L = S at *
  generalize mulF X S = Y at *
  have hrun : ∀ t w, (binOp .mul t (.float .f64 X) (.float .f64 S)).run Try.prog w = .ok (.float .f64 Y) w := fun t w => run_float_arith w .mul t .f64 _ _ _ hm
  clear hm
  have HA2 := fun w1 hk => HA w1 hk Y
  clear HA
  generalize aboveF ws Y L 0 = K at *
  go_enter Try.func13, Try.ntmps13
  go_wp2_with (first
    | (go_at_call 41; refine (unhide HT).mono ?_; rintro e w1 ⟨rfl, hq⟩; have hq' := hq.symm; subst hq'; clear HT)
    | (go_at_call 28; refine (unhide HR).mono ?_; rintro e w2 ⟨rfl, hd, hk⟩; clear HR; have HA3 := HA2 _ hk; replace hk := hide hk; replace hd := hide hd; clear HA2)
    | (go_at_call 42; refine (unhide HA3).mono ?_; rintro e w3 ⟨rfl, hq⟩; have hq' := hq.symm; subst hq'; clear HA3))
  refine bodyPost_ret (results_tmp2 rfl _ _ _) rfl ?_
  exact ⟨rfl, unhide hd, unhide hk⟩

set_option maxRecDepth 100000 in
set_option maxHeartbeats 2000000 in
theorem pick_no {w : World} {b : Nat} {v : Value} {ws : List Nat} (hs : SeesF w v ws) (hb : ∀ j, j < ws.length → ws.getD j 0 < 18446744073709551616) (hr : ¬ right ws) (hl : ws.length ≤ 1099511627776) :
    Calls Try.prog 13 #[.pointer (some ⟨b, 0, none⟩), v] w fun e w' => e = .returned (.tuple #[.int .i64 0, .int .i64 2]) ∧ w' = w := by
  have HT : Hid (∃ S, Calls Try.prog 41 #[v] w fun e w' => e = .returned (.tuple #[.float .f64 S, .bool false]) ∧ w' = w) := by
    by_cases hf : ∀ j, j < ws.length → fair (ws.getD j 0)
    · have := total_yes hs hf hl
      cases hfi : fine (sumF ws ws.length) with
      | true => exact absurd ⟨hf, hfi⟩ hr
      | false => rw [hfi] at this; exact ⟨_, this⟩
    · exact ⟨0, total_no hs hb hf hl⟩
  obtain ⟨S, HT⟩ := unhide HT
  replace HT := hide HT
  obtain ⟨p, pc, rfl, h1, h2, -⟩ := hs
  clear hr hb
  generalize ws.length = L at *
  go_enter Try.func13, Try.ntmps13
  go_wp2_with (first
    | (go_at_call 41; refine (unhide HT).mono ?_; rintro e w1 ⟨rfl, hq⟩; have hq' := hq.symm; subst hq'; clear HT))
  refine bodyPost_ret (results_tmp2 rfl _ _ _) rfl ?_
  exact ⟨rfl, rfl⟩
end Go.Proofs.Ytoibkgjnnneagaa
