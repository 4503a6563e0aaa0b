/- JumpShares, walked. -/
import Derived.Test.YtiafnfjgmfnnoaaJLit
import Derived.Deep.DeepCutAuto
namespace Go.Proofs.Ytiafnfjgmfnnoaa
open Go.RowKit

/-- 'append([]byte{}, p...)': a twin in new memory -/
theorem wpList_twin {P : Program} {w0 wx : World} {ops : Array Oper} {rest : List Oper} {o : Oper} {a : Act} {Q : Exit → Act → World → Prop} (hk : Kept [] w0 wx) (hgd : Region.wanted o (yielded ops a.tmps) = true) (s x : Operand) (t : TypeId)
    (ho : o.op = .call { callee := .builtin .append, args := #[s, x], argTypes := #[t, t] })
    (i : TypeInfo) (ht : P.underlying t = some (.slice 5)) (hi : P.info? 5 = some i) (hz : i.zero = some (.int .u8 0))
    (hsize : i.size = 1) (hby : i.bytes = 1) (hs : a.eval s = .slice (some ⟨wx.heap.size, 0, none⟩) 0 0) (xv : Value) (ys : List Nat) (hxv : a.eval x = xv) (hx : Sees w0 xv ys) (L : Nat) (hL : ys.length = L) (hl : L ≤ 140737488351232)
    (h : ∀ a' c' w', Sees w' (.slice a' L c') ys → Kept [] w0 w' → Kept [] wx w' → wpList P ops Q rest (a.put o.dst (.slice a' L c')) w') :
    wpList P ops Q (o :: rest) a (wx.alloc (.cells #[] 5)) := by
  refine wpList_step fun K hK => ?_
  rw [if_pos hgd]
  have hka : Kept [] w0 (wx.alloc (.cells #[] 5)) := hk.alloc _
  obtain ⟨v', w', hr, h2, h3, h4⟩ := run_append_sees (P := P) (wx.alloc (.cells #[] 5)) wx.heap.size t o.type 5 i (.int .u8 0) ht hi hz hsize hby rfl _ [] (own_new_nil wx) xv ys (hx.kept hka (Or.inr (by simp))) (by simp; omega) (by simp)
  have hb : ∀ b ∈ ys, b < 256 := by obtain ⟨_, _, _, _, _, h, _⟩ := hx; exact h
  have hse : Sees w' v' ys := Sees.of_own (bs := ys) h2 hb
  have hkk : Kept [] w0 w' := hka.grown h3 (fun k hk' => Or.inr (by simp [Value.ownBlock] at hk'; subst hk'; exact hk.size))
  have hkx : Kept [] wx w' := ((Kept.refl [] wx).alloc _).grown h3 (fun k hk' => Or.inr (by simp [Value.ownBlock] at hk'; subst hk'; exact Nat.le_refl _))
  have hse2 := hse
  obtain ⟨a', c', hv, -⟩ := hse2
  rw [hL] at hv
  subst hv
  unfold Oper.wp execOp
  simp only [ho, resolve, invoke, builtin, Sem.run_bind, Sem.run_pure, Result.andThen_ok, List.map_toArray, List.map_cons, List.map_nil, hs, hxv, hr]
  exact hK _ _ (h a' c' w' hse hkk hkx)

/-- what is asked of a home -/
theorem home_facts (x : Int) (n : Int) (h1 : 1 ≤ n) (h2 : n ≤ 1048575) : 0 ≤ homeOf x n ∧ homeOf x n < n ∧ (homeOf x (n + 1) = homeOf x n ∨ homeOf x (n + 1) = n) := by
  obtain ⟨N, rfl⟩ := Int.eq_ofNat_of_zero_le (show 0 ≤ n by omega)
  unfold homeOf bucketOf
  have e1 : buckets (N : Int) = N := by rw [buckets_of (by omega)]; omega
  have e2 : buckets ((N : Int) + 1) = N + 1 := by rw [buckets_of (by omega)]; omega
  rw [e1, e2]
  obtain ⟨q1, q2⟩ := last_in (h := marks fnv0 (be 8 (un x))) (n := N) (by omega) (by omega)
  exact ⟨q1, q2, one_more (by omega)⟩
theorem home_none (x : Int) (n : Int) (h : n < 1 ∨ n > 1048576) : homeOf x n = -1 := by
  unfold homeOf bucketOf
  rw [(buckets_not h).2, wayOf_none]
  rfl

set_option maxRecDepth 100000 in
set_option maxHeartbeats 4000000 in
theorem shares_walk {w : World} {v : Value} {bs : List Nat} (hs : Sees w v bs) (hl : bs.length ≤ 140737488351232) (n x m : Int) (hm : m ≤ 9223372036854775807) :
    Calls Try.prog 7 #[v, .int .i64 n, .int .i64 x, .int .i64 m] w fun e w' => e = .returned (.bool true) ∧ Kept [] w w' := by
  obtain ⟨i0, hi, hz0, hz1, hz2⟩ := info_parts info5p
  have HI := hide (⟨hi, hz0, hz1, hz2⟩ : _ ∧ _ ∧ _ ∧ _)
  clear hi hz0 hz1 hz2
  have HKN := hide (known_any w)
  have HS := hide hs
  obtain ⟨p, pc, hp, -⟩ := hs
  subst hp
  have HSH : Hid (∀ (wx : World) (v : Value), Sees wx v bs → Calls Try.prog 17 #[v, .int .i64 n] wx fun e w' => e = .returned (.int .i64 (bucketOf (marks fnv0 bs) n)) ∧ Kept [] wx w') := fun wx v h => shard_any h n
  have HHS : Hid (∀ (wx : World) (v : Value), Sees wx v bs → Calls Try.prog 15 #[v] wx fun e w' => e = .returned (.int .u64 (marks fnv0 bs : Nat)) ∧ Kept [] wx w') := fun wx v h => hash_any h
  have HJ : Hid (∀ w, Calls Try.prog 9 #[.int .u64 (marks fnv0 bs : Nat), .int .i64 n] w fun e w' => e = .returned (.int .i64 (bucketOf (marks fnv0 bs) n)) ∧ w' = w) := fun w => jump_any w _ n (mark_lt bs)
  have HH1 := hide (fun w => home_any w x m)
  have HH2 := hide (fun w => home_any w x (m + 1))
  generalize bucketOf (marks fnv0 bs) n = B at *
  generalize marks fnv0 bs = H at *
  generalize hA : bs.length = L at *
  have HA := hide hA
  clear hA
  have HF := hide (home_facts x m)
  have HN := hide (home_none x m)
  generalize homeOf x (m + 1) = h2 at *
  generalize homeOf x m = h1 at *
  go_enter Try.func7, Try.ntmps7
  go_wp2_with fail
  refine (unhide HKN).mono ?_
  rintro e w1 ⟨rfl, hk1⟩
  have HK := hide hk1
  clear hk1 HKN
  go_wp2_with (at_builtin; refine wpList_twin (unhide HK) rfl _ _ 28 rfl i0 Try.underlying28 (unhide HI).1 (unhide HI).2.1 (unhide HI).2.2.1 (unhide HI).2.2.2 rfl _ bs rfl (unhide HS) L (unhide HA) hl ?_)
  intro a1 c1 w2 hs2 hk2 _
  have HS2 := hide hs2
  have HK2 := hide hk2
  clear hs2 hk2
  go_wp2_with (at_builtin; refine wpList_twin (unhide HK2) rfl _ _ 28 rfl i0 Try.underlying28 (unhide HI).1 (unhide HI).2.1 (unhide HI).2.2.1 (unhide HI).2.2.2 rfl _ bs rfl (unhide HS) L (unhide HA) hl ?_)
  intro a2 c2 w3 hs3 hk3 hk3b
  have HS3 := hide hs3
  have HK3 := hide hk3
  have HS2b : Hid (Sees w3 (.slice a1 L c1) bs) := (unhide HS2).kept hk3b (Or.inr (by simp))
  clear hs3 hk3 hk3b HS2 HK2 HK
  go_wp2_with fail
  refine (unhide HSH _ _ (unhide HS3)).mono ?_
  rintro e w4 ⟨rfl, hk4⟩
  have HK4 : Hid (Kept [] w w4) := (unhide HK3).trans hk4 (by simp)
  have HS4 : Hid (Sees w4 (.slice a1 L c1) bs) := (unhide HS2b).kept hk4 (Or.inr (by simp))
  clear hk4 HS2b HK3 HS3
  go_wp2_with fail
  refine (unhide HHS _ _ (unhide HS4)).mono ?_
  rintro e w5 ⟨rfl, hk5⟩
  have HK5 : Hid (Kept [] w w5) := (unhide HK4).trans hk5 (by simp)
  have HS5 : Hid (Sees w5 (.slice a1 L c1) bs) := (unhide HS4).kept hk5 (Or.inr (by simp))
  clear hk5 HS4 HK4
  go_wp2_with fail
  refine (unhide HJ _).mono ?_
  rintro e w6 ⟨rfl, hq⟩
  have hq' := hq.symm
  subst hq'
  go_wp2_with fail
  refine (unhide HSH _ _ (unhide HS5)).mono ?_
  rintro e w6 ⟨rfl, hk6⟩
  have HK6 : Hid (Kept [] w w6) := (unhide HK5).trans hk6 (by simp)
  clear hk6 HS5 HK5
  go_wp2_with (at_builtin; refine wpList_twin (unhide HK6) rfl _ _ 28 rfl i0 Try.underlying28 (unhide HI).1 (unhide HI).2.1 (unhide HI).2.2.1 (unhide HI).2.2.2 rfl _ bs rfl (unhide HS) L (unhide HA) hl ?_)
  intro a3 c3 w7 hs7 hk7 _
  have HS7 := hide hs7
  have HK7 := hide hk7
  clear hs7 hk7 HK6
  go_wp2_with fail
  refine (unhide HSH _ _ (unhide HS7)).mono ?_
  rintro e w8 ⟨rfl, hk8⟩
  have HK8 : Hid (Kept [] w w8) := (unhide HK7).trans hk8 (by simp)
  clear hk8 HS7 HK7
  by_cases hm1 : m < 1
  · have hn := unhide HN (by omega)
    have hme : (m == 1048576) = false := by simp; omega
    rw [hn] at HH1
    go_wp2_with (first
      | (go_at_call 20; refine (unhide HH1 _).mono ?_; rintro e w9 ⟨rfl, hk9⟩; have HK9 : Hid (Kept [] w w9) := (unhide HK8).trans hk9 (by simp); clear hk9))
    go_ret
    exact ⟨rfl, unhide HK9⟩
  · by_cases hm2 : m > 1048575
    · by_cases hm3 : m = 1048576
      · subst hm3
        go_wp2
        go_ret
        exact ⟨rfl, unhide HK8⟩
      · have hn := unhide HN (by omega)
        have hme : (m == 1048576) = false := by simpa using hm3
        rw [hn] at HH1
        go_wp2_with (first
          | (go_at_call 20; refine (unhide HH1 _).mono ?_; rintro e w9 ⟨rfl, hk9⟩; have HK9 : Hid (Kept [] w w9) := (unhide HK8).trans hk9 (by simp); clear hk9))
        go_ret
        exact ⟨rfl, unhide HK9⟩
    · obtain ⟨f1, f2, f3⟩ := unhide HF (by omega) (by omega)
      go_wp2_with fail
      refine (unhide HH1 _).mono ?_
      rintro e w9 ⟨rfl, hk9⟩
      have HK9 : Hid (Kept [] w w9) := (unhide HK8).trans hk9 (by simp)
      clear hk9
      go_wp2_with fail
      refine (unhide HH2 _).mono ?_
      rintro e w10 ⟨rfl, hk10⟩
      have HK10 : Hid (Kept [] w w10) := (unhide HK9).trans hk10 (by simp)
      clear hk10
      rcases f3 with f3 | f3
      · subst f3
        go_wp2
        go_ret
        exact ⟨rfl, unhide HK10⟩
      · subst f3
        have f4 : (h2 == h1) = false := by simp; omega
        go_wp2
        go_ret
        exact ⟨rfl, unhide HK10⟩
end Go.Proofs.Ytiafnfjgmfnnoaa
