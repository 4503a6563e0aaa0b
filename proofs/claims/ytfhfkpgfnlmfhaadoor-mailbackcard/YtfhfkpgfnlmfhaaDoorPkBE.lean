/- A text of the base. -/
import Derived.Test.YtfhfkpgfnlmfhaaDoorPkBD
import Derived.Deep.DeepAppendWide
/- Bytes of up to 200000000000000: append, the sum. -/
namespace Go.Proofs.YtfhfkpgfnlmfhaaDoor
open Go.RowKit

theorem run_append_seesX {P : Program} (w : World) (base : Nat) (t ty e : TypeId) (i : TypeInfo) (z : Value) (ht : P.underlying t = some (.slice e)) (hi : P.info? e = some i) (hz : i.zero = some z)
    (hsize : i.size = 1) (hby : i.bytes = 1) (hzs : z.cells.size = 1)
    (v : Value) (xs : List Nat) (hown : w.ownsRow base e 1 v xs.length (u8s xs)) (x : Value) (ys : List Nat) (hx : Sees w x ys)
    (h63 : xs.length + ys.length ≤ 200000000000000) (hbase : base ≤ w.heap.size) :
    ∃ v' w', (Builtin.append_ #[t, t] ty #[v, x]).run P w = .ok v' w' ∧ w'.ownsRow base e 1 v' (xs ++ ys).length (u8s (xs ++ ys)) ∧ w.grownBy w' v.ownBlock := by
  have hmx : xs.length + ys.length ≤ maxLen := by unfold maxLen; omega
  rcases hx with ⟨rfl, rfl⟩ | ⟨b, off, cap, rfl, _, _, _, hc⟩
  · refine ⟨v, w, ?_, by simpa using hown, ⟨rfl, rfl, rfl, Nat.le_refl _, fun _ _ _ => rfl⟩⟩
    rcases hown.2 with ⟨rfl, h0⟩ | ⟨g, cap, cur, rfl, hbg, hg, hnc, hcm, hcs, htake⟩
    · simp [Builtin.append_, run_underlying ht, sizeOf, typeInfo, hi, Builtin.lenOf, Builtin.firstCells]
    · have : xs.length ≤ cap := hnc
      simp [Builtin.append_, run_underlying ht, sizeOf, typeInfo, hi, Builtin.lenOf, Builtin.firstCells, this, storeCells]
  · obtain ⟨v', w', hr, h2, h3, _⟩ := run_append_own_wide (P := P) w base t ty e i z 1 1 ht hi hz hsize hby hzs (by decide) v xs.length (u8s xs) hown ⟨b, off, none⟩ ys.length cap (u8s ys) (by simp [u8s]) (by
      intro j u hu
      have hj : j < ys.length := by
        have := (List.getElem?_eq_some_iff.1 hu).1; simpa [u8s] using this
      have hadd : (⟨b, off, none⟩ : Addr).add j = ⟨b, off + j, none⟩ := by unfold Addr.add; split <;> simp_all
      rw [hadd, hc j hj]
      simp [u8s, List.getElem?_eq_getElem hj] at hu
      rw [← hu]; simp [List.getElem?_eq_getElem hj]) (u8s_one ys) hmx (by omega) hbase
    refine ⟨v', w', hr, ?_, h3⟩
    rw [u8s_append, List.length_append]; exact h2

theorem wpList_append_seesX {P : Program} (w : World) {ops : Array Oper} {rest : List Oper} {o : Oper} {a : Act} {Q : Exit → Act → World → Prop} (hgd : o.guard = none) (s x : Operand) (t : TypeId)
    (ho : o.op = .call { callee := .builtin .append, args := #[s, x], argTypes := #[t, t] })
    (base : Nat) (e : TypeId) (i : TypeInfo) (z : Value) (ht : P.underlying t = some (.slice e)) (hi : P.info? e = some i) (hz : i.zero = some z)
    (hsize : i.size = 1) (hby : i.bytes = 1) (hzs : z.cells.size = 1)
    (v : Value) (xs : List Nat) (hs : a.eval s = v) (hown : w.ownsRow base e 1 v xs.length (u8s xs)) (xv : Value) (ys : List Nat) (hxv : a.eval x = xv) (hx : Sees w xv ys)
    (h63 : xs.length + ys.length ≤ 200000000000000) (hbase : base ≤ w.heap.size)
    (h : ∀ v' w', w'.ownsRow base e 1 v' (xs ++ ys).length (u8s (xs ++ ys)) → w.grownBy w' v.ownBlock → wpList P ops Q rest (a.put o.dst v') w') :
    wpList P ops Q (o :: rest) a w := by
  refine wpList_plain hgd fun K hK => ?_
  obtain ⟨v', w', hr, h2, h3⟩ := run_append_seesX (P := P) w base t o.type e i z ht hi hz hsize hby hzs v xs hown xv ys hx h63 hbase
  unfold Oper.wp execOp
  simp only [ho, resolve, invoke, builtin, Sem.run_bind, Sem.run_pure, Result.andThen_ok, List.map_toArray, List.map_cons, List.map_nil, hs, hxv, hr]
  exact hK _ _ (h v' w' h2 h3)

theorem wpList_append_wideX {P : Program} (w : World) {ops : Array Oper} {rest : List Oper} {o : Oper} {a : Act} {Q : Exit → Act → World → Prop} (hgd : o.guard = none) (s x : Operand) (t : TypeId)
    (ho : o.op = .call { callee := .builtin .append, args := #[s, x], argTypes := #[t, t] })
    (base : Nat) (e : TypeId) (i : TypeInfo) (z : Value) (ht : P.underlying t = some (.slice e)) (hi : P.info? e = some i) (hz : i.zero = some z)
    (hsize : i.size = 1) (hby : i.bytes = 1) (hzs : z.cells.size = 1)
    (v : Value) (xs : List Nat) (hs : a.eval s = v) (hown : w.ownsRow base e 1 v xs.length (u8s xs)) (xv : Value) (ys : List Nat) (hxv : a.eval x = xv) (hx : Wide w xv ys)
    (h63 : xs.length + ys.length ≤ 200000000000000) (hbase : base ≤ w.heap.size)
    (h : ∀ v' w', w'.ownsRow base e 1 v' (xs ++ ys).length (u8s (xs ++ ys)) → w.grownBy w' v.ownBlock → wpList P ops Q rest (a.put o.dst v') w') :
    wpList P ops Q (o :: rest) a w := by
  rcases hx with hx | ⟨c, hc, rfl⟩
  · exact wpList_append_seesX w hgd s x t ho base e i z ht hi hz hsize hby hzs v xs hs hown xv ys hxv hx h63 hbase h
  · subst hc
    refine wpList_plain hgd fun K hK => ?_
    have hl0 : (loadCells c 0).run P w = .ok #[] w := rfl
    have hr : (Builtin.append_ #[t, t] o.type #[v, .slice (some c) 0 0]).run P w = .ok v w := by
      rcases hown.2 with ⟨rfl, h0⟩ | ⟨g, cap, cur, rfl, hbg, hg, hnc, hcm, hcs, htake⟩
      · simp [Builtin.append_, run_underlying ht, sizeOf, typeInfo, hi, Builtin.lenOf, Builtin.firstCells, hl0]
      · have : xs.length ≤ cap := hnc
        simp [Builtin.append_, run_underlying ht, sizeOf, typeInfo, hi, Builtin.lenOf, Builtin.firstCells, this, storeCells, hl0]
    unfold Oper.wp execOp
    simp only [ho, resolve, invoke, builtin, Sem.run_bind, Sem.run_pure, Result.andThen_ok, List.map_toArray, List.map_cons, List.map_nil, hs, hxv, hr]
    exact hK _ _ (h v w (by simpa using hown) ⟨rfl, rfl, rfl, Nat.le_refl _, fun _ _ _ => rfl⟩)
set_option maxRecDepth 100000 in
set_option maxHeartbeats 400000 in
theorem grow_anyX {w : World} {v : Value} {bs : List Nat} (ht : Tab w) (hs : Wide w v bs) (hb : ∀ x ∈ bs, x < 256) (hml : bs.length ≤ 200000000000000) (s : Nat) (hsl : s < 4294967296) :
    Calls Tryd.prog 54 #[.int .u32 s, v] w fun e w' => e = .returned (.int .u32 (grown s bs : Nat)) ∧ w' = w := by
  obtain ⟨a, cap, rfl⟩ := wide_len hs
  have hcs := cpl_bits hsl
  have hcl := cpl_lt hsl
  have hsg : IntKind.u32.signed = false := rfl
  have HG : Hid (grown s bs = cpl (takes (cpl s) bs)) := rfl
  generalize cpl s = c at hcs hcl HG
  obtain ⟨L, hL⟩ : ∃ n, bs.length = n := ⟨_, rfl⟩
  rw [hL] at hml hs
  have HT := hide ht
  have H3 := hide hb
  have H4 := hide hs
  have HL := hide hL
  rw [hL]
  clear hb hs ht hL
  go_enter Tryd.func54, Tryd.ntmps54
  go_wp2_with fail
  go_loop [5, 12] (fun r i => ∃ k : Nat, k ≤ L ∧ i = .int .i64 k ∧ r = .int .u32 (takes c (bs.take k) : Nat)) (fun _ i => L - (intOf i).toNat)
  case atStart => exact ⟨0, by omega, rfl, rfl⟩
  case round =>
    obtain ⟨k, hk, rfl, rfl⟩ := hrel
    have hlt := takes_lt hcl (bs.take k) (fun b hb => unhide H3 b (List.mem_of_mem_take hb))
    by_cases hkl : k < L
    · obtain ⟨b, off, rfl, hc⟩ := (unhide H4).at k (by rw [unhide HL]; exact hkl)
      have HE : Hid (takes c (bs.take (k + 1)) = take1 (takes c (bs.take k)) (bs.getD k 0)) := takes_succ c bs k (by rw [unhide HL]; exact hkl)
      have hx : bs.getD k 0 < 256 := getD_lt8 (unhide H3) (by rw [unhide HL]; exact hkl)
      generalize bs.getD k 0 = x at hc HE hx
      generalize takes c (bs.take k) = r at hlt HE
      have e1 := u32_xor_nat r x hlt (by omega)
      have l1 : r ^^^ x < 4294967296 := Nat.xor_lt_two_pow (n := 32) hlt (by omega)
      have HE2 : Hid (takes c (bs.take (k + 1)) = stps 4 (stps 4 (r ^^^ x))) := (unhide HE).trans (stps_add 4 4 _)
      clear HE
      generalize r ^^^ x = y at e1 l1 HE2
      have hT := (unhide HT).2
      have a1 := and15 y l1
      have c1 := hT (y % 16) (Nat.mod_lt _ (by omega))
      have e2 := u32_xor_nat (y / 16) (four (y % 16)) (by omega) (stps_lt 4 (by omega))
      have q1 : y / 16 ^^^ four (y % 16) = stps 4 y := (stps4_eq y).symm
      have l2 := stps_lt 4 l1
      rw [q1] at e2
      generalize stps 4 y = z at e2 l2 HE2 q1
      generalize hf1 : four (y % 16) = f1 at c1 e2
      have a2 := and15 z l2
      have c2 := hT (z % 16) (Nat.mod_lt _ (by omega))
      have e3 := u32_xor_nat (z / 16) (four (z % 16)) (by omega) (stps_lt 4 (by omega))
      have q2 : z / 16 ^^^ four (z % 16) = stps 4 z := (stps4_eq z).symm
      rw [q2] at e3
      generalize stps 4 z = t at e3 HE2 q2
      generalize hf2 : four (z % 16) = f2 at c2 e3
      clear q1 q2 hf1 hf2 hT
      have m1 : y % 16 < 16 := Nat.mod_lt _ (by omega)
      have m2 : z % 16 < 16 := Nat.mod_lt _ (by omega)
      have e2' : bits .xor .u32 ((y : Int) / 16) (f1 : Int) = (z : Int) := by simpa using e2
      have e3' : bits .xor .u32 ((z : Int) / 16) (f2 : Int) = (t : Int) := by simpa using e3
      clear e2 e3
      go_wp2
      exact ⟨⟨k + 1, by omega, by simp, by rw [unhide HE2]⟩, by simp [intOf]; omega⟩
    · obtain rfl : k = L := by omega
      have hfull : bs.take k = bs := by rw [← unhide HL, List.take_length]
      rw [hfull] at hlt ⊢
      have e4 := cpl_bits hlt
      rw [← unhide HG] at e4
      generalize hgg : grown s bs = g at e4
      have HGG := hide hgg
      clear hgg
      generalize takes c bs = q at hlt e4
      go_wp2
      go_ret
      exact ⟨by rw [unhide HGG]; rfl, rfl⟩
set_option maxRecDepth 100000 in
set_option maxHeartbeats 400000 in
theorem crc_anyX {w : World} {v : Value} {bs : List Nat} (ht : Tab w) (hs : Wide w v bs) (hb : ∀ x ∈ bs, x < 256) (hml : bs.length ≤ 200000000000000) :
    Calls Tryd.prog 31 #[v] w fun e w' => e = .returned (.int .u32 (crc bs : Nat)) ∧ w' = w := by
  have HG : Hid (Calls Tryd.prog 54 #[.int .u32 0, v] w fun e w' => e = .returned (.int .u32 (crc bs : Nat)) ∧ w' = w) := grow_anyX ht hs hb hml 0 (by omega)
  clear hs ht hb
  generalize crc bs = g at HG
  go_enter Tryd.func31, Tryd.ntmps31
  go_wp2_with (first | (go_at_call 54; refine (unhide HG).mono ?_; rintro e w1 ⟨rfl, rfl⟩))
  go_ret
  exact ⟨rfl, rfl⟩
set_option maxRecDepth 100000 in
set_option maxHeartbeats 400000 in
theorem summed_anyX {w : World} {x : Value} {bs : List Nat} (ht : Tab w) (hx : Wide w x bs) (hb : ∀ y ∈ bs, y < 256) (hl : bs.length + 4 ≤ 200000000000000) : Calls Tryd.prog 18 #[x] w (SumP w bs) := by
  obtain ⟨i0, hi, hz0, hz1, hz2⟩ := info_parts Tryd.info5
  have HI := hide (And.intro hi (And.intro hz0 (And.intro hz1 hz2)))
  have HC := hide (crc_anyX ht hx hb (by omega))
  have HX := hide hx
  have hcl := crc_lt hb
  obtain ⟨c, hc⟩ : ∃ c, crc bs = c := ⟨_, rfl⟩
  rw [hc] at HC hcl
  obtain ⟨s, hs⟩ : ∃ s, s = bs ++ le c 4 := ⟨_, rfl⟩
  have HSM : Hid (summed bs = s) := by unfold Hid summed; rw [hc, hs]
  obtain ⟨xa, xc, rfl⟩ := wide_len hx
  have HCL := hide hcl
  have HSS := hide hs
  have HL := hide hl
  clear ht hx hb hc hs hl
  go_enter Tryd.func18, Tryd.ntmps18
  go_upto_region 3 with (first
    | (go_at_call 31; refine (unhide HC).mono ?_; rintro e w1 ⟨rfl, hz⟩; have hz2' := hz.symm; subst hz2'; clear hz)
    | (at_builtin; refine wpList_append_wideX _ rfl _ _ 23 rfl w.heap.size 5 i0 (.int .u8 0) Tryd.underlying23 hi hz0 hz1 hz2 rfl _ [] rfl (World.ownsRow_made w #[] 0 (Nat.le_refl _) (Nat.zero_le _) rfl) _ bs rfl ((unhide HX).kept ((Kept.refl [] w).alloc _)) ?c1 ?c2 ?_))
  case c1 => have := unhide HL; simp; omega
  case c2 => simp
  intro v1 w3 hown hg
  have hk1 : Kept [] w w3 := ((Kept.refl [] w).alloc _).grown hg (fun k hk => by simp [Value.ownBlock] at hk; right; omega)
  obtain ⟨a1, c1, hv⟩ := own_len hown
  subst hv
  have hs1 := hk1.size
  have HO1 := hide hown
  have HK := hide hk1
  have HS1 := hide hs1
  clear hown hg hk1 hs1
  go_wp2_with (at_builtin; refine wpList_append_seesX _ rfl _ _ 23 rfl w.heap.size 5 i0 (.int .u8 0) Tryd.underlying23 hi hz0 hz1 hz2 rfl _ bs rfl ((unhide HO1).alloc _) _ (le c 4) rfl (news_four w3 (unhide HCL)) ?c3 ?c4 ?_)
  case c3 => rw [le_len]; exact unhide HL
  case c4 => rw [World.size_alloc]; exact Nat.le_succ_of_le (unhide HS1)
  intro v2 w4 hown4 hgrow4
  obtain ⟨a2, c2, hv'⟩ := own_len hown4
  subst hv'
  have HK4 := hide (((unhide HK).alloc _).grown hgrow4 (fun k hk => Or.inr ((unhide HO1).lt k hk).1))
  have HO4 := hide hown4
  clear hown4 hgrow4
  go_wp2_with fail
  go_ret
  refine ⟨unhide HK4, a2, c2, ?_, ?_⟩
  · rw [unhide HSM, unhide HSS, List.length_append]; rfl
  · have h := unhide HO4
    rw [← List.length_append] at h
    rw [unhide HSM, unhide HSS]; exact h
end Go.Proofs.YtfhfkpgfnlmfhaaDoor
