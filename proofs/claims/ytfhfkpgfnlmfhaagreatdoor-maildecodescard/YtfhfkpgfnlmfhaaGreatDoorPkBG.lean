/- A text of the base. -/
import Derived.Test.YtfhfkpgfnlmfhaaGreatDoorPkBF
import Derived.BigRegion
import Derived.Deep.DeepCutAuto
import Derived.Deep.RegionLaw
import Derived.Deep.AppendLies
/- The document's reader: the next bytes. -/
namespace Go.Proofs.YtfhfkpgfnlmfhaaGreatDoor
open Go.RowKit

/-- 'append' as one step of a region that draws, by its run -/
theorem step_append_runE {P : Program} {ops : Array Oper} {o : Oper} {a : Act} {w : World} {K : Act → World → Prop} {Q : Exit → Act → World → Prop} {E : Prop}
    (hg : o.guard = none) (d x : Operand) (dT sT : TypeId) (hop : o.op = Op.call { callee := Callee.builtin Builtin.append, args := #[d, x], argTypes := #[dT, sT] })
    (v u : Value) (hd : a.eval d = v) (hx : a.eval x = u) {v' : Value} {w' : World} (hr : (Builtin.append_ #[dT, sT] o.type #[v, u]).run P w = .ok v' w') (hK : K (a.put o.dst v') w') :
    if Region.wanted o (yielded ops a.tmps) = true then Oper.wp P o a w K Q else E := by
  have hw : Region.wanted o (yielded ops a.tmps) = true := by simp [Region.wanted, hg]
  rw [if_pos hw]
  unfold Oper.wp
  simp [execOp, hop, resolve, invoke, builtin, hd, hx, hr, Result.andThen]
  exact hK

/-- one more byte behind bytes of the call's own -/
theorem app_byte {w : World} {base : Nat} {a : Option Addr} {k cap : Nat} {xs : List Nat} (h : w.ownsRow base 5 1 (.slice a k cap) k (u8s xs)) (hk : xs.length = k) (x : Nat) (hl : k + 1 ≤ 140737488355328) (hb : base ≤ w.heap.size) (ty : TypeId) :
    ∃ a' cap' w', (Builtin.append_ #[22, 22] ty #[.slice a k cap, .slice (some ⟨w.heap.size, 0, none⟩) 1 1]).run Tryz.prog (w.alloc (.cells #[.int .u8 (x : Int)] 5)).drew = .ok (.slice a' (k + 1) cap') w' ∧ w'.ownsRow base 5 1 (.slice a' (k + 1) cap') (k + 1) (u8s (xs ++ [x])) ∧ ∀ w0, Kept [] w0 w → w0.heap.size ≤ base → Kept [] w0 w' := by
  obtain ⟨i0, hi, hz0, hz1, hz2⟩ := info_parts Tryz.info5
  subst hk
  have k1 : Kept [] w (w.alloc (.cells #[.int .u8 (x : Int)] 5)).drew := ((Kept.refl [] w).alloc _).drew
  have s1 : Sees (w.alloc (.cells #[.int .u8 (x : Int)] 5)).drew (.slice (some ⟨w.heap.size, 0, none⟩) 1 1) [x] := (news_one w x).kept (F := []) (Kept.refl [] _).drew (by simp)
  obtain ⟨v', w', h1, h2, h3, h4⟩ := run_append_sees (P := Tryz.prog) (w.alloc (.cells #[.int .u8 (x : Int)] 5)).drew base 22 ty 5 i0 (.int .u8 0) Tryz.underlying22 hi hz0 hz1 hz2 rfl _ xs (own_kept h k1 (by simp)) _ [x] s1 (by simp; omega) (by simp; omega)
  obtain ⟨a', cap', rfl⟩ := own_len h2
  have hl1 : (xs ++ [x]).length = xs.length + 1 := by simp
  rw [hl1] at h1 h2
  refine ⟨a', cap', w', h1, h2, fun w0 hk0 hb0 => ?_⟩
  exact (hk0.trans k1 (by simp)).grown h3 (fun q hq => Or.inr (by have := (h.lt q hq).1; omega))

theorem Sees.spot {w : World} {v : Value} {bs : List Nat} (h : Sees w v bs) {j : Nat} (hj : j < bs.length) : ∃ b off cap, v = .slice (some ⟨b, off, none⟩) bs.length cap ∧ bs.length ≤ cap ∧ cap ≤ maxLen ∧ w.cell? ⟨b, off + j, none⟩ = some (.int .u8 (bs.getD j 0 : Nat)) := by
  rcases h with ⟨_, h2⟩ | ⟨b, off, cap, hv, h1, h2, _, h4⟩
  · rw [h2] at hj; simp at hj
  · exact ⟨b, off, cap, hv, h1, h2, h4 j hj⟩
theorem take_next (ps : List Nat) (a k : Nat) (h : a + k < ps.length) : (ps.drop a).take k ++ [ps.getD (a + k) 0] = (ps.drop a).take (k + 1) := by
  rw [List.take_add_one]
  simp [h]

set_option maxRecDepth 100000 in
set_option maxHeartbeats 400000 in
theorem qbytes_short {w : World} {c : Nat} {pv ev : Value} {ps : List Nat} {at' : Nat} {es : List Nat} (h : Qm w c pv ev ps at' es 0) (m x : Nat) (hm : es.length = m + 1) (hx : es[m]? = some x) (n : Int) (hn : (x : Int) - (at' : Int) < n) :
    Calls Tryz.prog 51 #[.pointer (some ⟨c, 0, none⟩), .int .i64 n] w fun e w' => e = .returned (.slice none 0 0) ∧ Qm w' c pv ev ps at' es 10 ∧ Kept [c] w w' := by
  have HH := hide h
  have HL := hide (qleft_any h m x hm hx)
  have t1 : ((x : Int) - (at' : Int) < n) = True := by simp; omega
  clear h hm hx hn
  go_enter Tryz.func51, Tryz.ntmps51
  go_wp2_with (first | (go_at_call 76; refine (unhide HL).mono ?_; rintro e w1 ⟨rfl, hq⟩; have HQ := hide ((unhide HH).quiet hq); have HK := hide hq.kept; have f3 := (unhide HQ).blk.frozen 3; have c3 := (blk4 (unhide HQ).blk).2.2.2; clear hq))
  go_ret
  obtain ⟨g1, g2⟩ := (unhide HQ).fail 10
  exact ⟨rfl, g1, ((unhide HK).mono (by simp)).trans g2 (fun y hy => Or.inl hy)⟩

set_option maxRecDepth 100000 in
set_option maxHeartbeats 1000000 in
theorem qbytes_ok {w : World} {c : Nat} {pv ev : Value} {ps : List Nat} {at' : Nat} {es : List Nat} (h : Qm w c pv ev ps at' es 0) (m x : Nat) (hm : es.length = m + 1) (hx : es[m]? = some x) (n : Nat) (hn : at' + n ≤ x) :
    Calls Tryz.prog 51 #[.pointer (some ⟨c, 0, none⟩), .int .i64 (n : Int)] w fun e w' => ∃ a cap, e = .returned (.slice a n cap) ∧ w'.ownsRow w.heap.size 5 1 (.slice a n cap) n (u8s ((ps.drop at').take n)) ∧ Qm w' c pv ev ps (at' + n) es 0 ∧ Kept [c] w w' := by
  have HH := hide h
  have HL := hide (qleft_any h m x hm hx)
  have t1 : ((x : Int) - (at' : Int) < (n : Int)) = False := by simp; omega
  have hxl := h.bes x (List.mem_of_getElem? hx)
  have hbl := h.bl
  clear h hm hx
  go_enter Tryz.func51, Tryz.ntmps51
  go_wp2_with (first | (go_at_call 76; refine (unhide HL).mono ?_; rintro e w1 ⟨rfl, hq⟩; have HK := hide hq.kept; clear hq))
  go_loopw [5, 6] (fun v i wr => ∃ (k : Nat) (a : Option Addr) (cap : Nat), k ≤ n ∧ i = .int .i64 (k : Int) ∧ v = .slice a k cap ∧ Hid (wr.ownsRow w.heap.size 5 1 (.slice a k cap) k (u8s ((ps.drop at').take k)) ∧ Kept [] w wr)) (fun _ i _ => n - (intOf i).toNat)
  case atStart => exact ⟨0, none, 0, by omega, rfl, rfl, hide ⟨World.ownsRow_nil _ _ _ _, unhide HK⟩⟩
  case round =>
    obtain ⟨k, a, cap, hk, rfl, rfl, HR⟩ := hrel
    have HQ := hide ((unhide HH).kept (unhide HR).2 (by simp))
    obtain ⟨c0, c1, c2, c3⟩ := blk4 (unhide HQ).blk
    by_cases hlt : k < n
    · have hi : at' + k < ps.length := by omega
      obtain ⟨pb, off, pc, hpv, hpc, hpm, cx⟩ := (unhide HQ).see.spot hi
      subst hpv
      have HT := hide (take_next ps at' k hi)
      have hlen : ((ps.drop at').take k).length = k := by simp; omega
      obtain ⟨a2, d2, w2, hap, ho2, hk2⟩ := app_byte (unhide HR).1 hlen (ps.getD (at' + k) 0) (by omega) (unhide HR).2.size 22
      generalize ps.getD (at' + k) 0 = y at *
      have HAP := hide hap
      have HAP2 : Hid ((Builtin.append_ #[22, 22] 22 #[.slice a k cap, .slice (some ⟨wr.heap.size, 0, none⟩) 1 1]).run Tryz.prog (wr.drew.alloc (.cells #[.int .u8 (y : Int)] 5)) = .ok (.slice a2 (k + 1) d2) w2) := hap
      have HO2 := hide ho2
      have HK2 := hide (hk2 w (unhide HR).2 (Nat.le_refl _))
      have hw1 : IntKind.i64.wrap ((at' : Int) + (k : Int)) = ((at' + k : Nat) : Int) := by rw [IntKind.wrap_i64]; omega
      have hpc' : ps.length ≤ 9223372036854775807 := by omega
      have hk63 : k + 1 ≤ 140737488355328 := by omega
      have hw7 : IntKind.i64.wrap ((k : Int) + 1) = (k : Int) + 1 := by rw [IntKind.wrap_i64]; omega
      obtain ⟨q, hq⟩ : ∃ q, at' + k = q := ⟨_, rfl⟩
      rw [hq] at cx hw1 hi
      obtain ⟨L, hL⟩ : ∃ L, ps.length = L := ⟨_, rfl⟩
      rw [hL] at c0 hi hpc'
      have HX := hide hL
      have HX2 := hide hq
      clear hap ho2 hk2 hlen hpc hpm HL t1 hxl hbl hq hL hn
      go_upto_region 8 with fail
      go_region_law (first | (refine step_append_runE (by rfl) _ _ 22 22 (by rfl) _ _ (by rfl) (by rfl) (unhide HAP) ?_) | (refine step_append_runE (by rfl) _ _ 22 22 (by rfl) _ _ (by rfl) (by rfl) (unhide HAP2) ?_))
      all_goals
        clear c0 c1 c2 c3 cx HAP HAP2
        go_wp2
        refine ⟨⟨k + 1, a2, d2, by omega, by go_num, rfl, hide ⟨?_, unhide HK2⟩⟩, by simp [intOf]; omega⟩
        rw [← unhide HT]
        exact unhide HO2
    · obtain rfl : k = n := by omega
      have f1 := (unhide HQ).blk.frozen 1
      have hw1 : IntKind.i64.wrap ((at' : Int) + (k : Int)) = ((at' + k : Nat) : Int) := by rw [IntKind.wrap_i64]; omega
      clear HL t1
      go_wp2
      go_ret
      obtain ⟨g1, g2⟩ := (unhide HQ).place (at' + k) (by omega)
      refine ⟨a, cap, rfl, ?_, ?_, ?_⟩
      · exact own_kept (unhide HR).1 g2 (fun q hq => by simp; intro e; subst e; have := ((unhide HR).1.lt q hq).1; have := (unhide HH).blk.lt; omega)
      · exact g1
      · exact ((unhide HR).2.mono (by simp)).trans g2 (fun y hy => Or.inl hy)
end Go.Proofs.YtfhfkpgfnlmfhaaGreatDoor
