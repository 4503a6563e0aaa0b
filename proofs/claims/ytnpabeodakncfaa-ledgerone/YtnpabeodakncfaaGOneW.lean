/- LedgerOne. -/
import Derived.Test.YtnpabeodakncfaaGTwin
import Derived.Test.YtnpabeodakncfaaGActA
import Derived.Test.YtnpabeodakncfaaGArg
namespace Go.Proofs.Ytnpabeodakncfaa
open Go.RowKit

theorem wpList_app_run {w : World} {ops : Array Oper} {rest : List Oper} {o : Oper} {a : Act} {Q : Exit → Act → World → Prop} (hgd : o.guard = none) (s x : Operand) (t : TypeId)
    (ho : o.op = .call { callee := .builtin .append, args := #[s, x], argTypes := #[t, t] }) {vs vx v' : Value} {w' : World} (hs : a.eval s = vs) (hx : a.eval x = vx) (hr : (Builtin.append_ #[t, t] o.type #[vs, vx]).run Try.prog w = .ok v' w')
    (h : wpList Try.prog ops Q rest (a.put o.dst v') w') : wpList Try.prog ops Q (o :: rest) a w := by
  refine wpList_plain hgd fun K hK => ?_
  unfold Oper.wp execOp
  simp only [ho, resolve, invoke, builtin, Sem.run_bind, Sem.run_pure, Result.andThen_ok, List.map_toArray, List.map_cons, List.map_nil, hs, hx, hr]
  exact hK _ _ h
/-- all that the world stands on is younger than w -/
def Ft (w : World) (b : Nat) (rv sv : Value) : Prop := w.heap.size ≤ b ∧ (∀ z, rv.ownBlock = some z → w.heap.size ≤ z) ∧ (∀ z, sv.ownBlock = some z → w.heap.size ≤ z)
set_option maxRecDepth 100000 in
set_option maxHeartbeats 4000000 in
theorem ledgerOne_any {w : World} {v : Value} {os : List Ac} (hv : RowOf 4 ac w v os) (hl : os.length ≤ 4398046511000) (servers home : Int) : Calls Try.prog 7 #[.int .i64 servers, .int .i64 home, v] w fun e w' => e = .returned (.bool true) ∧ Kept [] w w' := by
  have HV := hide hv
  obtain ⟨pa, pcap, rfl, -, -⟩ := hv
  have HN := fun W => hide (known_any W)
  have HB := fun W => hide (began_any W servers home)
  have h8 := plN_lt servers (show 0 < 8 by omega)
  have hhm := plN_lt home (show 0 < 1 + plN servers 8 by omega)
  have HI := hide (invL_begin (n := 1 + plN servers 8) (h := plN home (1 + plN servers 8)) (by omega) hhm)
  have HON := fun (W : World) (b : Nat) (rv sv : Value) (row : List Ld) (sent : List Ml) (q : Wd W b rv sv row sent) (z : InvL row sent) => hide (show Calls Try.prog 21 #[.pointer (some ⟨b, 0, none⟩)] W fun e w' => e = .returned (.bool true) ∧ Kept [] W w' from by obtain ⟨S, T, h, H⟩ := z; exact one_any q H)
  generalize row0 (plN home (1 + plN servers 8)) (1 + plN servers 8) = rowB at *
  obtain ⟨N, hN⟩ : ∃ N, os.length = N := ⟨_, rfl⟩
  rw [hN] at hl HV ⊢
  have HL := hide hN
  clear hN h8 hhm
  go_enter Try.func7, Try.ntmps7
  go_wp2_with (first
    | (go_at_call 18; refine (unhide (HN _)).mono ?_; rintro e w1 ⟨rfl, hk1⟩; have HK1 := hide hk1; clear hk1)
    | (go_at_call 20; refine (unhide (HB _)).mono ?_; rintro e w2 ⟨b, rv0, sv0, rfl, hwd2, hk2, hb2, hr2, hs2⟩; have HWD2 := hide hwd2; have HK2 := hide ((unhide HK1).step hk2); have HF2 := hide (And.intro (Nat.le_trans (unhide HK1).size hb2) (And.intro (fun z hz => Nat.le_trans (unhide HK1).size (hr2 z hz)) hs2)); clear hwd2 hk2 hb2 hr2 hs2)
    | (go_at_call 21; refine (unhide (HON _ _ _ _ _ _ (unhide HWD2) (unhide HI))).mono ?_; rintro e w3 ⟨rfl, hk3⟩; have HWD3 := hide ((unhide HWD2).kept hk3); have HK3 := hide ((unhide HK2).step hk3); clear hk3))
  clear HN HB
  go_loopw [8] (fun i wr => ∃ (k : Nat) (rv sv : Value) (row : List Ld) (sent : List Ml), k ≤ N ∧ i = .int .i64 (k : Int) ∧ Wd wr b rv sv row sent ∧ InvL row sent ∧ Kept [] w wr ∧ Ft w b rv sv ∧ sent.length ≤ k) (fun i _ => N - (intOf i).toNat)
  case atStart => exact ⟨0, rv0, sv0, rowB, [], by omega, rfl, unhide HWD3, unhide HI, unhide HK3, ⟨(unhide HF2).1, (unhide HF2).2.1, fun z hz => by rw [(unhide HF2).2.2] at hz; cases hz⟩, by simp⟩
  case round =>
    obtain ⟨k, rv, sv, row, sent, hk, rfl, hwd, hinv, hkp, hft, hsl⟩ := hrel
    by_cases hlt : k < N
    · have hkn : k < os.length := by rw [unhide HL]; exact hlt
      obtain ⟨o, ho⟩ : ∃ o, os[k]? = some o := ⟨os[k], List.getElem?_eq_getElem hkn⟩
      have hn18 : 0 < row.length ∧ row.length ≤ 8 := by obtain ⟨S, T, h, H⟩ := hinv; have := H.n1; omega
      obtain ⟨a', c', w4, hap, hown, hk4, hnew⟩ := app_row hwd.ro hn18.1 hn18.2 40
      have hwd4 := hwd.kept hk4
      have hkw4 := hkp.step hk4
      obtain ⟨pa', pc', hv', -, hall⟩ := (unhide HV).kept hkw4
      cases hv'
      obtain ⟨ob, off, hpa, hbl, hrg⟩ := hall k o ho
      subst hpa
      have HAC := hide (act_any hwd4 hinv (by omega) o)
      have hgz : ∀ z, (Value.slice a' row.length c').ownBlock = some z → z ∉ b :: (rv.ownBlock.toList ++ sv.ownBlock.toList) := by
        intro z hz hm
        have h1 := hnew z hz
        rcases List.mem_cons.1 hm with q | q
        · have := hwd.blk.lt; omega
        · rcases List.mem_append.1 q with q | q
          · have := own_lt hwd.ro (k := z) (by simpa using q); omega
          · have := own_lt hwd.so (k := z) (by simpa using q); omega
      have b0 : wr.cell? ⟨b, 0, none⟩ = some rv := hwd.blk.cell 0
      have hbb := hwd.blk.lt
      obtain ⟨n, hn⟩ : ∃ n, row.length = n := ⟨_, rfl⟩
      rw [hn] at hap hown hgz hn18
      obtain ⟨ok, ow, op, oN⟩ := o
      have c0 : w4.cell? ⟨ob, off + k * 4, none⟩ = some (.int .i64 ok) := hrg 0 _ rfl
      have c1 : w4.cell? ⟨ob, off + k * 4 + 1, none⟩ = some (.int .i64 ow) := hrg 1 _ rfl
      have c2 : w4.cell? ⟨ob, off + k * 4 + 2, none⟩ = some (.int .i64 op) := hrg 2 _ rfl
      have c3 : w4.cell? ⟨ob, off + k * 4 + 3, none⟩ = some (.int .i64 oN) := hrg 3 _ rfl
      have HGZ := hide hgz
      have HOW := hide hown
      have HKW4 := hide hkw4
      have HFT := hide hft
      have HRN := hide hn
      have HWD4 := hide hwd4
      have HSL := hide hsl
      dsimp only at HAC
      clear hgz hown hkw4 hft hn hwd4 hall hrg hnew hinv hwd hkp hk4 hkn ho HI HWD2 HK2 HF2 HWD3 HK3 hsl
      go_wp2_with (first
        | (guard_target =~ wpList _ _ _ _ _ _; refine wpList_app_run rfl _ _ _ rfl rfl rfl hap ?_)
        | (go_at_call 22; refine (unhide HAC).mono ?_; rintro e w5 ⟨rfl, row', sent', ⟨sv', hwd5, hk5, hv5⟩, hinv5, hmono, hs5⟩; have HWD5 := hide hwd5; have HK5 := hide hk5; have HV5 := hide hv5; have HI5 := hide hinv5; have HM5 := hide hmono; have HS5 := hide hs5; clear hwd5 hk5 hv5 hinv5 hmono hs5)
        | (go_at_call 21; refine (unhide (HON _ _ _ _ _ _ (unhide HWD5) (unhide HI5))).mono ?_; rintro e w6 ⟨rfl, hk6⟩; have HK6 := hide hk6; clear hk6))
      have hwas5 := own_kept (unhide HOW) (unhide HK5) (fun z hz => unhide HGZ z hz)
      have hwas6 := own_kept hwas5 (unhide HK6) (by simp)
      have HWS := hide hwas6
      have HWD6 := hide ((unhide HWD5).kept (unhide HK6))
      have hlen : row'.length = n := by rw [← unhide HRN]; exact (unhide HM5).1
      have HLEN := hide hlen
      clear hwas5 hwas6 hlen HAC HGZ HOW c0 c1 c2 c3 b0 hap
      go_loopw [10] (fun j wz => ∃ j' : Nat, j' ≤ n ∧ j = .int .i64 (j' : Int) ∧ Kept [] w6 wz) (fun j _ => n - (intOf j).toNat)
      case atStart => exact ⟨0, by omega, rfl, Kept.refl _ _⟩
      case round =>
        obtain ⟨j, hj, rfl, hkz⟩ := hrel
        by_cases hjl : j < n
        · have hwz := (unhide HWD6).kept hkz
          have hws := own_kept (unhide HWS) hkz (by simp)
          rw [← unhide HRN] at hws
          obtain ⟨g1, cp1, hv1, -, hg1, hr1⟩ := own_at (ce := lc) (fun _ => rfl) hws (led_lt (show j < row.length by rw [unhide HRN]; exact hjl))
          obtain ⟨g2, cp2, hv2, -, hg2, hr2⟩ := own_at (ce := lc) (fun _ => rfl) hwz.ro (led_lt (show j < row'.length by rw [unhide HLEN]; exact hjl))
          have hmo := (unhide HM5).2 j (by rw [unhide HRN]; exact hjl)
          have b0 : wr.cell? ⟨b, 0, none⟩ = some rv := hwz.blk.cell 0
          rw [unhide HRN] at hv1
          rw [unhide HLEN] at hv2
          cases hv1
          subst hv2
          obtain ⟨-, p1, -⟩ := row_cells hr1
          obtain ⟨-, q1, -⟩ := row_cells hr2
          generalize row.getD j ⟨0, 0, 0⟩ = l1 at *
          generalize row'.getD j ⟨0, 0, 0⟩ = l2 at *
          obtain ⟨la, lb, lc'⟩ := l1
          obtain ⟨ma, mb, mc'⟩ := l2
          dsimp only at *
          have t1 : (mb < lb) = False := by simp; omega
          have hjn : (j : Int) < (n : Int) := by omega
          have HKZ := hide hkz
          clear hwz hws hr1 hr2 hkz
          go_upto_region 15 with fail
          go_region_held3 (fun w' => w'.cell? ⟨b, 0, none⟩ = some (.slice (some ⟨g2, 0, none⟩) n cp2) ∧ w'.cell? ⟨g1, j * 3 + 1, none⟩ = some (.int .i64 lb) ∧ w'.cell? ⟨g2, j * 3 + 1, none⟩ = some (.int .i64 mb)) (first | assumption | exact ⟨b0, p1, q1⟩) (fail)
          go_wp2
          exact ⟨⟨j + 1, by omega, by simp, (unhide HKZ).drew⟩, by simp [intOf]; omega⟩
        · obtain rfl : j = n := by omega
          have HKZ := hide hkz
          clear hkz
          go_wp2_with fail
          have hf := unhide HFT
          have hs1 := unhide HS5
          have hs2 := unhide HSL
          refine ⟨⟨k + 1, rv, sv', row', sent', by omega, by simp, (unhide HWD6).kept (unhide HKZ), unhide HI5, ?_, ⟨hf.1, hf.2.1, ?_⟩, by omega⟩, by simp [intOf]; omega⟩
          · refine Kept.step (Kept.step ((unhide HKW4).trans (unhide HK5) (fun x hx => Or.inr ?_)) (unhide HK6)) (unhide HKZ)
            rcases List.mem_cons.1 hx with q | q
            · rw [q]; exact hf.1
            · rcases List.mem_append.1 q with q | q
              · exact hf.2.1 x (by simpa using q)
              · exact hf.2.2 x (by simpa using q)
          · intro z hz
            rcases unhide HV5 with q | ⟨y, q1, q2⟩
            · rw [q] at hz; exact hf.2.2 z hz
            · rw [q1] at hz; cases hz; exact Nat.le_trans (unhide HKW4).size q2
    · obtain rfl : k = N := by omega
      have HKP := hide hkp
      clear hkp hwd hinv hft hsl
      go_wp2_with fail
      go_ret
      exact ⟨rfl, unhide HKP⟩
end Go.Proofs.Ytnpabeodakncfaa
