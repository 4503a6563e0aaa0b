/- The document's reading: a row. -/
import Derived.Test.YtigmofbammofbaaKRdQ
namespace Go.Proofs.Ytigmofbammofbaa
open Go.RowKit

theorem xor_int {m : Nat} (h : m < 18446744073709551616) : IntKind.i64.wrap (bits .xor .u64 (m : Int) 9223372036854775808) = intA m := by
  have e2 : bits .xor .u64 (m : Int) 9223372036854775808 = ((m ^^^ 9223372036854775808 : Nat) : Int) := u64_xor_nat m 9223372036854775808 (by omega) (by omega)
  rw [e2]
  unfold intA
  by_cases h1 : m < 9223372036854775808
  · rw [xor_top (by omega), IntKind.wrap_i64]; omega
  · rw [xor_top2 (by omega) (by omega), IntKind.wrap_i64]; omega

theorem rd_text {w : World} {b : Nat} {V : Value} {bs : List Nat} {va : Option Addr} {vn vc : Nat} {l : List El} {xn : Nat} {s : St} {X w2 : World} {ta : Option Addr} {tn tc : Nat} {tx : List Nat} {cs : Array Value} {t : TypeId} (hz : RdZ w b V bs va vn vc l xn s X) (hbx : Blk X xn cs t) (htn : tx.length = tn) (h256 : ∀ y ∈ tx, y < 256) (hto : w2.ownsRow X.heap.size 5 1 (.slice ta tn tc) tn (u8s tx)) : SeesIn (fun x => w.heap.size ≤ x ∧ (Value.slice va vn vc).ownBlock ≠ some x) (w2.setCell ⟨xn, 5, none⟩ (.slice ta tn tc)) (.slice ta tn tc) tx := by
  subst htn
  have h1 := SeesIn.of_own hto h256
  have hxl := hbx.lt
  have h2 := h1.kept ((Kept.refl [xn] w2).setCell (p := ⟨xn, 5, none⟩) (Or.inl (by simp)) (.slice ta tx.length tc)) (fun y hy hS => by unfold New at hS; simp at hy; omega)
  have hb' := hz.base
  exact h2.mono (fun y _ hS => ⟨by unfold New at hS; omega, fun e => by have := hz.out y e; unfold New at hS; omega⟩)
theorem rd_parts {w : World} {b : Nat} {V : Value} {bs : List Nat} {va : Option Addr} {vn vc : Nat} {l : List El} {xn : Nat} {s : St} {X w2 : World} {qv : Value} {r : Row} {cs : Array Value} {t : TypeId} (hz : RdZ w b V bs va vn vc l xn s X) (hbx : Blk X xn cs t) (hps : RowPS (New X.heap.size) w2 qv r) : RowPS (fun x => w.heap.size ≤ x ∧ (Value.slice va vn vc).ownBlock ≠ some x) (w2.setCell ⟨xn, 6, none⟩ qv) qv r := by
  have hxl := hbx.lt
  have h2 := hps.kept ((Kept.refl [xn] w2).setCell (p := ⟨xn, 6, none⟩) (Or.inl (by simp)) qv) (fun y hy hS => by unfold New at hS; simp at hy; omega)
  have hb' := hz.base
  exact h2.mono (fun y _ hS => ⟨by unfold New at hS; omega, fun e => by have := hz.out y e; unfold New at hS; omega⟩)

set_option maxRecDepth 100000 in
set_option maxHeartbeats 8000000 in
theorem rrow_any (f : Nat) : RdC f := by
  induction f using Nat.strongRecOn with
  | _ F ih =>
  intro w b V bs t d hr0 hlf hd
  have HIH := hide ih
  clear ih
  have HR0 := hide hr0
  have hlow := hr0.b
  have htl := hr0.lt.1
  have hbl : bs.length ≤ 1099511627776 := hr0.2.1
  clear hr0
  generalize hT : t.length = T at *
  have HT := hide hT
  clear hT
  go_enter Try.func33, Try.ntmps33
  go_wp2_with fail
  go_loopw [5] (fun out wr => ∃ (va : Option Addr) (vn vc : Nat), out = .slice va vn vc ∧ RdI w b V bs t F d T wr va vn vc) (fun out _ => match out with | .slice _ n _ => T - n | _ => 0)
  case atStart => exact ⟨none, 0, 0, rfl, Kept.refl _ _, Or.inl ⟨F, t, [], .nil, OwnP.nil _ _, rfl, rfl, unhide HR0, by rw [unhide HT]; exact hlf, Nat.le_refl _, by rw [unhide HT]; omega, (preR_nil _).symm⟩⟩
  case round =>
    obtain ⟨va, vn, vc, rfl, hkp, hst⟩ := hrel
    have HK := hide hkp
    clear hkp
    rcases hst with ⟨g, cur, l, acc, how, hln, hrow, hr, hcg, hgF, hvT, htk⟩ | ⟨e, hr, hrd⟩
    case inr =>
      obtain ⟨c2, he0, he9⟩ := hr.fe
      have HR := hide hr
      have HRD := hide hrd
      clear hr hrd
      have t1 : ((e : Int) == 0) = false := by simp; omega
      go_wp2
      go_ret
      exact ⟨none, 0, 0, rfl, by rw [unhide HRD]; exact unhide HR, unhide HK⟩
    have HOW := hide how
    have HLN := hide hln
    have HROW := hide hrow
    have HTK := hide htk
    have HR := hide hr
    have HNX := hide (fun (W : World) (hq : Quiet wr W) => next_any (hr.kept hq.kept (by simp)))
    have hc256 := hr.lt.2
    obtain ⟨i, pa, pcap, hV, hil, hbl2, hdr, c0, c1, c2, fz, hcell⟩ := hr.cells
    rw [hV] at c0
    have hiN : i < bs.length ∨ cur = [] := by
      rcases Nat.lt_or_ge i bs.length with h | h
      · exact Or.inl h
      · rw [List.drop_eq_nil_of_le h] at hdr; exact Or.inr hdr.symm
    have hiE : cur = [] → i = bs.length := by
      intro h
      rcases Nat.lt_or_ge i bs.length with h1 | h1
      · rw [h, drop_at bs i h1] at hdr; cases hdr
      · omega
    clear how hln hrow htk hr hV hcell hdr fz
    generalize bs.length = BL at *
    go_wp2_with fail
    go_cut [26] (fun t wc => ∃ W, W = wc ∧ t = .bool (decide (d = 0 ∧ cur = [])) ∧ Hid (Quiet wr W))
    case first =>
      by_cases hd0 : d = 0
      · subst hd0
        by_cases hcur : cur = []
        · have := hiE hcur
          have t1 : ((i : Int) == (BL : Int)) = true := by simp; omega
          clear hiE hiN
          go_region
          all_goals
            go_wp2_with fail
            go_meet
            exact ⟨_, rfl, by simp [hcur], (Quiet.refl wr).drew⟩
        · have := hiN.resolve_right hcur
          have t1 : ((i : Int) == (BL : Int)) = false := by simp; omega
          clear hiE hiN
          go_region
          all_goals
            go_wp2_with fail
            go_meet
            exact ⟨_, rfl, by simp [hcur], (Quiet.refl wr).drew⟩
      · have t1 : ((d : Int) == 0) = false := by simp; omega
        clear hiE hiN
        go_region
        all_goals
          go_wp2_with fail
          go_meet
          exact ⟨_, rfl, by simp [hd0], (Quiet.refl wr).drew⟩
    case rest =>
    obtain ⟨W, rfl, rfl, HQ⟩ := hcut
    have HRW := hide ((unhide HR).kept (unhide HQ).kept (by simp))
    have HKW := hide ((unhide HK).trans (unhide HQ).kept (by simp))
    have HOWW := hide ((unhide HOW).kept (unhide HQ).kept (by simp))
    have HNXW := hide (unhide HNX W (unhide HQ))
    clear HNX HR HOW c0 c1 c2 hiN hiE HK
    by_cases hstop : d = 0 ∧ cur = []
    · obtain ⟨rfl, rfl⟩ := hstop
      have hg : ∃ g', g = g' + 1 := ⟨g - 1, by omega⟩
      obtain ⟨g', rfl⟩ := hg
      have HRES : Hid (rowD 0 (takeR F t 0) = .ok (acc, [])) := by
        unfold Hid
        rw [unhide HTK, takeR_nil]
        simp [preR, Row.app_nil, rowD]
      rw [show decide (0 = 0 ∧ ([] : List Nat) = []) = true by simp]
      go_wp2_with fail
      go_ret
      refine ⟨va, vn, vc, rfl, ?_, unhide HKW⟩
      rw [unhide HRES]
      exact ⟨unhide HRW, by rw [← unhide HROW]; exact (unhide HOWW).row⟩
    rw [show decide (d = 0 ∧ cur = []) = false by simp only [decide_eq_false_iff_not]; exact hstop]
    obtain ⟨g', rfl⟩ : ∃ g', g = g' + 1 := ⟨g - 1, by omega⟩
    cases cur with
    | nil =>
      have hd0 : d ≠ 0 := fun h => hstop ⟨h, rfl⟩
      have HRES : Hid (rowD d (takeR F t d) = .error 40) := by
        unfold Hid
        rw [unhide HTK, takeR_nil]
        simp [preR, rowD, hd0]
      simp only [nxt] at HNXW
      clear hstop
      go_wp2_with (first | (go_at_call 41; refine (unhide HNXW).mono ?_; rintro e w1 ⟨rfl, hr1, hk1⟩; have hb1 := hr1.b; have c2 := hr1.fe.1; have HR1 := hide hr1; have HK1 := hide ((unhide HKW).trans hk1 (fun y hy => Or.inl hy)); clear hr1 hk1 HNXW))
      go_ret
      refine ⟨va, vn, vc, rfl, ?_, (unhide HK1).alloc _⟩
      rw [unhide HRES]
      exact (unhide HR1).kept (F := []) ((Kept.refl [] w1).alloc _) (by simp)
    | cons k cur =>
    simp only [nxt] at HNXW
    simp only [List.length_cons] at hcg hvT
    have hk256 := hc256 k (List.mem_cons_self ..)
    have hcur256 : ∀ x ∈ cur, x < 256 := fun x hx => hc256 x (List.mem_cons_of_mem _ hx)
    have HC256 := hide hcur256
    clear hstop hc256 hcur256
    go_upto_region 6 with (first | (go_at_call 41; refine (unhide HNXW).mono ?_; rintro e w1 ⟨rfl, hr1, hk1⟩; have hb1 := hr1.b; have HR1 := hide hr1; have HK1 := hide ((unhide HKW).trans hk1 (fun y hy => Or.inl hy)); have HO1 := hide ((unhide HOWW).kept hk1 (by simp; omega)); clear hr1 hk1 HNXW))
    refine world_at (R := fun X => RdZ w b V bs va vn vc l w1.heap.size (.ok cur) X ∧ Blk X w1.heap.size #[.int .i64 (k : Int), .bool false, .int .i64 0, .int .u64 0, .int .u64 0, .slice none 0 0, .slice none 0 0] 62) ⟨RdZ.begin (unhide HR1) (unhide HK1) (unhide HO1) hlow _, Blk.new w1 _ _⟩ ?_
    clear HR1 HK1 HO1 hb1 HRW HKW HOWW
    generalize w1.heap.size = xn
    rintro X ⟨hz, hbx⟩
    have HZ := hide hz
    have HBX := hide hbx
    have hb1 := hz.rdg.b
    have c2 := hz.rdg.f0.1
    have f2 := hz.rdg.f0.2
    have hxb : ¬ xn = b := fun h => by have := hz.base; have := hz.low; omega
    have hbx' : ¬ b = xn := fun h => hxb h.symm
    obtain ⟨z0, z1, z2, z3, z4, z5, z6⟩ := blk7 hbx
    have fx := hbx.frozen
    have HVN : Hid (vn ≤ 1099511627776) := by unfold Hid; omega
    clear hz hbx
    by_cases hend : k = 0 ∧ d ≠ 0
    · obtain ⟨rfl, hd0⟩ := hend
      have HRES : Hid (rowD d (takeR F t d) = .ok (acc, cur)) := by
        unfold Hid
        rw [unhide HTK, takeR_end]
        simp [preR, rowD, hd0, Row.app_nil]
      have t1 : (0 : Int) < (d : Int) := by omega
      have t1' : ((0 : Int) < (d : Int)) = True := by simp; omega
      have z0' : X.cell? ⟨xn, 0, none⟩ = some (.int .i64 0) := z0
      clear z0 hk256
      go_wp2_with fail
      go_ret
      refine ⟨va, vn, vc, rfl, ?_, (unhide HZ).kept⟩
      rw [unhide HRES]
      exact ⟨(unhide HZ).rdg, by rw [← unhide HROW]; exact (unhide HZ).own.row⟩
    have tst : (decide ((0 : Int) < (d : Int)) && ((k : Int) == 0)) = false := by
      by_cases h : k = 0
      · have : d = 0 := Decidable.of_not_not (fun hh => hend ⟨h, hh⟩)
        simp [this]
      · simp [h]
    clear tst
    go_cut [45] (fun t wc => t = .bool false ∧ Hid (wc = X))
    case first =>
      by_cases hd0 : d = 0
      · subst hd0
        go_wp2_with fail
        go_meet
        exact ⟨rfl, rfl⟩
      · have hk0 : k ≠ 0 := fun h => hend ⟨h, hd0⟩
        have t1 : ((0 : Int) < (d : Int)) = True := by simp; omega
        have t2 : ((k : Int) == 0) = false := by simp; omega
        have t1b : (0 < d) = True := by simp; omega
        go_wp2_with fail
        go_meet
        exact ⟨rfl, rfl⟩
    case rest =>
    obtain ⟨rfl, HXE⟩ := hcut
    have hxe := (unhide HXE).symm
    subst hxe
    clear HXE
    by_cases hdef : k = 0 ∨ 8 ≤ k
    · have HRES : Hid (rowD d (takeR F t d) = .error 40) := by
        unfold Hid
        by_cases hk0 : k = 0
        · have hd0 : d = 0 := Decidable.of_not_not (fun hh => hend ⟨hk0, hh⟩)
          subst hk0 hd0
          rw [unhide HTK, takeR_end]
          simp [preR, rowD]
        · refine rd_err (unhide HTK) hk0 ?_
          unfold takeV
          rw [if_neg (by omega), if_neg (by omega), if_neg (by omega), if_neg (by omega), if_neg (by omega), if_neg (by omega), if_neg (by omega)]
      have t1 : ((k : Int) == 1) = false := by simp; omega
      have t2 : ((k : Int) == 2) = false := by simp; omega
      have t3 : ((k : Int) == 3) = false := by simp; omega
      have t4 : ((k : Int) == 4) = false := by simp; omega
      have t5 : ((k : Int) == 5) = false := by simp; omega
      have t6 : ((k : Int) == 6) = false := by simp; omega
      have t7 : ((k : Int) == 7) = false := by simp; omega
      clear hend hdef
      go_upto_region 30 with fail
      refine world_at (R := fun Y => RdZ w b V bs va vn vc l xn (.error 40) Y ∧ Blk Y xn #[.int .i64 (k : Int), .bool false, .int .i64 0, .int .u64 0, .int .u64 0, .slice none 0 0, .slice none 0 0] 62) ⟨(unhide HZ).fault 40 (by omega) (by omega), (unhide HZ).blk (unhide HBX) ((Kept.refl [b] X).setCell (p := ⟨b, 2, none⟩) (Or.inl (by simp)) _)⟩ ?_
      clear z0 z1 z2 z3 z4 z5 z6 c2 f2 fx
      rintro Y ⟨hzf, hbf⟩
      obtain ⟨z0, z1, z2, z3, z4, z5, z6⟩ := blk7 hbf
      have HZF := hide hzf
      have HOA := hide (hzf.own.kept (F := []) ((Kept.refl [] Y).alloc (.cells #[.int .i64 (k : Int), .bool false, .int .i64 0, .int .u64 0, .int .u64 0, .slice none 0 0, .slice none 0 0] 62)) (by simp))
      have HCE := hide (cells_seven_new Y (.int .i64 (k : Int)) (.bool false) (.int .i64 0) (.int .u64 0) (.int .u64 0) (.slice none 0 0) (.slice none 0 0) 62)
      have HBA : Hid (w.heap.size ≤ (Y.alloc (.cells #[.int .i64 (k : Int), .bool false, .int .i64 0, .int .u64 0, .int .u64 0, .slice none 0 0, .slice none 0 0] 62)).heap.size) := (hzf.kept.alloc _).size
      clear hzf hbf
      go_wp2_with (first | (at_builtin; refine wpList_append_part (e := ⟨hd0 (k : Int), .slice none 0 0, .slice none 0 0, .nil⟩) _ rfl _ _ rfl rfl HOA HLN rfl HCE (by intro u hu; simp [cellsPt] at hu; rcases hu with rfl | rfl | rfl | rfl | rfl | rfl | rfl <;> rfl) HVN HBA ?_))
      intro va' vc' w6 HO6 HK6
      go_wp2_with fail
      refine ⟨⟨va', vn + 1, vc', rfl, (unhide HZF).fin (unhide HO6) (unhide HK6) (unhide HLN) ?_⟩, by simp; omega⟩
      exact Or.inr ⟨40, rfl, unhide HRES⟩
    have hk0 : k ≠ 0 := by omega
    have hk7 : k ≤ 7 := by omega
    clear hend hdef hk256
    obtain rfl | rfl | rfl | rfl | rfl | rfl | rfl : k = 1 ∨ k = 2 ∨ k = 3 ∨ k = 4 ∨ k = 5 ∨ k = 6 ∨ k = 7 := by omega
    · have HV : Hid (takeV (takeR g' cur (d + 1)) 1 cur d = .ok (hd0 1, .nil, cur)) := rfl
      have HT2 := hide (rd_ok (unhide HTK) (by omega) (unhide HV))
      have z0' : X.cell? ⟨xn, 0, none⟩ = some (.int .i64 1) := z0
      clear z0 hk0 hk7
      have z0 := z0'
      clear z0'
      go_upto_region 30 with fail
      refine world_at (R := fun Y => RdZ w b V bs va vn vc l xn (.ok cur) Y ∧ Blk Y xn #[.int .i64 1, .bool false, .int .i64 0, .int .u64 0, .int .u64 0, .slice none 0 0, .slice none 0 0] 62) ⟨unhide HZ, unhide HBX⟩ ?_
      clear z0 z1 z2 z3 z4 z5 z6 c2 f2 fx
      rintro Y ⟨hzf, hbf⟩
      obtain ⟨z0, z1, z2, z3, z4, z5, z6⟩ := blk7 hbf
      have HZF := hide hzf
      have HOA := hide (hzf.own.kept (F := []) ((Kept.refl [] Y).alloc (.cells #[.int .i64 1, .bool false, .int .i64 0, .int .u64 0, .int .u64 0, .slice none 0 0, .slice none 0 0] 62)) (by simp))
      have HCE := hide (cells_seven_new Y (.int .i64 1) (.bool false) (.int .i64 0) (.int .u64 0) (.int .u64 0) (.slice none 0 0) (.slice none 0 0) 62)
      have HBA : Hid (w.heap.size ≤ (Y.alloc (.cells #[.int .i64 1, .bool false, .int .i64 0, .int .u64 0, .int .u64 0, .slice none 0 0, .slice none 0 0] 62)).heap.size) := (hzf.kept.alloc _).size
      clear hzf hbf
      go_wp2_with (first | (at_builtin; refine wpList_append_part (e := ⟨hd0 1, .slice none 0 0, .slice none 0 0, .nil⟩) _ rfl _ _ rfl rfl HOA HLN rfl HCE (by intro u hu; simp [cellsPt] at hu; rcases hu with rfl | rfl | rfl | rfl | rfl | rfl | rfl <;> rfl) HVN HBA ?_))
      intro va' vc' w6 HO6 HK6
      go_wp2_with fail
      refine ⟨⟨va', vn + 1, vc', rfl, (unhide HZF).fin (unhide HO6) (unhide HK6) (unhide HLN) ?_⟩, by simp; omega⟩
      exact Or.inl ⟨g', cur, _, rfl, elps_plain ⟨hd0_ok 1 (by omega) (by omega), rfl⟩ rfl, rowE_snoc _ (unhide HROW) (partH_hd0 1).symm rfl, by omega, by omega, by omega, unhide HT2⟩
    · have HNX2 := hide (next_any (unhide HZ).rdg)
      have z0' : X.cell? ⟨xn, 0, none⟩ = some (.int .i64 2) := z0
      clear z0 hk0 hk7
      have z0 := z0'
      clear z0'
      cases cur with
      | nil =>
        have HRES := hide (rd_err (e := 40) (unhide HTK) (by omega) rfl)
        simp only [nxt] at HNX2
        go_upto_region 13 with (first | (go_at_call 41; refine (unhide HNX2).mono ?_; rintro e w2 ⟨rfl, hr2, hk2⟩; have HZ2 := hide ((unhide HZ).call hk2 hr2); have HB2 := hide ((unhide HZ).blk (unhide HBX) hk2); have hb2 := hr2.b; clear z0 z1 z2 z3 z4 z5 z6 fx c2 f2 hb1; obtain ⟨z0, z1, z2, z3, z4, z5, z6⟩ := blk7 (unhide HB2); have fx := (unhide HB2).frozen; have c2 := hr2.fe.1; have f2 : True := trivial; clear hr2 hk2 HNX2))
        go_upto_region 30 with fail
        refine world_at (R := fun Y => RdZ w b V bs va vn vc l xn (.error 40) Y ∧ Blk Y xn #[.int .i64 2, .bool false, .int .i64 0, .int .u64 0, .int .u64 0, .slice none 0 0, .slice none 0 0] 62) ⟨(unhide HZ2).set 1 _, (unhide HB2).set 1 _⟩ ?_
        clear z0 z1 z2 z3 z4 z5 z6 c2 f2 fx
        rintro Y ⟨hzf, hbf⟩
        obtain ⟨z0, z1, z2, z3, z4, z5, z6⟩ := blk7 hbf
        have HZF := hide hzf
        have HOA := hide (hzf.own.kept (F := []) ((Kept.refl [] Y).alloc (.cells #[.int .i64 2, .bool false, .int .i64 0, .int .u64 0, .int .u64 0, .slice none 0 0, .slice none 0 0] 62)) (by simp))
        have HCE := hide (cells_seven_new Y (.int .i64 2) (.bool false) (.int .i64 0) (.int .u64 0) (.int .u64 0) (.slice none 0 0) (.slice none 0 0) 62)
        have HBA : Hid (w.heap.size ≤ (Y.alloc (.cells #[.int .i64 2, .bool false, .int .i64 0, .int .u64 0, .int .u64 0, .slice none 0 0, .slice none 0 0] 62)).heap.size) := (hzf.kept.alloc _).size
        clear hzf hbf
        go_wp2_with (first | (at_builtin; refine wpList_append_part (e := ⟨hd0 2, .slice none 0 0, .slice none 0 0, .nil⟩) _ rfl _ _ rfl rfl HOA HLN rfl HCE (by intro u hu; simp [cellsPt] at hu; rcases hu with rfl | rfl | rfl | rfl | rfl | rfl | rfl <;> rfl) HVN HBA ?_))
        intro va' vc' w6 HO6 HK6
        go_wp2_with fail
        refine ⟨⟨va', vn + 1, vc', rfl, (unhide HZF).fin (unhide HO6) (unhide HK6) (unhide HLN) ?_⟩, by simp; omega⟩
        exact Or.inr ⟨40, rfl, unhide HRES⟩
      | cons x cur =>
        simp only [nxt] at HNX2
        have hx := unhide HC256 x (List.mem_cons_self ..)
        simp only [List.length_cons] at hcg hvT
        by_cases hx1 : 1 < x
        · have HRES : Hid (rowD d (takeR F t d) = .error 40) := rd_err (unhide HTK) (by omega) (by simp [takeV, takeB, hx1, liftO])
          have t1 : ((1 : Int) < (x : Int)) = True := by simp; omega
          have t1' : (1 < x) = True := by simp; omega
          have t2 : ((x : Int) == 1) = false := by simp; omega
          go_upto_region 13 with (first | (go_at_call 41; refine (unhide HNX2).mono ?_; rintro e w2 ⟨rfl, hr2, hk2⟩; have HZ2 := hide ((unhide HZ).call hk2 hr2); have HB2 := hide ((unhide HZ).blk (unhide HBX) hk2); have hb2 := hr2.b; clear z0 z1 z2 z3 z4 z5 z6 fx c2 f2 hb1; obtain ⟨z0, z1, z2, z3, z4, z5, z6⟩ := blk7 (unhide HB2); have fx := (unhide HB2).frozen; have c2 := hr2.f0.1; have f2 := hr2.f0.2; clear hr2 hk2 HNX2))
          go_upto_region 30 with fail
          refine world_at (R := fun Y => RdZ w b V bs va vn vc l xn (.error 40) Y ∧ Blk Y xn #[.int .i64 2, .bool false, .int .i64 0, .int .u64 0, .int .u64 0, .slice none 0 0, .slice none 0 0] 62) ⟨((unhide HZ2).fault 40 (by omega) (by omega)).set 1 _, ((unhide HZ2).blk (unhide HB2) ((Kept.refl [b] w2).setCell (p := ⟨b, 2, none⟩) (Or.inl (by simp)) _)).set 1 _⟩ ?_
          clear z0 z1 z2 z3 z4 z5 z6 c2 f2 fx
          rintro Y ⟨hzf, hbf⟩
          obtain ⟨z0, z1, z2, z3, z4, z5, z6⟩ := blk7 hbf
          have HZF := hide hzf
          have HOA := hide (hzf.own.kept (F := []) ((Kept.refl [] Y).alloc (.cells #[.int .i64 2, .bool false, .int .i64 0, .int .u64 0, .int .u64 0, .slice none 0 0, .slice none 0 0] 62)) (by simp))
          have HCE := hide (cells_seven_new Y (.int .i64 2) (.bool false) (.int .i64 0) (.int .u64 0) (.int .u64 0) (.slice none 0 0) (.slice none 0 0) 62)
          have HBA : Hid (w.heap.size ≤ (Y.alloc (.cells #[.int .i64 2, .bool false, .int .i64 0, .int .u64 0, .int .u64 0, .slice none 0 0, .slice none 0 0] 62)).heap.size) := (hzf.kept.alloc _).size
          clear hzf hbf
          go_wp2_with (first | (at_builtin; refine wpList_append_part (e := ⟨hd0 2, .slice none 0 0, .slice none 0 0, .nil⟩) _ rfl _ _ rfl rfl HOA HLN rfl HCE (by intro u hu; simp [cellsPt] at hu; rcases hu with rfl | rfl | rfl | rfl | rfl | rfl | rfl <;> rfl) HVN HBA ?_))
          intro va' vc' w6 HO6 HK6
          go_wp2_with fail
          refine ⟨⟨va', vn + 1, vc', rfl, (unhide HZF).fin (unhide HO6) (unhide HK6) (unhide HLN) ?_⟩, by simp; omega⟩
          exact Or.inr ⟨40, rfl, unhide HRES⟩
        · have HV : Hid (takeV (takeR g' (x :: cur) (d + 1)) 2 (x :: cur) d = .ok ({ hd0 2 with b := ((x : Int) == 1) }, .nil, cur)) := by
            have hb : ((x : Int) == 1) = decide (x = 1) := bit_iff x 1
            unfold Hid
            rw [hb]
            simp [takeV, takeB, hx1, liftO]
          have HT2 := hide (rd_ok (unhide HTK) (by omega) (unhide HV))
          have t1 : ((1 : Int) < (x : Int)) = False := by simp; omega
          have t1' : (1 < x) = False := by simp; omega
          go_upto_region 13 with (first | (go_at_call 41; refine (unhide HNX2).mono ?_; rintro e w2 ⟨rfl, hr2, hk2⟩; have HZ2 := hide ((unhide HZ).call hk2 hr2); have HB2 := hide ((unhide HZ).blk (unhide HBX) hk2); have hb2 := hr2.b; clear z0 z1 z2 z3 z4 z5 z6 fx c2 f2 hb1; obtain ⟨z0, z1, z2, z3, z4, z5, z6⟩ := blk7 (unhide HB2); have fx := (unhide HB2).frozen; have c2 := hr2.f0.1; have f2 := hr2.f0.2; clear hr2 hk2 HNX2))
          generalize hbx2 : ((x : Int) == 1) = bb at *
          go_upto_region 30 with fail
          refine world_at (R := fun Y => RdZ w b V bs va vn vc l xn (.ok cur) Y ∧ Blk Y xn #[.int .i64 2, .bool bb, .int .i64 0, .int .u64 0, .int .u64 0, .slice none 0 0, .slice none 0 0] 62) ⟨(unhide HZ2).set 1 _, (unhide HB2).set 1 _⟩ ?_
          clear z0 z1 z2 z3 z4 z5 z6 c2 f2 fx
          rintro Y ⟨hzf, hbf⟩
          obtain ⟨z0, z1, z2, z3, z4, z5, z6⟩ := blk7 hbf
          have HZF := hide hzf
          have HOA := hide (hzf.own.kept (F := []) ((Kept.refl [] Y).alloc (.cells #[.int .i64 2, .bool bb, .int .i64 0, .int .u64 0, .int .u64 0, .slice none 0 0, .slice none 0 0] 62)) (by simp))
          have HCE := hide (cells_seven_new Y (.int .i64 2) (.bool bb) (.int .i64 0) (.int .u64 0) (.int .u64 0) (.slice none 0 0) (.slice none 0 0) 62)
          have HBA : Hid (w.heap.size ≤ (Y.alloc (.cells #[.int .i64 2, .bool bb, .int .i64 0, .int .u64 0, .int .u64 0, .slice none 0 0, .slice none 0 0] 62)).heap.size) := (hzf.kept.alloc _).size
          clear hzf hbf
          go_wp2_with (first | (at_builtin; refine wpList_append_part (e := ⟨{ hd0 2 with b := bb }, .slice none 0 0, .slice none 0 0, .nil⟩) _ rfl _ _ rfl rfl HOA HLN rfl HCE (by intro u hu; simp [cellsPt] at hu; rcases hu with rfl | rfl | rfl | rfl | rfl | rfl | rfl <;> rfl) HVN HBA ?_))
          intro va' vc' w6 HO6 HK6
          go_wp2_with fail
          refine ⟨⟨va', vn + 1, vc', rfl, (unhide HZF).fin (unhide HO6) (unhide HK6) (unhide HLN) ?_⟩, by simp; omega⟩
          exact Or.inl ⟨g', cur, _, rfl, elps_plain ⟨⟨by simp [hd0], by simp [hd0], by simp [hd0], by simp [hd0], by simp [hd0], by simp [hd0], by simp [hd0], by simp [hd0]⟩, rfl⟩ rfl, rowE_snoc _ (unhide HROW) (by simp [partH, hd0]) rfl, by omega, by omega, by omega, unhide HT2⟩
    · have HNX2 := hide (number_any (unhide HZ).rdg)
      have HNW := hide (num_takeW cur)
      generalize numK 8 0 (.ok cur) = ns at *
      obtain ⟨m, s2⟩ := ns
      simp only at *
      have z0' : X.cell? ⟨xn, 0, none⟩ = some (.int .i64 3) := z0
      clear z0 hk0 hk7
      have z0 := z0'
      clear z0'
      by_cases hm : m < 18446744073709551616
      case neg =>
        go_wp2_with (first | (go_at_call 42; refine (unhide HNX2).mono ?_; rintro e w2 ⟨rfl, hr2, hm2, hk2⟩; exact absurd hm2 hm))
      have hxor := xor_int hm
      generalize hni : intA m = ni at *
      have HNI := hide hni
      clear hni
      go_upto_region 30 with (first | (go_at_call 42; refine (unhide HNX2).mono ?_; rintro e w2 ⟨rfl, hr2, hm2, hk2⟩; have HZ2 := hide ((unhide HZ).call hk2 hr2); have HB2 := hide ((unhide HZ).blk (unhide HBX) hk2); have hb2 := hr2.b; clear z0 z1 z2 z3 z4 z5 z6 fx c2 f2 hb1; obtain ⟨z0, z1, z2, z3, z4, z5, z6⟩ := blk7 (unhide HB2); have fx := (unhide HB2).frozen; clear hr2 hk2 HNX2))
      refine world_at (R := fun Y => RdZ w b V bs va vn vc l xn s2 Y ∧ Blk Y xn #[.int .i64 3, .bool false, .int .i64 ni, .int .u64 0, .int .u64 0, .slice none 0 0, .slice none 0 0] 62) ⟨(unhide HZ2).set 2 _, (unhide HB2).set 2 _⟩ ?_
      clear z0 z1 z2 z3 z4 z5 z6 fx
      rintro Y ⟨hzf, hbf⟩
      obtain ⟨z0, z1, z2, z3, z4, z5, z6⟩ := blk7 hbf
      have HZF := hide hzf
      have HOA := hide (hzf.own.kept (F := []) ((Kept.refl [] Y).alloc (.cells #[.int .i64 3, .bool false, .int .i64 ni, .int .u64 0, .int .u64 0, .slice none 0 0, .slice none 0 0] 62)) (by simp))
      have HCE := hide (cells_seven_new Y (.int .i64 3) (.bool false) (.int .i64 ni) (.int .u64 0) (.int .u64 0) (.slice none 0 0) (.slice none 0 0) 62)
      have HBA : Hid (w.heap.size ≤ (Y.alloc (.cells #[.int .i64 3, .bool false, .int .i64 ni, .int .u64 0, .int .u64 0, .slice none 0 0, .slice none 0 0] 62)).heap.size) := (hzf.kept.alloc _).size
      clear hzf hbf
      go_wp2_with (first | (at_builtin; refine wpList_append_part (e := ⟨{ hd0 3 with n := ni }, .slice none 0 0, .slice none 0 0, .nil⟩) _ rfl _ _ rfl rfl HOA HLN rfl HCE (by intro u hu; simp [cellsPt] at hu; rcases hu with rfl | rfl | rfl | rfl | rfl | rfl | rfl <;> rfl) HVN HBA ?_))
      intro va' vc' w6 HO6 HK6
      go_wp2_with fail
      refine ⟨⟨va', vn + 1, vc', rfl, (unhide HZF).fin (unhide HO6) (unhide HK6) (unhide HLN) ?_⟩, by simp; omega⟩
      rcases unhide HNW with ⟨m', r, h1, h2⟩ | ⟨h1, h2⟩
      · cases h2
        have hl := takeW_len h1
        refine Or.inl ⟨g', r, _, rfl, elps_plain ⟨⟨by simp [hd0], by simp [hd0], ?_, ?_, by simp [hd0], by simp [hd0], by simp [hd0], by simp [hd0]⟩, rfl⟩ rfl, rowE_snoc _ (unhide HROW) ?_ rfl, by omega, by omega, by omega, rd_ok (h := { hd0 3 with n := intA m }) (p := .nil) (unhide HTK) (by omega) (by simp [takeV, h1, liftO])⟩
        · have := unhide HNI; unfold intA at this; simp only; omega
        · have := unhide HNI; unfold intA at this; simp only; omega
        · simp [partH, hd0, unhide HNI]
      · subst h2
        exact Or.inr ⟨40, rfl, rd_err (unhide HTK) (by omega) (by simp [takeV, h1, liftO])⟩
    · have HNX2 := hide (real_any (unhide HZ).rdg)
      have HNW := hide (real_takeF cur (unhide HC256))
      generalize realS (.ok cur) = ns at *
      obtain ⟨m, s2⟩ := ns
      simp only at *
      have z0' : X.cell? ⟨xn, 0, none⟩ = some (.int .i64 4) := z0
      clear z0 hk0 hk7
      have z0 := z0'
      clear z0'
      go_upto_region 30 with (first | (go_at_call 43; refine (unhide HNX2).mono ?_; rintro e w2 ⟨rfl, hr2, hm2, hk2⟩; have HZ2 := hide ((unhide HZ).call hk2 hr2); have HB2 := hide ((unhide HZ).blk (unhide HBX) hk2); have hb2 := hr2.b; clear z0 z1 z2 z3 z4 z5 z6 fx c2 f2 hb1; obtain ⟨z0, z1, z2, z3, z4, z5, z6⟩ := blk7 (unhide HB2); have fx := (unhide HB2).frozen; have HM2 := hide hm2; clear hm2; clear hr2 hk2 HNX2))
      refine world_at (R := fun Y => RdZ w b V bs va vn vc l xn s2 Y ∧ Blk Y xn #[.int .i64 4, .bool false, .int .i64 0, .int .u64 (m : Int), .int .u64 0, .slice none 0 0, .slice none 0 0] 62) ⟨(unhide HZ2).set 3 _, (unhide HB2).set 3 _⟩ ?_
      clear z0 z1 z2 z3 z4 z5 z6 fx
      rintro Y ⟨hzf, hbf⟩
      obtain ⟨z0, z1, z2, z3, z4, z5, z6⟩ := blk7 hbf
      have HZF := hide hzf
      have HOA := hide (hzf.own.kept (F := []) ((Kept.refl [] Y).alloc (.cells #[.int .i64 4, .bool false, .int .i64 0, .int .u64 (m : Int), .int .u64 0, .slice none 0 0, .slice none 0 0] 62)) (by simp))
      have HCE := hide (cells_seven_new Y (.int .i64 4) (.bool false) (.int .i64 0) (.int .u64 (m : Int)) (.int .u64 0) (.slice none 0 0) (.slice none 0 0) 62)
      have HBA : Hid (w.heap.size ≤ (Y.alloc (.cells #[.int .i64 4, .bool false, .int .i64 0, .int .u64 (m : Int), .int .u64 0, .slice none 0 0, .slice none 0 0] 62)).heap.size) := (hzf.kept.alloc _).size
      clear hzf hbf
      go_wp2_with (first | (at_builtin; refine wpList_append_part (e := ⟨{ hd0 4 with re := m, pr := m }, .slice none 0 0, .slice none 0 0, .nil⟩) _ rfl _ _ rfl rfl HOA HLN rfl HCE (by intro u hu; simp [cellsPt] at hu; rcases hu with rfl | rfl | rfl | rfl | rfl | rfl | rfl <;> rfl) HVN HBA ?_))
      intro va' vc' w6 HO6 HK6
      go_wp2_with fail
      refine ⟨⟨va', vn + 1, vc', rfl, (unhide HZF).fin (unhide HO6) (unhide HK6) (unhide HLN) ?_⟩, by simp; omega⟩
      rcases unhide HNW with ⟨m', r, h1, h2⟩ | ⟨h1, h2⟩
      · cases h2
        have hl := takeF_len h1
        refine Or.inl ⟨g', r, _, rfl, elps_plain ⟨⟨by simp [hd0], by simp [hd0], by simp [hd0], by simp [hd0], unhide HM2, unhide HM2, by simp [hd0], by simp [hd0]⟩, rfl⟩ rfl, rowE_snoc _ (unhide HROW) ?_ rfl, by omega, by omega, by omega, rd_ok (h := { hd0 4 with re := m }) (p := .nil) (unhide HTK) (by omega) (by simp [takeV, h1, liftO])⟩
        simp [partH, hd0]
      · subst h2
        exact Or.inr ⟨40, rfl, rd_err (unhide HTK) (by omega) (by simp [takeV, h1, liftO])⟩
    · have HNX2 := hide (real_any (unhide HZ).rdg)
      have HNW := hide (real_takeF cur (unhide HC256))
      generalize realS (.ok cur) = ns at *
      obtain ⟨m, s2⟩ := ns
      simp only at *
      have z0' : X.cell? ⟨xn, 0, none⟩ = some (.int .i64 5) := z0
      clear z0 hk0 hk7
      have z0 := z0'
      clear z0'
      go_upto_region 22 with (first | (go_at_call 43; refine (unhide HNX2).mono ?_; rintro e w2 ⟨rfl, hr2, hm2, hk2⟩; have HZ2 := hide ((unhide HZ).call hk2 hr2); have HB2 := hide ((unhide HZ).blk (unhide HBX) hk2); have hb2 := hr2.b; clear z0 z1 z2 z3 z4 z5 z6 fx c2 f2 hb1; obtain ⟨z0, z1, z2, z3, z4, z5, z6⟩ := blk7 (unhide HB2); have fx := (unhide HB2).frozen; have HM2 := hide hm2; clear hm2; clear hr2 hk2 HNX2))
      refine world_at (R := fun Y => RdZ w b V bs va vn vc l xn s2 Y ∧ Blk Y xn #[.int .i64 5, .bool false, .int .i64 0, .int .u64 (m : Int), .int .u64 0, .slice none 0 0, .slice none 0 0] 62) ⟨(unhide HZ2).set 3 _, (unhide HB2).set 3 _⟩ ?_
      clear z0 z1 z2 z3 z4 z5 z6 fx HZ HBX
      rintro X ⟨hz, hbx⟩
      have HZ := hide hz
      have HBX := hide hbx
      have hb1 := hz.rdg.b
      obtain ⟨z0, z1, z2, z3, z4, z5, z6⟩ := blk7 hbx
      have fx := hbx.frozen
      have HNX3 := hide (real_any hz.rdg)
      have HNW3 : Hid (∀ r, s2 = .ok r → (∃ m' r', takeF r = some (m', r') ∧ realS s2 = (m', .ok r')) ∨ (takeF r = none ∧ (realS s2).2 = .error 40)) := by
        intro r hr
        have h := hz.rdg
        rw [hr] at h ⊢
        exact real_takeF r h.lt.2
      have HE3 : Hid (∀ e, s2 = .error e → (realS s2).2 = .error e) := by
        intro e he
        rw [he]
        exact realS_err e
      clear hz hbx
      generalize realS s2 = ns at *
      obtain ⟨m3, s3⟩ := ns
      simp only at *
      go_upto_region 30 with (first | (go_at_call 43; refine (unhide HNX3).mono ?_; rintro e w3 ⟨rfl, hr2, hm2, hk2⟩; have HZ3 := hide ((unhide HZ).call hk2 hr2); have HB3 := hide ((unhide HZ).blk (unhide HBX) hk2); have hb2 := hr2.b; clear z0 z1 z2 z3 z4 z5 z6 fx hb1; obtain ⟨z0, z1, z2, z3, z4, z5, z6⟩ := blk7 (unhide HB3); have fx := (unhide HB3).frozen; have HM3 := hide hm2; clear hm2; clear hr2 hk2 HNX3))
      refine world_at (R := fun Y => RdZ w b V bs va vn vc l xn s3 Y ∧ Blk Y xn #[.int .i64 5, .bool false, .int .i64 0, .int .u64 (m : Int), .int .u64 (m3 : Int), .slice none 0 0, .slice none 0 0] 62) ⟨(unhide HZ3).set 4 _, (unhide HB3).set 4 _⟩ ?_
      clear z0 z1 z2 z3 z4 z5 z6 fx
      rintro Y ⟨hzf, hbf⟩
      obtain ⟨z0, z1, z2, z3, z4, z5, z6⟩ := blk7 hbf
      have HZF := hide hzf
      have HOA := hide (hzf.own.kept (F := []) ((Kept.refl [] Y).alloc (.cells #[.int .i64 5, .bool false, .int .i64 0, .int .u64 (m : Int), .int .u64 (m3 : Int), .slice none 0 0, .slice none 0 0] 62)) (by simp))
      have HCE := hide (cells_seven_new Y (.int .i64 5) (.bool false) (.int .i64 0) (.int .u64 (m : Int)) (.int .u64 (m3 : Int)) (.slice none 0 0) (.slice none 0 0) 62)
      have HBA : Hid (w.heap.size ≤ (Y.alloc (.cells #[.int .i64 5, .bool false, .int .i64 0, .int .u64 (m : Int), .int .u64 (m3 : Int), .slice none 0 0, .slice none 0 0] 62)).heap.size) := (hzf.kept.alloc _).size
      clear hzf hbf
      go_wp2_with (first | (at_builtin; refine wpList_append_part (e := ⟨{ hd0 5 with re := m, pr := m, im := m3 }, .slice none 0 0, .slice none 0 0, .nil⟩) _ rfl _ _ rfl rfl HOA HLN rfl HCE (by intro u hu; simp [cellsPt] at hu; rcases hu with rfl | rfl | rfl | rfl | rfl | rfl | rfl <;> rfl) HVN HBA ?_))
      intro va' vc' w6 HO6 HK6
      go_wp2_with fail
      refine ⟨⟨va', vn + 1, vc', rfl, (unhide HZF).fin (unhide HO6) (unhide HK6) (unhide HLN) ?_⟩, by simp; omega⟩
      rcases unhide HNW with ⟨m', r, h1, h2⟩ | ⟨h1, h2⟩
      · cases h2
        rcases unhide HNW3 r rfl with ⟨m'', r', h3, h4⟩ | ⟨h3, h4⟩
        · cases h4
          have hl := takeF_len h1
          have hl2 := takeF_len h3
          refine Or.inl ⟨g', r', _, rfl, elps_plain ⟨⟨by simp [hd0], by simp [hd0], by simp [hd0], by simp [hd0], unhide HM2, unhide HM2, unhide HM3, by simp [hd0]⟩, rfl⟩ rfl, rowE_snoc _ (unhide HROW) ?_ rfl, by omega, by omega, by omega, rd_ok (h := { hd0 5 with pr := m, im := m3 }) (p := .nil) (unhide HTK) (by omega) (by simp [takeV, takeP, h1, h3, liftO])⟩
          simp [partH, hd0]
        · subst h4
          exact Or.inr ⟨40, rfl, rd_err (unhide HTK) (by omega) (by simp [takeV, takeP, h1, h3, liftO])⟩
      · have h5 := unhide HE3 40 h2
        subst h5
        exact Or.inr ⟨40, rfl, rd_err (unhide HTK) (by omega) (by simp [takeV, takeP, h1, liftO])⟩
    · have HNX2 := hide (text_any (unhide HZ).rdg)
      have z0' : X.cell? ⟨xn, 0, none⟩ = some (.int .i64 6) := z0
      clear z0 hk0 hk7
      have z0 := z0'
      clear z0'
      go_upto_region 30 with (first | (go_at_call 44; refine (unhide HNX2).mono ?_; rintro e w2 ⟨ta, tn, tc, tx, s2, rfl, htn, ht256, hto, hr2, htx, hk2⟩; have HZ2 := hide ((unhide HZ).call hk2 hr2); have HB2 := hide ((unhide HZ).blk (unhide HBX) hk2); have hb2 := hr2.b; clear z0 z1 z2 z3 z4 z5 z6 fx c2 f2 hb1; obtain ⟨z0, z1, z2, z3, z4, z5, z6⟩ := blk7 (unhide HB2); have fx := (unhide HB2).frozen; have HTX := hide htx; have HT256 := hide ht256; have HTS := hide (rd_text (unhide HZ) (unhide HBX) htn ht256 hto); clear hr2 hk2 htx ht256 hto htn HNX2))
      refine world_at (R := fun Y => RdZ w b V bs va vn vc l xn s2 Y ∧ Blk Y xn #[.int .i64 6, .bool false, .int .i64 0, .int .u64 0, .int .u64 0, .slice ta tn tc, .slice none 0 0] 62 ∧ SeesIn (fun x => w.heap.size ≤ x ∧ (Value.slice va vn vc).ownBlock ≠ some x) Y (.slice ta tn tc) tx) ⟨(unhide HZ2).set 5 _, (unhide HB2).set 5 _, unhide HTS⟩ ?_
      clear z0 z1 z2 z3 z4 z5 z6 fx
      rintro Y ⟨hzf, hbf, hex⟩
      obtain ⟨z0, z1, z2, z3, z4, z5, z6⟩ := blk7 hbf
      have HZF := hide hzf
      have HEX := hide hex
      clear hex
      have HOA := hide (hzf.own.kept (F := []) ((Kept.refl [] Y).alloc (.cells #[.int .i64 6, .bool false, .int .i64 0, .int .u64 0, .int .u64 0, .slice ta tn tc, .slice none 0 0] 62)) (by simp))
      have HCE := hide (cells_seven_new Y (.int .i64 6) (.bool false) (.int .i64 0) (.int .u64 0) (.int .u64 0) (.slice ta tn tc) (.slice none 0 0) 62)
      have HBA : Hid (w.heap.size ≤ (Y.alloc (.cells #[.int .i64 6, .bool false, .int .i64 0, .int .u64 0, .int .u64 0, .slice ta tn tc, .slice none 0 0] 62)).heap.size) := (hzf.kept.alloc _).size
      clear hzf hbf
      go_wp2_with (first | (at_builtin; refine wpList_append_part (e := ⟨{ hd0 6 with text := tx }, .slice ta tn tc, .slice none 0 0, .nil⟩) _ rfl _ _ rfl rfl HOA HLN rfl HCE (by intro u hu; simp [cellsPt] at hu; rcases hu with rfl | rfl | rfl | rfl | rfl | rfl | rfl <;> rfl) HVN HBA ?_))
      intro va' vc' w6 HO6 HK6
      go_wp2_with fail
      refine ⟨⟨va', vn + 1, vc', rfl, (unhide HZF).fin (unhide HO6) (unhide HK6) (unhide HLN) ?_⟩, by simp; omega⟩
      have hex := unhide HEX
      cases h1 : takeT cur with
      | none =>
        rw [h1] at HTX
        have h2 : s2 = .error 40 := unhide HTX
        subst h2
        exact Or.inr ⟨40, rfl, rd_err (unhide HTK) (by omega) (by simp [takeV, h1, liftO])⟩
      | some y =>
        obtain ⟨tx', r⟩ := y
        rw [h1] at HTX
        obtain ⟨h2, h3⟩ : tx = tx' ∧ s2 = .ok r := unhide HTX
        subst h2 h3
        have hl := takeT_len h1
        refine Or.inl ⟨g', r, _, rfl, ⟨⟨⟨by simp [hd0], by simp [hd0], by simp [hd0], by simp [hd0], by simp [hd0], by simp [hd0], by simp [hd0], unhide HT256⟩, rfl⟩, hex, RowPS.nil _ _⟩, rowE_snoc _ (unhide HROW) ?_ rfl, by omega, by omega, by omega, rd_ok (h := { hd0 6 with text := tx }) (p := .nil) (unhide HTK) (by omega) (by simp [takeV, h1, liftO])⟩
        simp [partH, hd0]
    · have z0' : X.cell? ⟨xn, 0, none⟩ = some (.int .i64 7) := z0
      clear z0 hk0 hk7
      have z0 := z0'
      clear z0'
      by_cases hd16 : d = 16
      · have HRES : Hid (rowD d (takeR F t d) = .error 41) := rd_err (unhide HTK) (by omega) (by simp [takeV, takeU, hd16, liftU])
        have t1 : ((d : Int) == 16) = true := by simp; omega
        go_wp2_with fail
        go_ret
        refine ⟨none, 0, 0, rfl, ?_, ((unhide HZ).fault 41 (by omega) (by omega)).kept⟩
        rw [unhide HRES]
        exact ((unhide HZ).fault 41 (by omega) (by omega)).rdg
      · have t1 : ((d : Int) == 16) = false := by simp; omega
        have e1 : IntKind.i64.wrap ((d : Int) + 1) = (d : Int) + 1 := by rw [IntKind.wrap_i64]; omega
        have HNX2 := hide (unhide HIH g' (by omega) X b V bs cur (d + 1) (unhide HZ).rdg (by omega) (by omega))
        rw [show ((d + 1 : Nat) : Int) = (d : Int) + 1 by omega] at HNX2
        have HUD := hide (takeU_rowD (takeR g' cur (d + 1)) d hd16)
        have HLE : Hid (∀ r x, rowD (d + 1) (takeR g' cur (d + 1)) = .ok (r, x) → x.length ≤ cur.length) := by
          intro r x hx
          rw [← unhide HUD] at hx
          obtain ⟨_, y, hy⟩ := takeU_ok hx
          have := takeR_len hy
          simp at this
          omega
        have HVV : Hid (takeV (takeR g' cur (d + 1)) 7 cur d = liftU (rowD (d + 1) (takeR g' cur (d + 1)))) := by
          unfold Hid
          unfold takeV
          rw [if_neg (by omega), if_neg (by omega), if_neg (by omega), if_neg (by omega), if_neg (by omega), if_neg (by omega), if_pos rfl, unhide HUD]
        generalize hrd : rowD (d + 1) (takeR g' cur (d + 1)) = rd at *
        clear hrd HUD
        cases rd with
        | error er =>
          have HRES : Hid (rowD d (takeR F t d) = .error er) := rd_err (unhide HTK) (by omega) (unhide HVV)
          go_upto_region 30 with (first | (go_at_call 33; refine (unhide HNX2).mono ?_; rintro e w2 ⟨qa, qn, qc, rfl, hr3, hk2⟩; have hr2 : Rdg w2 b V bs (.error er) := hr3; clear hr3; have HZ2 := hide ((unhide HZ).call hk2 hr2); have HB2 := hide ((unhide HZ).blk (unhide HBX) hk2); have hb2 := hr2.b; clear z0 z1 z2 z3 z4 z5 z6 fx c2 f2 hb1; obtain ⟨z0, z1, z2, z3, z4, z5, z6⟩ := blk7 (unhide HB2); have fx := (unhide HB2).frozen; clear hr2 hk2 HNX2))
          refine world_at (R := fun Y => RdZ w b V bs va vn vc l xn (.error er) Y ∧ Blk Y xn #[.int .i64 7, .bool false, .int .i64 0, .int .u64 0, .int .u64 0, .slice none 0 0, .slice qa qn qc] 62) ⟨(unhide HZ2).set 6 _, (unhide HB2).set 6 _⟩ ?_
          clear z0 z1 z2 z3 z4 z5 z6 fx
          rintro Y ⟨hzf, hbf⟩
          obtain ⟨z0, z1, z2, z3, z4, z5, z6⟩ := blk7 hbf
          have HZF := hide hzf
          have HOA := hide (hzf.own.kept (F := []) ((Kept.refl [] Y).alloc (.cells #[.int .i64 7, .bool false, .int .i64 0, .int .u64 0, .int .u64 0, .slice none 0 0, .slice qa qn qc] 62)) (by simp))
          have HCE := hide (cells_seven_new Y (.int .i64 7) (.bool false) (.int .i64 0) (.int .u64 0) (.int .u64 0) (.slice none 0 0) (.slice qa qn qc) 62)
          have HBA : Hid (w.heap.size ≤ (Y.alloc (.cells #[.int .i64 7, .bool false, .int .i64 0, .int .u64 0, .int .u64 0, .slice none 0 0, .slice qa qn qc] 62)).heap.size) := (hzf.kept.alloc _).size
          clear hzf hbf
          go_wp2_with (first | (at_builtin; refine wpList_append_part (e := ⟨hd0 7, .slice none 0 0, .slice qa qn qc, .nil⟩) _ rfl _ _ rfl rfl HOA HLN rfl HCE (by intro u hu; simp [cellsPt] at hu; rcases hu with rfl | rfl | rfl | rfl | rfl | rfl | rfl <;> rfl) HVN HBA ?_))
          intro va' vc' w6 HO6 HK6
          go_wp2_with fail
          refine ⟨⟨va', vn + 1, vc', rfl, (unhide HZF).fin (unhide HO6) (unhide HK6) (unhide HLN) ?_⟩, by simp; omega⟩
          exact Or.inr ⟨er, rfl, unhide HRES⟩
        | ok rr =>
          obtain ⟨r, rest⟩ := rr
          have hle := unhide HLE r rest rfl
          have HT2 := hide (rd_ok (unhide HTK) (by omega) (unhide HVV))
          go_upto_region 30 with (first | (go_at_call 33; refine (unhide HNX2).mono ?_; rintro e w2 ⟨qa, qn, qc, rfl, ⟨hr2, hps⟩, hk2⟩; have HZ2 := hide ((unhide HZ).call hk2 hr2); have HB2 := hide ((unhide HZ).blk (unhide HBX) hk2); have hb2 := hr2.b; clear z0 z1 z2 z3 z4 z5 z6 fx c2 f2 hb1; obtain ⟨z0, z1, z2, z3, z4, z5, z6⟩ := blk7 (unhide HB2); have fx := (unhide HB2).frozen; have HPS := hide (rd_parts (unhide HZ) (unhide HBX) hps); clear hps; clear hr2 hk2 HNX2))
          refine world_at (R := fun Y => RdZ w b V bs va vn vc l xn (.ok rest) Y ∧ Blk Y xn #[.int .i64 7, .bool false, .int .i64 0, .int .u64 0, .int .u64 0, .slice none 0 0, .slice qa qn qc] 62 ∧ RowPS (fun x => w.heap.size ≤ x ∧ (Value.slice va vn vc).ownBlock ≠ some x) Y (.slice qa qn qc) (partR r)) ⟨(unhide HZ2).set 6 _, (unhide HB2).set 6 _, unhide HPS⟩ ?_
          clear z0 z1 z2 z3 z4 z5 z6 fx
          rintro Y ⟨hzf, hbf, hex⟩
          obtain ⟨z0, z1, z2, z3, z4, z5, z6⟩ := blk7 hbf
          have HZF := hide hzf
          have HEX := hide hex
          clear hex
          have HOA := hide (hzf.own.kept (F := []) ((Kept.refl [] Y).alloc (.cells #[.int .i64 7, .bool false, .int .i64 0, .int .u64 0, .int .u64 0, .slice none 0 0, .slice qa qn qc] 62)) (by simp))
          have HCE := hide (cells_seven_new Y (.int .i64 7) (.bool false) (.int .i64 0) (.int .u64 0) (.int .u64 0) (.slice none 0 0) (.slice qa qn qc) 62)
          have HBA : Hid (w.heap.size ≤ (Y.alloc (.cells #[.int .i64 7, .bool false, .int .i64 0, .int .u64 0, .int .u64 0, .slice none 0 0, .slice qa qn qc] 62)).heap.size) := (hzf.kept.alloc _).size
          clear hzf hbf
          go_wp2_with (first | (at_builtin; refine wpList_append_part (e := ⟨hd0 7, .slice none 0 0, .slice qa qn qc, partR r⟩) _ rfl _ _ rfl rfl HOA HLN rfl HCE (by intro u hu; simp [cellsPt] at hu; rcases hu with rfl | rfl | rfl | rfl | rfl | rfl | rfl <;> rfl) HVN HBA ?_))
          intro va' vc' w6 HO6 HK6
          go_wp2_with fail
          refine ⟨⟨va', vn + 1, vc', rfl, (unhide HZF).fin (unhide HO6) (unhide HK6) (unhide HLN) ?_⟩, by simp; omega⟩
          exact Or.inl ⟨g', rest, _, rfl, ⟨⟨hd0_ok 7 (by omega) (by omega), rfl⟩, SeesIn.none _ _, unhide HEX⟩, rowE_snoc _ (unhide HROW) (partH_hd0 7).symm rfl, by omega, by omega, by omega, unhide HT2⟩
end Go.Proofs.Ytigmofbammofbaa
