/- Read: rows taken up, a table out of bytes. -/
import Derived.Test.YtkejpbfbpomjfabCRdPZ
import Derived.Maps.OwnSet
import Derived.Deep.DeepCutAuto
import Derived.Deep.RegionWith
namespace Go.Proofs.Ytkejpbfbpomjfab.tre
open Go.RowKit
set_option linter.unusedVariables false

/-- the revisions that came, as a map's keys -/
def seenL (seen : List Nat) : List Lit := seen.reverse.map fun (n : Nat) => .int .u64 (n : Int)
def seenD (seen : List Nat) : DataW Unit := Go.Maps.setOf (.agg []) (seenL seen)
theorem seenD_cons (n : Nat) (seen : List Nat) : seenD (n :: seen) = (seenD seen).put (.int .u64 (n : Int)) (.agg []) := by
  unfold seenD seenL
  rw [List.reverse_cons, List.map_append, List.map_cons, List.map_nil, Go.Maps.setOf_snoc]
theorem wfU {n : Nat} (h : n < 18446744073709551616) : (Lit.int .u64 (n : Int)).wf = true := by
  simp [Lit.wf]
  have h1 : IntKind.u64.min = 0 := rfl
  have h2 : IntKind.u64.max = 18446744073709551615 := rfl
  omega
theorem has_seen (seen : List Nat) (n : Nat) : Go.Maps.has (seenD seen) (.int .u64 (n : Int)) = decide (n ∈ seen) := by
  unfold seenD
  rw [Go.Maps.has_setOf _ _ _ (fun x hx => by
    unfold seenL at hx
    obtain ⟨m, hm, rfl⟩ := List.mem_map.1 hx
    trivial)]
  unfold seenL
  rw [Bool.eq_iff_iff, List.any_eq_true]
  constructor
  · rintro ⟨y, hy, he⟩
    obtain ⟨m, hm, rfl⟩ := List.mem_map.1 hy
    have h1 := Go.WideAt.sameKey_eq he
    simp only [Lit.int.injEq, true_and] at h1
    have h2 : m = n := by omega
    subst h2
    simpa using hm
  · intro h
    refine ⟨_, List.mem_map.2 ⟨n, by simpa using h, rfl⟩, Go.WideAt.sameKey_self trivial⟩
theorem map_keep {F : List Nat} {X Y : World} {k : TypeId} {R : Value → Option (DataW Unit × List MemPlace)} {b n : Nat} {D : DataW Unit} (h : X.ownsMap Try.prog k R b n D) (hk : Kept F X Y) (hb : b ∉ F) : Y.ownsMap Try.prog k R b n D := by
  obtain ⟨es, clock, h1, h2⟩ := h
  exact ⟨es, clock, (hk.block b (Array.getElem?_eq_some_iff.1 h1).1 hb).trans h1, h2⟩
theorem kept_grown {X Y : World} {B : Nat} (h : X.grownBy Y (some B)) : Kept [B] X Y := ⟨h.os, h.tape, h.output, h.size, fun k hk hn => h.block k hk (fun e => hn (by cases e; simp))⟩
theorem map_off {X : World} {k : TypeId} {R : Value → Option (DataW Unit × List MemPlace)} {b n : Nat} {D : DataW Unit} (h : X.ownsMap Try.prog k R b n D) : Off X [b] := by
  obtain ⟨es, clock, h1, -⟩ := h
  intro x hx cs
  rw [List.mem_singleton] at hx
  subst hx
  unfold Blk
  rw [h1]
  constructor <;> intro e <;> cases e
theorem rs_off {X : World} {r : Nat} {F : List Nat} {s : RS} (h : Go.Proofs.Ytkejpbfbpomjfab.Rs X r F s) : Off X [r] := by
  rcases h with ⟨_, h2, _⟩ | ⟨_, _, _, lv, bv, hs, D, h2, _⟩
  · exact off_ty (show Blk X r _ _ from h2) (by decide) (by decide)
  · exact off_ty h2.rd.blk (by decide) (by decide)
/-- rows being taken up -/
structure TkS (w X : World) (b r bm : Nat) (F0 : List Nat) (rev : Nat) (p : List Nat) (x : RdS) : Prop where
  tab : Tab X b ⟨x.t, rev⟩
  rd : ∃ F, Go.Proofs.Ytkejpbfbpomjfab.Rs X r F x.s ∧ ∀ y ∈ F, y ∈ F0
  map : X.ownsMap Try.prog 62 unitElem bm x.seen.length (seenD x.seen)
  ri : RI rev p x
  kp : Kept [b, r] w X
def TkOut (w : World) (b r : Nat) (F0 : List Nat) (rev : Nat) (o : Option RdS) (e : Ending) (w' : World) : Prop :=
  Kept [b, r] w w' ∧ ((o = none ∧ e = .returned (.bool false)) ∨ ∃ y, o = some y ∧ e = .returned (.bool true) ∧ Tab w' b ⟨y.t, rev⟩ ∧ ∃ F, Go.Proofs.Ytkejpbfbpomjfab.Rs w' r F y.s ∧ ∀ z ∈ F, z ∈ F0)
theorem TkS.next {w X Z w1 w5 : World} {b r bm : Nat} {F0 : List Nat} {rev : Nat} {p : List Nat} {x : RdS} {K V : ByteArray} {R : Nat} {o : Obj} (h : TkS w X b r bm F0 rev p x) (hkZ : Kept [r] X Z) (hrd : ∃ F, Go.Proofs.Ytkejpbfbpomjfab.Rs Z r F (rR x.s).1 ∧ ∀ y ∈ F, y ∈ F0) (hg : rdGood rev x) (hrev : rev ≤ 1099511627776)
    (hN : rdNext x = ⟨(rR x.s).1, setT x.t K (V, (R : Int)), K, R :: x.seen⟩) (hk1 : Kept [bm] (Z.alloc o) w1) (hmap : w1.ownsMap Try.prog 62 unitElem bm (x.seen.length + 1) ((seenD x.seen).put (.int .u64 (R : Int)) (.agg []))) (hk5 : Kept [b] w1 w5) (htab : Tab w5 b ⟨setT x.t K (V, (R : Int)), rev⟩)
    (hb : b ∉ F0) (hF0 : ∀ y ∈ F0, y < w.heap.size) (hbl : b < w.heap.size) (hbm : w.heap.size = bm) : TkS w w5 b r bm F0 rev p (rdNext x) := by
  have hri := (h.ri.next hrev hg).1
  obtain ⟨F, g1, g2⟩ := hrd
  refine ⟨by rw [hN]; exact htab, ⟨F, ?_, g2⟩, ?_, hri, ?_⟩
  · show Go.Proofs.Ytkejpbfbpomjfab.Rs w5 r F (rR x.s).1
    refine ((g1.kept ((Kept.refl [] Z).alloc o) (by simp)).kept hk1 (fun y hy hm => ?_)).kept hk5 (fun y hy hm => ?_)
    · have := hF0 y (g2 y hy); simp at hm; omega
    · simp at hm; subst hm; exact hb (g2 _ hy)
  · rw [hN]
    simp only [List.length_cons, seenD_cons]
    exact map_keep hmap hk5 (by simp; omega)
  · exact ((((h.kp.trans hkZ (by simp)).alloc o)).trans hk1 (fun y hy => by simp at hy; subst hy; right; omega)).trans hk5 (by simp)
theorem rd_bad {rev n k : Nat} {x : RdS} (hk : k < n) (h : ¬ rdGood rev x) : rdRows rev (n - k) x = none := by
  obtain ⟨m, hm⟩ : ∃ m, n - k = m + 1 := ⟨n - k - 1, by omega⟩
  rw [hm]
  unfold rdRows
  rw [if_neg h]
theorem rd_good {rev n k : Nat} {x : RdS} (hk : k < n) (h : rdGood rev x) : rdRows rev (n - k) x = rdRows rev (n - (k + 1)) (rdNext x) := by
  obtain ⟨m, hm⟩ : ∃ m, n - k = m + 1 := ⟨n - k - 1, by omega⟩
  rw [hm, show n - (k + 1) = m by omega]
  conv => lhs; unfold rdRows
  rw [if_pos h]
theorem TkOut.no {w W X : World} {b r bm rev : Nat} {F0 p : List Nat} {x : RdS} {o : Option RdS} (h : TkS w X b r bm F0 rev p x) (hk : Kept [r] X W) (ho : o = none) : TkOut w b r F0 rev o (.returned (.bool false)) W := ⟨h.kp.trans hk (by simp), Or.inl ⟨ho, rfl⟩⟩
theorem rtext_k {w : World} {r : Nat} {F : List Nat} {s : RS} (h : Go.Proofs.Ytkejpbfbpomjfab.Rs w r F s) : Calls Try.prog 50 #[.pointer (some ⟨r, 0, none⟩), .int .i64 64] w fun e w' => NewB w (rK s).2 e w' ∧ RsQ w r F (rK s).1 w' := rtext_q h 64 (by omega)
theorem rtext_v {w : World} {r : Nat} {F : List Nat} {s : RS} (h : Go.Proofs.Ytkejpbfbpomjfab.Rs w r F (rK s).1) : Calls Try.prog 50 #[.pointer (some ⟨r, 0, none⟩), .int .i64 256] w fun e w' => NewB w (rV s).2 e w' ∧ RsQ w r F (rV s).1 w' := rtext_q h 256 (by omega)
theorem rnum_r {w : World} {r : Nat} {F : List Nat} {s : RS} (h : Go.Proofs.Ytkejpbfbpomjfab.Rs w r F (rV s).1) : Calls Try.prog 31 #[.pointer (some ⟨r, 0, none⟩)] w fun e w' => e = .returned (.int .u64 ((rR s).2 : Nat)) ∧ RsQ w r F (rR s).1 w' := rnum_q h
theorem zeroU (w : World) : (zeroValue 88).run Try.prog w = .ok (.agg #[]) w := by kernel_rfl
theorem lawU : Go.Maps.Keyed Try.prog 62 := Go.Maps.int_keyed Try.underlying62
set_option maxRecDepth 100000 in
set_option maxHeartbeats 4000000 in
theorem take_any {w : World} {b r : Nat} {F0 : List Nat} {rev : Nat} {s0 : RS} {p : List Nat} (ht : Tab w b ⟨.nil, rev⟩) (hs : Go.Proofs.Ytkejpbfbpomjfab.Rs w r F0 s0) (hb : b ∉ F0) (hrev : rev ≤ 1099511627776) (hi : RI rev p ⟨s0, .nil, ByteArray.empty, []⟩) (n : Nat) (hn : n < 18446744073709551616) :
    Calls Try.prog 32 #[.pointer (some ⟨b, 0, none⟩), .pointer (some ⟨r, 0, none⟩), .int .u64 (n : Int)] w (TkOut w b r F0 rev (rdRows rev n ⟨s0, .nil, ByteArray.empty, []⟩)) := by
  have hrF := hs.mem
  have hF0 := hs.lt
  have hbl : b < w.heap.size := by obtain ⟨q0, hb0, -⟩ := ht; exact hb0.lt
  have hrl : r < w.heap.size := hF0 r hrF
  have hbr : b ≠ r := fun e => hb (e ▸ hrF)
  have HB := hide hb
  have HF0 := hide hF0
  have hmm := @run_makeMap Try.prog
  have HST : Hid (TkS w (w.alloc (.map #[] 0)) b r w.heap.size F0 rev p ⟨s0, .nil, ByteArray.empty, []⟩) := ⟨ht.kept ((Kept.refl [] w).alloc _), ⟨F0, hs.kept ((Kept.refl [] w).alloc _) (by simp), fun y hy => hy⟩, World.ownsMap_made _ _ _ _, hi, (Kept.refl [b, r] w).alloc _⟩
  obtain ⟨O, hO⟩ : ∃ O, rdRows rev n ⟨s0, .nil, ByteArray.empty, []⟩ = O := ⟨_, rfl⟩
  have HO := hide hO
  rw [hO]
  clear hO ht hs hi hb hF0
  obtain ⟨bm, hbm⟩ : ∃ m, w.heap.size = m := ⟨_, rfl⟩
  have HBM := hide hbm
  go_enter Try.func32, Try.ntmps32
  go_wp2_with fail
  go_loopw [7, 16] (fun l i X => ∃ (k : Nat) (x : RdS), k ≤ n ∧ l = .string x.last ∧ i = .int .u64 (k : Int) ∧ Hid (TkS w X b r bm F0 rev p x) ∧ Hid (rdRows rev (n - k) x = O)) (fun _ i _ => n - (intOf i).toNat)
  case atStart => exact ⟨0, _, by omega, rfl, rfl, by rw [← unhide HBM]; exact HST, HO⟩
  case round =>
    obtain ⟨k, x, hkn, rfl, rfl, HS, HR⟩ := hrel
    obtain ⟨F, hrs, hFF⟩ := (unhide HS).rd
    have HRS := hide hrs
    have HFF := hide hFF
    clear hrs hFF
    by_cases hlt : k < n
    · have t1 : ((k : Int) < (n : Int)) = True := by simp [hlt]
      obtain ⟨K, hK⟩ : ∃ K, strB (rK x.s).2 = K := ⟨_, rfl⟩
      obtain ⟨V, hV⟩ : ∃ K, strB (rV x.s).2 = K := ⟨_, rfl⟩
      obtain ⟨R, hR⟩ : ∃ K, (rR x.s).2 = K := ⟨_, rfl⟩
      have HK := hide hK
      have HV := hide hV
      have HRR := hide hR
      clear hK hV hR
      go_upto_region 5 with fail
      go_cut [9, 10, 11] (fun t9 t10 t11 wc => ∃ Z, Z = wc ∧ t9 = .string K ∧ t10 = .string V ∧ t11 = .int .u64 (R : Int) ∧ Hid (∃ F', Go.Proofs.Ytkejpbfbpomjfab.Rs Z r F' (rR x.s).1 ∧ ∀ y ∈ F', y ∈ F0) ∧ Hid (Kept [r] wr Z))
      case first =>
        have HT1 : Hid (∀ W, Kept [] wr W → _) := hide (fun W (hk : Kept [] wr W) => rtext_k ((unhide HRS).kept hk (by simp)))
        have HRX := hide ((unhide HRS).lt r (unhide HRS).mem)
        go_region_with (first
          | (go_at_call 50; refine (unhide HT1 _ (by first | exact Kept.refl _ _ | exact (Kept.refl _ _).drew)).mono ?_; rintro e w3 ⟨⟨a3, c3, rfl, ho3⟩, F3, hr3, hk3, hf3⟩
             have HO3 := hide ho3
             have HR3 := hide hr3
             have HK3 : Hid (Kept [r] wr w3) := hide ((((Kept.refl [] wr).drew).mono (by simp)).trans hk3 (by simp))
             have HF3 := hide hf3
             have hc3 := conv_wide (Or.inl (Sees.of_own ho3))
             rw [unhide HK] at hc3
             have HN3 : Hid (∀ g, (Value.slice a3 (rK x.s).2.length c3).ownBlock = some g → g ≠ r) := fun g hg => by have h1 := (ho3.lt g hg).1; have h2 := unhide HRX; have h3 : (World.heap (World.drew wr)).size = wr.heap.size := rfl; omega
             clear ho3 hr3 hk3 hf3 HT1)
          | (go_at_call 50; refine (rtext_v (unhide HR3)).mono ?_; rintro e w4 ⟨⟨a4, c4, rfl, ho4⟩, F4, hr4, hk4, hf4⟩
             have ho3 := own_kept (unhide HO3) hk4 (fun g hg => by simpa using unhide HN3 g hg)
             have HO34 := hide ho3
             have HO4 := hide ho4
             have HR4 := hide hr4
             have HK4 := hide ((unhide HK3).trans hk4 (by simp))
             have HF4 := hide (fun y hy => unhide HF3 y (hf4 y hy))
             have hc34 := conv_wide (Or.inl (Sees.of_own ho3))
             rw [unhide HK] at hc34
             have hc4 := conv_wide (Or.inl (Sees.of_own ho4))
             rw [unhide HV] at hc4
             have HN4 : Hid (∀ g, (Value.slice a4 (rV x.s).2.length c4).ownBlock = some g → g ≠ r) := fun g hg => by have h1 := (ho4.lt g hg).1; have h2 := unhide HRX; have h3 := (unhide HK3).size; omega
             clear ho3 ho4 hr4 hk4 hf4 HR3)
          | (go_at_call 31; refine (rnum_r (unhide HR4)).mono ?_; rw [unhide HRR]; rintro e w5 ⟨rfl, F5, hr5, hk5, hf5⟩
             have HR5 := hide hr5
             have HK5 := hide ((unhide HK4).trans hk5 (by simp))
             have HF5 := hide (fun y hy => unhide HFF y (unhide HF4 y (hf5 y hy)))
             have hc35 := conv_wide (Or.inl (Sees.of_own (own_kept (unhide HO34) hk5 (fun g hg => by simpa using unhide HN3 g hg))))
             rw [unhide HK] at hc35
             have hc45 := conv_wide (Or.inl (Sees.of_own (own_kept (unhide HO4) hk5 (fun g hg => by simpa using unhide HN4 g hg))))
             rw [unhide HV] at hc45
             clear hr5 hk5 hf5 HR4))
        all_goals
          go_wp2_with fail
          go_meet
          exact ⟨_, rfl, rfl, rfl, rfl, hide ⟨_, unhide HR5, unhide HF5⟩, HK5⟩
      case rest =>
        obtain ⟨Z, rfl, rfl, rfl, rfl, HRD, HKZ⟩ := hcut
        have HTAB := hide ((unhide HS).tab.keep (unhide HKZ) (by simpa using hbr) (rs_off (unhide HRS)))
        have hrm : bm ≠ r := by have := unhide HBM; omega
        have HMAP := hide (map_keep (unhide HS).map (unhide HKZ) (by simpa using hrm))
        obtain ⟨q, hbb, -⟩ := unhide HTAB
        obtain ⟨c0, c1, c2⟩ := box3 hbb
        have hwr : IntKind.u64.wrap (rev : Int) = (rev : Int) := by rw [IntKind.wrap_u64]; omega
        have hwk : IntKind.u64.wrap ((k : Int) + 1) = (k : Int) + 1 := by rw [IntKind.wrap_u64]; omega
        clear hbb hrm
        by_cases hg1 : KOrd.lt x.last K = true
        · have l1 : Op.bytesLess x.last.toList K.toList = true := hg1
          have l2 : Op.bytesLess K.toList x.last.toList = false := bl_asym _ _ l1
          have l3 : (K.toList == x.last.toList) = false := by
            cases he : (K.toList == x.last.toList) with
            | false => rfl
            | true => rw [beq_iff_eq] at he; rw [he, bl_irr] at l1; cases l1
          have HG1 := hide hg1
          clear hg1
          by_cases hg2 : 1 ≤ R
          · have m1 : ((R : Int) < 1) = False := by simp; omega
            have m2 : (R < 1) = False := by simp; omega
            have m3 : (R = 0) = False := by simp; omega
            by_cases hg3 : R ≤ rev
            · have m4 : ((rev : Int) < (R : Int)) = False := by simp; omega
              have m5 : (rev < R) = False := by simp; omega
              have HKEY : keyOf Try.prog 62 (.int .u64 (R : Int)) = some (.int .u64 (R : Int)) := Go.Maps.keyOf_int_mk Try.underlying62 (wfU (by omega))
              by_cases hg4 : R ∈ x.seen
              · have hhas : Go.Maps.has (seenD x.seen) (.int .u64 (R : Int)) = true := by rw [has_seen]; simpa using hg4
                have HG4 := hide hg4
                clear hg4
                go_wp2_with (first
                  | (at_lookup; refine Go.wpList_lookup_own_unit _ rfl _ _ 86 rfl 62 88 lawU Try.underlying86 (zeroU _) bm _ _ rfl (unhide HMAP) _ _ rfl HKEY ?_)
                  | fail)
                go_ret
                exact TkOut.no (unhide HS) (by first | exact unhide HKZ | exact (unhide HKZ).alloc _) ((unhide HR).symm.trans (rd_bad hlt (fun g => by have := g.2.2.2; rw [unhide HRR] at this; exact this (unhide HG4))))
              · have hhas : Go.Maps.has (seenD x.seen) (.int .u64 (R : Int)) = false := by rw [has_seen]; simpa using hg4
                have hG : rdGood rev x := ⟨by rw [unhide HK]; exact unhide HG1, by rw [unhide HRR]; exact hg2, by rw [unhide HRR]; exact hg3, by rw [unhide HRR]; exact hg4⟩
                obtain ⟨-, -, hsz, hrw⟩ := (unhide HS).ri.next hrev hG
                rw [unhide HK, unhide HV, unhide HRR] at hrw
                have hsl : x.seen.length ≤ 1099511627776 := by have := (unhide HS).ri.size.2; omega
                have hwR : IntKind.i64.wrap (R : Int) = (R : Int) := by rw [IntKind.wrap_i64]; omega
                have hN : rdNext x = ⟨(rR x.s).1, setT x.t K (V, (R : Int)), K, R :: x.seen⟩ := by unfold rdNext; rw [unhide HK, unhide HV, unhide HRR]
                have HPUT := fun W (hT : Tab W b ⟨x.t, rev⟩) => hide (tput_any hT (unhide HS).ri.rok K (V, (R : Int)) hrw hsz)
                have HGG := hide hG
                have HNN := hide hN
                have hbb2 : b ≠ bm := by have := unhide HBM; omega
                have HBB2 := hide hbb2
                clear hg4 hG hN hrw hsz hbb2
                go_wp2_with (first
                  | (at_lookup; refine Go.wpList_lookup_own_unit _ rfl _ _ 86 rfl 62 88 lawU Try.underlying86 (zeroU _) bm _ _ rfl (unhide HMAP) _ _ rfl HKEY ?_)
                  | (at_mapUpdate; refine Go.wpList_mapUpdate_own _ rfl _ _ _ 86 rfl 62 88 lawU Try.underlying86 unitElem bm _ _ rfl ((unhide HMAP).alloc _) (by unfold maxLen; omega) _ _ (.int .u64 (R : Int)) rfl rfl HKEY (.agg []) [] unitElem_mk ?_
                     intro w1 hown1 hgrow1
                     have HM1 := hide hown1
                     have HK1 := hide (kept_grown hgrow1)
                     have HT1 := hide (Tab.keep ((unhide HTAB).kept ((Kept.refl [] Z).alloc (.cells #[] 88))) (kept_grown hgrow1) (by simpa using unhide HBB2) (map_off ((unhide HMAP).alloc _)))
                     clear hown1 hgrow1)
                  | (go_at_call 51; refine (unhide (HPUT _ (unhide HT1))).mono ?_; rintro e w5 ⟨rfl, ht5, hk5⟩; have HT5 := hide ht5; have HK5 := hide hk5; clear ht5 hk5)
                  | fail)
                refine ⟨⟨k + 1, rdNext x, by omega, by rw [unhide HNN], by simp, hide (TkS.next (unhide HS) (unhide HKZ) (unhide HRD) (unhide HGG) hrev (unhide HNN) (unhide HK1) (unhide HM1) (unhide HK5) (unhide HT5) (unhide HB) (unhide HF0) hbl (unhide HBM)), hide (by rw [← rd_good hlt (unhide HGG)]; exact unhide HR)⟩, by simp [intOf]; omega⟩
            · have m4 : ((rev : Int) < (R : Int)) = True := by simp; omega
              have m5 : (rev < R) = True := by simp; omega
              go_wp2_with fail
              go_ret
              exact TkOut.no (unhide HS) (by first | exact unhide HKZ | exact (unhide HKZ).alloc _) ((unhide HR).symm.trans (rd_bad hlt (fun g => by have := g.2.2.1; rw [unhide HRR] at this; exact hg3 this)))
          · obtain rfl : R = 0 := by omega
            go_wp2_with fail
            go_ret
            exact TkOut.no (unhide HS) (by first | exact unhide HKZ | exact (unhide HKZ).alloc _) ((unhide HR).symm.trans (rd_bad hlt (fun g => by have := g.2.1; rw [unhide HRR] at this; omega)))
        · have HNO : Hid (O = none) := (unhide HR).symm.trans (rd_bad hlt (fun g => by have := g.1; rw [unhide HK] at this; exact hg1 this))
          rcases Bool.eq_false_or_eq_true (KOrd.lt K x.last) with h1 | h1
          · have l2 : Op.bytesLess K.toList x.last.toList = true := h1
            clear hg1 h1
            go_wp2_with fail
            go_ret
            exact TkOut.no (unhide HS) (by first | exact unhide HKZ | exact (unhide HKZ).alloc _) (unhide HNO)
          · have he : x.last = K := klt_tri (by simpa using hg1) h1
            have l2 : Op.bytesLess K.toList x.last.toList = false := h1
            have l3 : (K.toList == x.last.toList) = true := by rw [he]; simp
            clear hg1 h1 he
            go_wp2_with fail
            go_ret
            exact TkOut.no (unhide HS) (by first | exact unhide HKZ | exact (unhide HKZ).alloc _) (unhide HNO)
    · obtain rfl : k = n := by omega
      have t1 : ((k : Int) < (k : Int)) = False := by simp
      have HO2 : Hid (O = some x) := by
        have := unhide HR
        rw [Nat.sub_self] at this
        exact this.symm
      go_wp2_with fail
      go_ret
      exact ⟨(unhide HS).kp, Or.inr ⟨x, unhide HO2, rfl, (unhide HS).tab, (unhide HS).rd⟩⟩
end Go.Proofs.Ytkejpbfbpomjfab.tre
