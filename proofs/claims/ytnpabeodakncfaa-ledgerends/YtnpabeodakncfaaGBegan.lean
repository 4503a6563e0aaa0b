/- began. -/
import Derived.Test.YtnpabeodakncfaaGNag
import Derived.Test.YtnpabeodakncfaaGKey
namespace Go.Proofs.Ytnpabeodakncfaa
open Go.RowKit

/-- the first row -/
def row0 (h : Nat) (k : Nat) : List Ld := (List.range k).map (fun i : Nat => bgn (i : Int) (h : Int))
theorem row0_len (h k : Nat) : (row0 h k).length = k := by simp [row0]
theorem row0_next (h k : Nat) : row0 h (k + 1) = row0 h k ++ [bgn (k : Int) (h : Int)] := by simp [row0, List.range_succ]
theorem infoLed3 : (Try.prog.info? 25).map (fun i => (i.zero, i.size, i.bytes)) = some (some (.agg #[.int .i64 0, .int .i64 0, .int .i64 0]), 3, 24) := by kernel_rfl
theorem app_led {w : World} {v : Value} {xs : List Ld} (h : w.ownsRow 0 25 3 v xs.length (xs.flatMap lc)) (l : Ld) (hl : xs.length + 1 ≤ 4398046511104) (ty : TypeId) :
    ∃ a' cap' w', (Builtin.append_ #[40, 40] ty #[v, .slice (some ⟨w.heap.size, 0, none⟩) 1 1]).run Try.prog (w.alloc (.cells #[.int .i64 l.ph, .int .i64 l.ep, .int .i64 l.pe] 25)) = .ok (.slice a' (xs.length + 1) cap') w' ∧ w'.ownsRow 0 25 3 (.slice a' (xs.length + 1) cap') (xs ++ [l]).length ((xs ++ [l]).flatMap lc) ∧
      Kept v.ownBlock.toList w w' ∧ ((Value.slice a' (xs.length + 1) cap').ownBlock = v.ownBlock ∨ ∃ z, (Value.slice a' (xs.length + 1) cap').ownBlock = some z ∧ w.heap.size ≤ z) := by
  obtain ⟨i0, hi, hz0, hz1, hz2⟩ := info_parts infoLed3
  have hk0 : Kept [] w (w.alloc (.cells #[.int .i64 l.ph, .int .i64 l.ep, .int .i64 l.pe] 25)) := (Kept.refl [] w).alloc _
  have hb : Blk (w.alloc (.cells #[.int .i64 l.ph, .int .i64 l.ep, .int .i64 l.pe] 25)) w.heap.size #[.int .i64 l.ph, .int .i64 l.ep, .int .i64 l.pe] 25 := Blk.new w _ _
  have hsz : (w.alloc (.cells #[.int .i64 l.ph, .int .i64 l.ep, .int .i64 l.pe] 25)).heap.size = w.heap.size + 1 := by simp
  have ho := own_kept h hk0 (by simp)
  generalize (w.alloc (.cells #[.int .i64 l.ph, .int .i64 l.ep, .int .i64 l.pe] 25)) = W at *
  obtain ⟨v', w', hr, h2, h3, _, h5⟩ := run_append_own_at (P := Try.prog) W 0 40 ty 25 i0 _ 3 24 Try.underlying40 hi hz0 hz1 hz2 rfl (by decide) v xs.length (xs.flatMap lc) ho ⟨w.heap.size, 0, none⟩ 1 1 (lc l) rfl (fun j u hu => by
    have hadd : (⟨w.heap.size, 0, none⟩ : Addr).add j = ⟨w.heap.size, j, none⟩ := by unfold Addr.add; split <;> simp_all
    rw [hadd, hb.cell]
    show (lc l).toArray[j]? = some u
    rw [List.getElem?_toArray]
    exact hu) (by intro u hu; simp [lc] at hu; rcases hu with rfl | rfl | rfl <;> rfl) (by unfold maxLen; omega) (by omega) (Nat.zero_le _)
  have hfl : (xs ++ [l]).flatMap lc = xs.flatMap lc ++ lc l := by simp
  have hln : (xs ++ [l]).length = xs.length + 1 := by simp
  obtain ⟨a', c', rfl⟩ := own_len h2
  refine ⟨a', c', w', hr, by rw [hfl, hln]; exact h2, ?_, ?_⟩
  · exact (hk0.mono (G := v.ownBlock.toList) (fun x hx => by cases hx)).grown h3 (fun k hk => Or.inl (by rw [hk]; simp))
  · rcases h5 with h5 | h5
    · exact Or.inl h5
    · exact Or.inr ⟨_, h5, by omega⟩
set_option maxRecDepth 100000 in
set_option maxHeartbeats 8000000 in
theorem began_any (w : World) (servers home : Int) : Calls Try.prog 20 #[.int .i64 servers, .int .i64 home] w
      fun e w' => ∃ b rv sv, e = .returned (.pointer (some ⟨b, 0, none⟩)) ∧ Wd w' b rv sv (row0 (plN home (1 + plN servers 8)) (1 + plN servers 8)) [] ∧ Kept [] w w' ∧ w.heap.size ≤ b ∧ (∀ z, rv.ownBlock = some z → w.heap.size ≤ z) ∧ sv = .slice none 0 0 := by
  have HP := fun W x n h1 h2 => place_any W x n h1 h2
  have h8 : plN servers 8 < 8 := by
    unfold plN
    have a := Int.emod_nonneg servers (b := ((8 : Nat) : Int)) (by omega)
    have b := Int.emod_lt_of_pos servers (b := ((8 : Nat) : Int)) (by omega)
    omega
  obtain ⟨s, hs⟩ : ∃ s, plN servers 8 = s := ⟨_, rfl⟩
  have HPS : ∀ W, Calls Try.prog 50 #[.int .i64 servers, .int .i64 8] W fun e w' => e = .returned (.int .i64 (s : Int)) ∧ w' = W := fun W => by
    have := HP W servers 8 (by omega) (by omega)
    rw [hs] at this
    exact this
  have HPH : ∀ W, Calls Try.prog 50 #[.int .i64 home, .int .i64 ((1 + s : Nat) : Int)] W fun e w' => e = .returned (.int .i64 (plN home (1 + s) : Int)) ∧ w' = W := fun W => HP W home (1 + s) (by omega) (by omega)
  rw [hs] at h8 ⊢
  obtain ⟨hm, hhm⟩ : ∃ hm, plN home (1 + s) = hm := ⟨_, rfl⟩
  rw [hhm] at HPH ⊢
  obtain ⟨n, hn⟩ : ∃ n, 1 + s = n := ⟨_, rfl⟩
  have hns : (1 : Int) + (s : Int) = (n : Int) := by omega
  rw [hn] at HPH ⊢
  have hn8 : n ≤ 8 := by omega
  have hwr : IntKind.i64.wrap (1 + (s : Int)) = (n : Int) := by rw [IntKind.wrap_i64]; omega
  clear HP hs hhm hn
  go_enter Try.func20, Try.ntmps20
  go_wp2_with (first
    | (go_at_call 50; refine (HPS _).mono ?_; rintro e w8 ⟨rfl, hq⟩; have hq2 := hq.symm; subst hq2))
  have HBG := fun W x => begin_any W x (hm : Int)
  have hW0 : Wd (w.alloc (.cells #[.slice none 0 0, .slice none 0 0] 49)) w.heap.size (.slice none 0 0) (.slice none 0 0) (row0 hm 0) [] :=
    ⟨Blk.new _ _ _, ⟨rfl, Or.inl ⟨rfl, rfl⟩⟩, ⟨rfl, Or.inl ⟨rfl, rfl⟩⟩⟩
  have HW0 := hide hW0
  clear hW0
  go_loopw [7] (fun i wr => ∃ (k : Nat) (rv : Value), k ≤ n ∧ i = .int .i64 (k : Int) ∧ Wd wr w.heap.size rv (.slice none 0 0) (row0 hm k) [] ∧ Kept [] w wr ∧ ∀ z, rv.ownBlock = some z → w.heap.size ≤ z) (fun i _ => n - (intOf i).toNat)
  case atStart => exact ⟨0, _, by omega, rfl, unhide HW0, (Kept.refl _ _).alloc _, fun z hz => by cases hz⟩
  case round =>
    obtain ⟨k, rv, hk, rfl, hwd, hkp, hrz⟩ := hrel
    by_cases hlt : k < n
    · have b0 : wr.cell? ⟨w.heap.size, 0, none⟩ = some rv := hwd.blk.cell 0
      have hbl := hwd.blk.lt
      have HWD := hide hwd
      have HKP := hide hkp
      have HRZ := hide hrz
      have HBK := fun W => HBG W (k : Int)
      generalize hbg : bgn (k : Int) (hm : Int) = B at *
      have HBE := hide hbg
      clear hwd hkp hrz hbg HBG
      obtain ⟨ba, bb, bc⟩ := B
      unfold lv at HBK
      dsimp only at *
      go_upto_region 6 with fail
      go_region_law (first
        | (go_simp; go_at_call 50; refine (HPH _).mono ?_; rintro e w8 ⟨rfl, hq⟩; have hq2 := hq.symm; subst hq2; dsimp only)
        | (go_simp; go_at_call 30; refine (HBK _).mono ?_; rintro e w3 ⟨rfl, hk3⟩
           have hk4 : Kept [] wr w3 := Kept.step ((Kept.refl [] wr).drew) hk3
           have hwd3 := (unhide HWD).kept hk4
           have b03 : w3.cell? ⟨w.heap.size, 0, none⟩ = some rv := hwd3.blk.cell 0
           have hbl3 := hwd3.blk.lt
           obtain ⟨a2, c2, w4, hap, ho2, hk2, hv2⟩ := app_led hwd3.ro ⟨ba, bb, bc⟩ (by rw [row0_len]; omega) 40
           have HAP := hide hap
           have HO2 := hide ho2
           have HK2 := hide hk2
           have HV2 := hide hv2
           have HK4 := hide hk4
           have hnb : w.heap.size ∉ rv.ownBlock.toList := fun q => hwd3.nr (by simpa using q)
           have hb2 := hwd3.blk.kept hk2 hnb
           have e1 : w4.cell? ⟨w.heap.size, 0, none⟩ = some rv := hb2.cell 0
           have f1 : w4.frozen? ⟨w.heap.size, 0, none⟩ = false := hb2.frozen 0
           have HB2 := hide hb2
           have HWD3 := hide hwd3
           clear hap ho2 hk2 hv2 hk4 hnb hb2 hwd3 hk3
           dsimp only)
        | (refine step_append_runE (by rfl) _ _ 40 40 (by rfl) _ _ (by rfl) (by rfl) (unhide HAP) ?_))
      all_goals
        go_wp2
        refine ⟨⟨k + 1, .slice a2 ((row0 hm k).length + 1) c2, by omega, by simp, ⟨?_, ?_, ?_⟩, ?_, ?_⟩, by simp [intOf]; omega⟩
        · exact (unhide HB2).set 0 _
        · have := unhide HO2
          rw [row0_next, unhide HBE]
          exact own_kept this ((Kept.refl [w.heap.size] w4).setCell (Or.inl (by simp)) _) (fun q hq hm => by
            simp at hm
            subst hm
            rcases unhide HV2 with z | ⟨z, z1, z2⟩
            · rw [hq] at z; exact (unhide HWD3).nr z.symm
            · rw [hq] at z1; cases z1; omega)
        · exact ⟨rfl, Or.inl ⟨rfl, rfl⟩⟩
        · refine Kept.setCell ?_ (Or.inr (Nat.le_refl _)) _
          refine (Kept.step (unhide HKP) (unhide HK4)).trans (G := rv.ownBlock.toList) (unhide HK2) (fun x hx => Or.inr (unhide HRZ x (by simpa using hx)))
        · intro z hz
          rcases unhide HV2 with y | ⟨y, y1, y2⟩
          · rw [y] at hz; exact unhide HRZ z hz
          · rw [y1] at hz; cases hz; exact Nat.le_trans (Kept.step (unhide HKP) (unhide HK4)).size y2
    · obtain rfl : k = n := by omega
      have HWD := hide hwd
      have HKP := hide hkp
      have HRZ2 := hide hrz
      clear hwd hkp hrz
      go_wp2_with fail
      go_ret
      exact ⟨w.heap.size, rv, .slice none 0 0, rfl, unhide HWD, unhide HKP, Nat.le_refl _, unhide HRZ2, rfl⟩
end Go.Proofs.Ytnpabeodakncfaa
