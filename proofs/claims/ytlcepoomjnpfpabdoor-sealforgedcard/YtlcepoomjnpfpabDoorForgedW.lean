/- The law SealForged, walked. -/
import Derived.Test.YtlcepoomjnpfpabDoorRow
import Derived.Test.YtlcepoomjnpfpabDoorForge
import Derived.Test.YtlcepoomjnpfpabDoorEq4
namespace Go.Proofs.YtlcepoomjnpfpabDoor
open Go.RowKit

theorem crc_lt' {bs : List Nat} (h : ∀ b ∈ bs, b < 256) : crc bs < 4294967296 := cpl_lt (takes_lt (cpl_lt (by omega)) bs h)

theorem bytes4_u8s (x : Nat) : bytes4 x = (u8s (tb x)).toArray := rfl

/-- four bytes held against the bytes of a number -/
theorem eql_tb {o0 o1 o2 o3 : Nat} (x : Nat) (w : World) : ∃ r : Bool, (Op.equalIn 10000 24 (.agg (u8s [o0, o1, o2, o3]).toArray) (.agg (bytes4 x))).run Tryd.prog w = .ok r w ∧ (r = true ↔ [o0, o1, o2, o3] = tb x) := by
  obtain ⟨i, hi⟩ := Option.isSome_iff_exists.1 info5
  have hf : ∀ (l : List Nat) (i : Nat), l.length = 4 → i < 4 → (u8s l).toArray[i]? = some (.int .u8 (l.getD i 0 : Nat)) := by
    intro l i hl hi
    simpa using u8s_at l (show i < l.length by omega)
  rw [bytes4_u8s]
  obtain ⟨r, h1, h2⟩ := run_equal_ints w Tryd.underlying24 Tryd.underlying5 hi cellsOf5 (u8s [o0, o1, o2, o3]).toArray (u8s (tb x)).toArray (fun i => [o0, o1, o2, o3].getD i 0) (fun i => (tb x).getD i 0) (fun i h => hf [o0, o1, o2, o3] i rfl h) (fun i h => hf (tb x) i rfl h)
  refine ⟨r, h1, h2.trans ⟨fun h => ?_, fun h i hi => by rw [h]⟩⟩
  have a0 := h 0 (by omega)
  have a1 := h 1 (by omega)
  have a2 := h 2 (by omega)
  have a3 := h 3 (by omega)
  simp [tb] at a0 a1 a2 a3
  simp [tb]
  exact ⟨a0, a1, a2, a3⟩

theorem calls_at {P : Program} {f : Nat} {args : Array Value} {Q : Ending → World → Prop} {R : World → Prop} {x : World} (h : R x) (H : ∀ wr, R wr → Calls P f args wr Q) : Calls P f args x Q := H x h

theorem Sees.of_arr {w : World} {b : Nat} {t : TypeId} {bs : List Nat} (h : Blk w b (u8s bs).toArray t) (hl : bs.length = 4) (hb : ∀ x ∈ bs, x < 256) : Sees w (.slice (some ⟨b, 0, none⟩) 4 4) bs :=
  Sees.of_blk hl h hb 4 (by omega) (by omega)

theorem guard4 : Tryd.prog.eqGuardType Tryd.prog.depth 24 = false := by kernel_rfl

set_option maxRecDepth 100000 in
set_option maxHeartbeats 1000000 in
theorem forged_walk {w : World} (ht : Tab w) {v : Value} {bs : List Nat} (hv : Sees w v bs) (hl : bs.length ≤ 140737488351232) (want : Nat) (hw : want < 4294967296) (o0 o1 o2 o3 : Nat) (h0 : o0 < 256) (h1 : o1 < 256) (h2 : o2 < 256) (h3 : o3 < 256) :
    Calls Tryd.prog 3 #[v, .int .u32 want, .agg (u8s [o0, o1, o2, o3]).toArray] w fun e w' => e = .returned (.bool true) ∧ Kept [] w w' := by
  have HB : Hid (∀ b ∈ bs, b < 256) := by obtain ⟨_, _, _, _, _, h, _⟩ := hv; exact h
  have HT := hide ht
  have HV := hide hv
  have h0w := ht.1
  have hcl := crc_lt' (unhide HB)
  have HF := hide (forged bs hw)
  have HFO : Hid (crc (bs ++ [o0, o1, o2, o3]) = want → [o0, o1, o2, o3] = tb (tailWord (crc bs) want)) := forged_only hcl hw h0 h1 h2 h3
  have HOB : Hid (∀ b ∈ [o0, o1, o2, o3], b < 256) := by
    intro b hb; simp at hb; omega
  have HTB := hide (tb_bytes (tailWord_lt hcl hw))
  have HTL := hide (tail_any (crc bs) want hcl hw)
  have HEQ := hide (eql_tb (o0 := o0) (o1 := o1) (o2 := o2) (o3 := o3) (tailWord (crc bs) want))
  rw [bytes4_u8s] at HTL HEQ
  have HCR := hide (fun (wx : World) (h : Kept [] w wx) => crc_any ((unhide HT).kept h (by simp)) ((unhide HV).kept h (Or.inr (by simp))))
  obtain ⟨p, pc, hpv, -⟩ := hv
  clear ht
  subst hpv
  generalize hOs : [o0, o1, o2, o3] = os at HFO HOB HEQ
  have HOS : Hid (os.length = 4) := by rw [← hOs]; rfl
  generalize hTs : tb (tailWord (crc bs) want) = ts at HF HFO HTB HTL HEQ
  have HTS : Hid (ts.length = 4) := by rw [← hTs]; rfl
  clear hOs hTs h0 h1 h2 h3
  obtain ⟨oc, hoc⟩ : ∃ c, c = (u8s os).toArray := ⟨_, rfl⟩
  obtain ⟨tc, htc⟩ : ∃ c, c = (u8s ts).toArray := ⟨_, rfl⟩
  rw [← htc] at HTL HEQ
  rw [← hoc] at HEQ ⊢
  have hos : oc.size = 4 := by rw [hoc]; simp [u8s_length]; exact unhide HOS
  have hts : tc.size = 4 := by rw [htc]; simp [u8s_length]; exact unhide HTS
  have ho1 : oc.all (·.oneCell') = true := by rw [hoc]; simpa [Array.all_eq_true_iff_forall_mem] using u8s_one os
  have ht1 : tc.all (·.oneCell') = true := by rw [htc]; simpa [Array.all_eq_true_iff_forall_mem] using u8s_one ts
  have HOC := hide hoc
  have HTC := hide htc
  clear hoc htc
  generalize hC : crc bs = c at HTL HCR HFO
  have HC := hide hC
  clear hC
  go_enter Tryd.func3, Tryd.ntmps3
  go_wp2_with fail
  refine (known_any ((unhide HT).kept ((Kept.refl [] w).alloc _) (by simp))).mono ?_
  rintro e w1 ⟨rfl, hk1⟩
  have HK1 : Hid (Kept [] w w1) := ((Kept.refl [] w).alloc _).trans hk1 (by simp)
  have HB1 : Hid (Blk w1 w.heap.size oc 24) := (Blk.new w oc _).kept hk1 (by simp)
  clear hk1
  go_wp2_with fail
  refine (unhide HCR _ (unhide HK1)).mono ?_
  rintro e w' ⟨rfl, hq⟩
  have hq' := hq.symm
  subst hq'
  have hi4 : (Tryd.prog.info? 24).map (·.size) = some tc.size := by rw [hts]; exact info25
  have HI4 := hide hi4
  clear hi4
  go_wp2_with fail
  refine (unhide HTL _).mono ?_
  rintro e w2 ⟨rfl, hk2⟩
  go_wp2_with (first | (guard_target =~ wpList _ _ _ _ _ _; refine wpList_store_arr _ _ 24 rfl rfl w2.heap.size _ tc rfl rfl (Blk.new _ _ _) (unhide HI4) (by rw [hts]; rfl) ht1 rfl ?_))
  refine calls_at (R := fun wr => Blk wr w2.heap.size tc 24 ∧ Blk wr w.heap.size oc 24 ∧ Kept [] w wr) ⟨(Blk.new _ _ _).row, ((((unhide HB1).kept hk2 (by simp)).alloc _).kept ((Kept.refl [w2.heap.size] _).row (Or.inl (by simp)) _) ?nd), ((((unhide HK1).trans hk2 (by simp)).alloc _).row (Or.inr ((unhide HK1).trans hk2 (by simp)).size) _)⟩ ?_
  case nd =>
    have h5 := (unhide HB1).lt
    have h6 := hk2.size
    simp; omega
  rintro wr ⟨hb7, hb5, hkr⟩
  have HB7 := hide hb7
  have HB5 := hide hb5
  have HKR := hide hkr
  clear hb7 hb5 hkr hk2 HB1 HK1
  have hsl : bs.length + 4 ≤ 140737488355328 := by omega
  refine (joined_any (unhide HKR |> fun h => (unhide HV).kept h (Or.inr (by simp))) (Sees.of_arr (by have := unhide HB7; rw [unhide HTC] at this; exact this) (unhide HTS) (unhide HTB)) (by rw [unhide HTS]; exact hsl)).mono ?_
  rintro e w3 ⟨v3, rfl, ho3, hk3⟩
  obtain ⟨qa, qc, rfl⟩ := own_len ho3
  have HK3 := hide ((unhide HKR).trans hk3 (by simp))
  have HB73 := hide ((unhide HB7).kept hk3 (by simp))
  have HB53 := hide ((unhide HB5).kept hk3 (by simp))
  have HS3 : Hid (Sees w3 _ (bs ++ ts)) := Sees.of_own ho3 (fun x hx => by rcases List.mem_append.1 hx with h | h; exact unhide HB x h; exact unhide HTB x h)
  have HT3 := hide ((unhide HT).kept (unhide HK3) (by simp))
  clear ho3 hk3 HB7 HB5 HKR
  generalize (bs ++ ts).length = N3 at HS3
  go_wp2_with fail
  refine (crc_any (unhide HT3) (unhide HS3)).mono ?_
  rintro e w' ⟨rfl, hq⟩
  have hq' := hq.symm
  subst hq'
  rw [unhide HF]
  have hio : (Tryd.prog.info? 24).map (·.size) = some oc.size := by rw [hos]; exact info25
  have HIO := hide hio
  clear hio
  obtain ⟨r, hr1, hr2⟩ := unhide HEQ w3
  have HR2 := hide hr2
  clear hr2 HS3
  have hgu := guard4
  cases r
  · go_wp2_with (first | (guard_target =~ wpList _ _ _ _ _ _; refine wpList_load_arr _ 24 rfl rfl w.heap.size 4 5 oc rfl (unhide HB53) Tryd.underlying24 (unhide HIO) ?_) | (guard_target =~ wpList _ _ _ _ _ _; refine wpList_load_arr _ 24 rfl rfl w2.heap.size 4 5 tc rfl (unhide HB73) Tryd.underlying24 (unhide HI4) ?_))
    refine (joined_any ((unhide HV).kept (unhide HK3) (Or.inr (by simp))) (Sees.of_arr (by have := unhide HB53; rw [unhide HOC] at this; exact this) (unhide HOS) (unhide HOB)) (by rw [unhide HOS]; exact hsl)).mono ?_
    rintro e w4 ⟨v4, rfl, ho4, hk4⟩
    obtain ⟨ra, rc, rfl⟩ := own_len ho4
    have HK4 := hide ((unhide HK3).trans hk4 (by simp))
    have HS4 : Hid (Sees w4 _ (bs ++ os)) := Sees.of_own ho4 (fun x hx => by rcases List.mem_append.1 hx with h | h; exact unhide HB x h; exact unhide HOB x h)
    have HT4 := hide ((unhide HT).kept (unhide HK4) (by simp))
    clear ho4 hk4
    generalize (bs ++ os).length = N4 at HS4
    have hne : crc (bs ++ os) ≠ want := fun h => absurd ((unhide HR2).2 (unhide HFO h)) (by simp)
    generalize hcc : crc (bs ++ os) = c2 at hne
    have HCC := hide hcc
    clear hcc
    go_wp2_with fail
    refine (crc_any (unhide HT4) (unhide HS4)).mono ?_
    rintro e w' ⟨rfl, hq⟩
    have hq' := hq.symm
    subst hq'
    rw [unhide HCC]
    have hbn : ((c2 : Int) != (want : Int)) = true := by rw [bne_iff_ne]; omega
    go_wp2
    go_ret
    exact ⟨rfl, unhide HK4⟩
  · go_wp2_with (first | (guard_target =~ wpList _ _ _ _ _ _; refine wpList_load_arr _ 24 rfl rfl w.heap.size 4 5 oc rfl (unhide HB53) Tryd.underlying24 (unhide HIO) ?_) | (guard_target =~ wpList _ _ _ _ _ _; refine wpList_load_arr _ 24 rfl rfl w2.heap.size 4 5 tc rfl (unhide HB73) Tryd.underlying24 (unhide HI4) ?_))
    go_ret
    exact ⟨rfl, unhide HK3⟩
end Go.Proofs.YtlcepoomjnpfpabDoor
