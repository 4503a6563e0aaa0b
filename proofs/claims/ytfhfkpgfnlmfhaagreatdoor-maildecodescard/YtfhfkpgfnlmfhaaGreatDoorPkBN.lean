/- A text of the base. -/
import Derived.Test.YtfhfkpgfnlmfhaaGreatDoorPkBJ
import Derived.Test.YtfhfkpgfnlmfhaaGreatDoorPkBK
import Derived.Test.YtfhfkpgfnlmfhaaGreatDoorPkBM
/- The document's Decode: bytes that are too many, too few, or have another sum. -/
namespace Go.Proofs.YtfhfkpgfnlmfhaaGreatDoor
open Go.RowKit
set_option linter.unusedSimpArgs false

/-- What the document's Decode answers: just what the program's does. -/
def RDcP (w : World) (bs : List Nat) (e : Ending) (w' : World) : Prop := ∃ l, e = .returned (.tuple #[.agg (mcc (decM bs) l), .int .i64 (decE bs : Nat)]) ∧ MW w' (decM bs) l ∧ Kept [] w w'
theorem zeroMW (W : World) : MW W zeroM nilM := MW.nil W (p := zeroM) (by intro o ho; rcases ho with rfl | rfl | rfl | rfl | rfl <;> rfl) (by decide)
theorem RDcP.fail {w X : World} {bs : List Nat} {c : Nat} (hk : Kept [] w X) (he : decE bs = c) (hc : c ≠ 0) : RDcP w bs (.returned (.tuple #[.agg (mcc zeroM nilM), .int .i64 (c : Nat)])) X := by
  have hm : decM bs = zeroM := by unfold decM; rw [he, if_neg hc]
  exact ⟨nilM, by rw [hm, he], by rw [hm]; exact zeroMW X, hk⟩
set_option maxRecDepth 100000 in
set_option maxHeartbeats 1600000 in
theorem rdec_far (w : World) (x : Value) (bs : List Nat) (hx : Wide w x bs) (hl : 524288 < bs.length) : Calls Tryz.prog 4 #[x] w (RDcP w bs) := by
  obtain ⟨xa, xc, rfl⟩ := wide_len hx
  have HE : Hid (decE bs = 3) := by unfold Hid decE; rw [if_pos hl]
  obtain ⟨n, hn⟩ : ∃ n, bs.length = n := ⟨_, rfl⟩
  rw [hn] at hl ⊢
  have hg1 : ((524288 : Int) < (n : Int)) = True := eq_true (by omega)
  clear hx hl hn
  go_enter Tryz.func4, Tryz.ntmps4
  go_upto_region 1 with fail
  refine world_at (R := fun X => Blk X w.heap.size (mcc zeroM nilM) 30 ∧ Kept [] w X) ⟨Blk.new _ _ _, (Kept.refl [] w).alloc _⟩ ?_
  rintro X ⟨hR, hK⟩
  go_wp2_with (refine wpList_store_self rfl 30 _ _ rfl _ (mcc zeroM nilM) rfl rfl 30 hR infoMail (by simp [mcc, Value.oneCell']) ?_)
  refine ret_struct_tmp rfl rfl hR Tryz.underlying30 infoMail rfl ?_
  exact RDcP.fail (c := 3) hK (unhide HE) (by omega)
set_option maxRecDepth 100000 in
set_option maxHeartbeats 1600000 in
theorem rdec_few (w : World) (x : Value) (bs : List Nat) (hx : Wide w x bs) (hl : bs.length < 8) : Calls Tryz.prog 4 #[x] w (RDcP w bs) := by
  obtain ⟨xa, xc, rfl⟩ := wide_len hx
  have HE : Hid (decE bs = 190) := by unfold Hid decE; rw [if_neg (by omega), if_pos hl]
  obtain ⟨n, hn⟩ : ∃ n, bs.length = n := ⟨_, rfl⟩
  rw [hn] at hl ⊢
  have hg1 : ((524288 : Int) < (n : Int)) = False := eq_false (by omega)
  have hg2 : ((n : Int) < 8) = True := eq_true (by omega)
  clear hx hl hn
  go_enter Tryz.func4, Tryz.ntmps4
  go_upto_region 1 with fail
  refine world_at (R := fun X => Blk X w.heap.size (mcc zeroM nilM) 30 ∧ Kept [] w X) ⟨Blk.new _ _ _, (Kept.refl [] w).alloc _⟩ ?_
  rintro X ⟨hR, hK⟩
  go_wp2_with (refine wpList_store_self rfl 30 _ _ rfl _ (mcc zeroM nilM) rfl rfl 30 hR infoMail (by simp [mcc, Value.oneCell']) ?_)
  refine ret_struct_tmp rfl rfl hR Tryz.underlying30 infoMail rfl ?_
  exact RDcP.fail (c := 190) hK (unhide HE) (by omega)
theorem str_ne {a b : List Nat} (ha : ∀ x ∈ a, x < 256) (hb : ∀ x ∈ b, x < 256) (h : a ≠ b) : ((strB a).toList == (strB b).toList) = false := by
  rw [beq_eq_false_iff_ne]
  intro he
  refine h (strB_inj ha hb ?_)
  rw [ByteArray.toList_eq, ByteArray.toList_eq] at he
  exact WideShapes.bytes_inj he
/-- The bytes ahead of the last four, their sum behind them. -/
theorem Dc.sums {w : World} {b off m xc c v : Nat} {bs : List Nat} (h : Dc w b off m xc bs c v) : (v = c → summed (bs.take m) = bs) ∧ (v ≠ c → summed (bs.take m) ≠ bs) := by
  have hl := h.len
  have hm : bs.length - 4 = m := by omega
  have hd : (bs.drop m).length = 4 := by simp; omega
  constructor
  · intro e
    unfold summed
    rw [← h.cc, ← (sum_iff hd (fun y hy => h.byt y (List.mem_of_mem_drop hy)) h.cl).1 (h.vv.symm.trans e)]
    exact List.take_append_drop m bs
  · intro e hs
    apply e
    rw [h.vv]
    refine (sum_iff hd (fun y hy => h.byt y (List.mem_of_mem_drop hy)) h.cl).2 ?_
    have h1 := congrArg (fun l => l.drop m) hs
    unfold summed at h1
    have h2 : (bs.take m).length = m := by simp; omega
    simp only [List.drop_append, h2, Nat.sub_self, List.drop_zero] at h1
    rw [List.drop_of_length_le (by omega), List.nil_append] at h1
    rw [← h1, ← h.cc]
set_option maxRecDepth 100000 in
set_option maxHeartbeats 1600000 in
theorem rdec_sum (w : World) (bs : List Nat) (b off m xc c v : Nat) (hx : Wide w (.slice (some ⟨b, off, none⟩) (m + 4 : Nat) xc) bs) (hd : Dc w b off m xc bs c v) (hc1 : m + 4 ≤ xc) (hn : v ≠ c) : Calls Tryz.prog 4 #[.slice (some ⟨b, off, none⟩) (m + 4) xc] w (RDcP w bs) := by
  have HD := hide hd
  have HW := hide hx
  have HE := hide (hd.err hn)
  have hse := str_ne (summed_lt (fun y hy => hd.byt y (List.mem_of_mem_take hy))) hd.byt (hd.sums.2 hn)
  have hm := hd.m5
  have hg1 : ((524288 : Int) < ((m + 4 : Nat) : Int)) = False := eq_false (by omega)
  have hg2 : (((m + 4 : Nat) : Int) < 8) = False := eq_false (by omega)
  have hg3 : ((524288 : Int) < (m : Int) + 4) = False := eq_false (by omega)
  have hg4 : ((m : Int) + 4 < 8) = False := eq_false (by omega)
  have e2 : wrap64 ((m : Int) + 4 - 4) = (m : Int) := by unfold wrap64; omega
  have e3 : wrap64 (m : Int) = (m : Int) := by unfold wrap64; omega
  have HTL : Hid (∀ y ∈ bs.take m, y < 256) := fun y hy => hd.byt y (List.mem_of_mem_take hy)
  have HLN : Hid ((bs.take m).length + 4 ≤ 140737488355328) := by unfold Hid; simp; omega
  have e4 : IntKind.i64.wrap (m : Int) = (m : Int) := by rw [IntKind.wrap_i64]; omega
  have hm1 : m ≤ xc := by omega
  have hm2 : ((m : Int) ≤ (xc : Int)) = True := eq_true (by omega)
  have hm3 : (m ≤ xc) = True := eq_true (by omega)
  have hm4 : ((xc : Int) < (m : Int)) = False := eq_false (by omega)
  have hm5 : ((m : Int) < 0) = False := eq_false (by omega)
  have hm6 : ((0 : Int) ≤ (m : Int)) = True := eq_true (by omega)
  clear hd hn hx
  go_enter Tryz.func4, Tryz.ntmps4
  go_upto_region 1 with fail
  refine world_at (R := fun X => Blk X w.heap.size (mcc zeroM nilM) 30 ∧ Kept [] w X) ⟨Blk.new _ _ _, (Kept.refl [] w).alloc _⟩ ?_
  rintro X ⟨hR, hK⟩
  have HR := hide hR
  have HK := hide hK
  clear hR hK
  go_upto_region 6 with fail
  have HWX := hide (fun (W : World) (k : Kept [] X W) => conv_wide ((unhide HW).kept ((unhide HK).step k)))
  go_cut [22] (fun t wc => t = .bool true ∧ Hid (Kept [] X wc))
  case first =>
    have hc0 := unhide HWX X (Kept.refl _ _)
    have hc3 := unhide HWX X.drew (Kept.refl _ _).drew
    go_region_with (first
      | (go_at_call 9; refine (rsummed_any ((unhide HD).parts _ (by first | exact unhide HK | exact (unhide HK).drew | exact (unhide HK).drewN _)).1 (unhide HTL) (unhide HLN)).mono ?_; rintro e w20 ⟨k20, a20, cap20, rfl, ho⟩; have K20 : Hid (Kept [] X w20) := (by first | exact k20 | exact ((Kept.refl [] X).drew).step k20); clear k20; have hc1 := conv_wide (Or.inl (Sees.of_own ho)); have hc2 := unhide HWX _ (unhide K20); clear ho))
    all_goals
      go_wp2_with fail
      go_meet
      exact ⟨by simp [hse], hide (unhide K20)⟩
  case rest =>
    obtain ⟨rfl, HKC⟩ := hcut
    have hR2 := (unhide HR).kept (unhide HKC) (by simp)
    have hK2 := (unhide HK).step (unhide HKC)
    go_wp2_with (refine wpList_store_self rfl 30 _ _ rfl _ (mcc zeroM nilM) rfl rfl 30 hR2 infoMail (by simp [mcc, Value.oneCell']) ?_)
    refine ret_struct_tmp rfl rfl hR2 Tryz.underlying30 infoMail rfl ?_
    exact RDcP.fail (c := 191) hK2 (unhide HE) (by omega)
end Go.Proofs.YtfhfkpgfnlmfhaaGreatDoor
