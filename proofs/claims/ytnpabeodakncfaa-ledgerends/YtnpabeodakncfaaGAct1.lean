/- act: an offer, a cancel, a nag. -/
import Derived.Test.YtnpabeodakncfaaGNag
import Derived.Test.YtnpabeodakncfaaGKey
import Derived.Test.YtnpabeodakncfaaGInv2
namespace Go.Proofs.Ytnpabeodakncfaa
open Go.RowKit

theorem plN_lt (x : Int) {n : Nat} (hn : 0 < n) : plN x n < n := by
  unfold plN
  have a := Int.emod_nonneg x (b := (n : Int)) (by omega)
  have b := Int.emod_lt_of_pos x (b := (n : Int)) (by omega)
  omega
theorem can_offer {s p : Int} {l : Ld} (hv : vld s l = true) (hp : 0 ≤ p ∧ p < 8) : rfs s l 2 0 p = 0 ↔ (l.ph = 1 ∧ p ≠ s ∧ l.ep ≤ 1073741822) := by
  have e1 : plc l.ph 2 = decide (l.ph = 1) := by simp [plc]
  have e2 : emb l 2 0 = decide (l.ep ≤ 1073741822) := by simp [emb]
  have e3 : pmb s 2 p = decide (p ≠ s) := by
    simp only [pmb, oth]
    rw [if_pos (by decide), Bool.eq_iff_iff, decide_eq_true_eq, decide_eq_true_eq]
    omega
  unfold rfs
  rw [if_neg (by rw [hv]; simp), e1, e2, e3]
  by_cases q1 : l.ph = 1 <;> by_cases q2 : l.ep ≤ 1073741822 <;> by_cases q3 : p = s <;> simp [q1, q2, q3]
theorem can_cancel {s : Int} {l : Ld} (hv : vld s l = true) : rfs s l 3 0 0 = 0 ↔ l.ph = 2 := by
  have e1 : plc l.ph 3 = decide (l.ph = 2) := by simp [plc]
  have e2 : emb l 3 0 = true := by simp [emb]
  have e3 : pmb s 3 0 = true := by simp [pmb]
  unfold rfs
  rw [if_neg (by rw [hv]; simp), e1, e2, e3]
  by_cases q1 : l.ph = 2 <;> simp [q1]
/-- the post of act -/
def ActP (w : World) (b : Nat) (rv sv : Value) (row : List Ld) (sent : List Ml) (w' : World) : Prop :=
  ∃ sv', Wd w' b rv sv' row sent ∧ Kept (b :: (rv.ownBlock.toList ++ sv.ownBlock.toList)) w w' ∧ (sv'.ownBlock = sv.ownBlock ∨ ∃ z, sv'.ownBlock = some z ∧ w.heap.size ≤ z)
set_option maxRecDepth 100000 in
set_option maxHeartbeats 4000000 in
theorem act1_any {w : World} {b : Nat} {rv sv : Value} {row : List Ld} {sent : List Ml} (hw : Wd w b rv sv row sent) (h1 : 0 < row.length) (h8 : row.length ≤ 8) (aw ap an : Int) (hv : vld (plN aw row.length : Int) (row.getD (plN aw row.length) ⟨0, 0, 0⟩) = true) :
    Calls Try.prog 22 #[.pointer (some ⟨b, 0, none⟩), .agg #[.int .i64 1, .int .i64 aw, .int .i64 ap, .int .i64 an]] w
      fun e w' => e = .returned (.bool true) ∧ ActP w b rv sv (if rfs (plN aw row.length : Int) (row.getD (plN aw row.length) ⟨0, 0, 0⟩) 2 0 (plN ap row.length : Int) = 0 then row.set (plN aw row.length) (stp (plN aw row.length : Int) (row.getD (plN aw row.length) ⟨0, 0, 0⟩) 2 0 (plN ap row.length : Int)) else row) sent w' := by
  have HW := hide hw
  have hwl := plN_lt aw h1
  have hpl := plN_lt ap h1
  obtain ⟨g, cap, hrv, -, hgl, hrg⟩ := own_at (ce := lc) (fun _ => rfl) hw.ro (led_lt hwl)
  have b0 : w.cell? ⟨b, 0, none⟩ = some rv := hw.blk.cell 0
  have hbl := hw.blk.lt
  have HPW := fun W => place_any W aw row.length h1 (by omega)
  have HPP := fun W => place_any W ap row.length h1 (by omega)
  have HPL := fun W x => place_any W x row.length h1 (by omega)
  have hcan : (decide (rfs (plN aw row.length : Int) (row.getD (plN aw row.length) ⟨0, 0, 0⟩) 2 0 (plN ap row.length : Int) = 0)) = (decide ((row.getD (plN aw row.length) ⟨0, 0, 0⟩).ph = 1 ∧ (plN ap row.length : Int) ≠ (plN aw row.length : Int) ∧ (row.getD (plN aw row.length) ⟨0, 0, 0⟩).ep ≤ 1073741822)) := by
    rw [Bool.eq_iff_iff, decide_eq_true_eq, decide_eq_true_eq]
    exact can_offer hv (by omega)
  have HT := fun (W : World) (q : Wd W b rv sv row sent) => take_any q hwl 2 0 (plN ap row.length : Int)
  have HR2 : Hid (∀ W w' : World, Kept [] w W → Wd w' b rv sv (if rfs (plN aw row.length : Int) (row.getD (plN aw row.length) ⟨0, 0, 0⟩) 2 0 (plN ap row.length : Int) = 0 then row.set (plN aw row.length) (stp (plN aw row.length : Int) (row.getD (plN aw row.length) ⟨0, 0, 0⟩) 2 0 (plN ap row.length : Int)) else row) sent → Kept rv.ownBlock.toList W w' → ActP w b rv sv (if rfs (plN aw row.length : Int) (row.getD (plN aw row.length) ⟨0, 0, 0⟩) 2 0 (plN ap row.length : Int) = 0 then row.set (plN aw row.length) (stp (plN aw row.length : Int) (row.getD (plN aw row.length) ⟨0, 0, 0⟩) 2 0 (plN ap row.length : Int)) else row) sent w') := fun W w' q1 q2 q3 =>
    ⟨sv, q2, (q1.mono (G := b :: (rv.ownBlock.toList ++ sv.ownBlock.toList)) (fun x hx => by cases hx)).trans (G := rv.ownBlock.toList) q3 (fun x hx => Or.inl (List.mem_cons_of_mem _ (List.mem_append_left _ hx))), Or.inl rfl⟩
  generalize (if rfs (plN aw row.length : Int) (row.getD (plN aw row.length) ⟨0, 0, 0⟩) 2 0 (plN ap row.length : Int) = 0 then row.set (plN aw row.length) (stp (plN aw row.length : Int) (row.getD (plN aw row.length) ⟨0, 0, 0⟩) 2 0 (plN ap row.length : Int)) else row) = row2 at *
  rw [hcan] at HT
  clear hcan
  have HTT := hide HT
  obtain ⟨n, hn⟩ : ∃ n, row.length = n := ⟨_, rfl⟩
  simp only [hn] at hwl hpl HPW HPP HTT hrg hrv h1 h8 HPL
  have hnl := hide hn
  obtain ⟨who, hwho⟩ : ∃ who, plN aw n = who := ⟨_, rfl⟩
  obtain ⟨peer, hpeer⟩ : ∃ peer, plN ap n = peer := ⟨_, rfl⟩
  simp only [hwho, hpeer] at hwl hpl HPW HPP HTT hrg
  have HWHO := hide hwho
  have HPEER := hide hpeer
  obtain ⟨d0, d1, d2⟩ := row_cells hrg
  have HRG := hide hrg
  subst hrv
  have hwn : (who : Int) < (n : Int) := by omega
  clear hn
  generalize hgl2 : row.getD who ⟨0, 0, 0⟩ = l at *
  obtain ⟨la, lb, lc'⟩ := l
  clear HT hw hrg hv hgl2
  go_enter Try.func22, Try.ntmps22
  go_wp2_with fail
  refine world_at (R := fun W => Kept [] w W ∧ Blk W w.heap.size #[.int .i64 1, .int .i64 aw, .int .i64 ap, .int .i64 an] 52) ⟨(Kept.refl _ _).alloc _, Blk.new _ _ _⟩ ?_
  rintro W1 ⟨hK1, hB1⟩
  have a1 : W1.cell? ⟨w.heap.size, 1, none⟩ = some (.int .i64 aw) := hB1.cell 1
  have a2 : W1.cell? ⟨w.heap.size, 2, none⟩ = some (.int .i64 ap) := hB1.cell 2
  go_region_held3 (fun w' => w'.cell? ⟨w.heap.size, 1, none⟩ = some (.int .i64 aw) ∧ w'.cell? ⟨w.heap.size, 2, none⟩ = some (.int .i64 ap)) (first | assumption | exact ⟨a1, a2⟩) (first
    | (go_at_call 50; refine (HPL _ _).mono ?_; rintro e wz ⟨rfl, hq⟩; have hq2 := hq.symm; subst hq2))
  refine world_at (R := fun W => Kept [] w W ∧ Blk W w.heap.size #[.int .i64 1, .int .i64 aw, .int .i64 ap, .int .i64 an] 52) ⟨hK1.drew, hB1⟩ ?_
  clear a1 a2 hK1 hB1 b0
  rintro W2 ⟨hK2, hB2⟩
  have a0 : W2.cell? ⟨w.heap.size, 0, none⟩ = some (.int .i64 1) := hB2.cell 0
  have a3 : W2.cell? ⟨w.heap.size, 3, none⟩ = some (.int .i64 an) := hB2.cell 3
  have hW2 := Wd.kept (unhide HW) hK2
  have HW2 := hide hW2
  have HK2 := hide hK2
  have b0 : W2.cell? ⟨b, 0, none⟩ = some (.slice (some ⟨g, 0, none⟩) n cap) := hW2.blk.cell 0
  obtain ⟨d0', d1', d2'⟩ := row_cells (range_kept (unhide HRG) hK2 hgl (by simp))
  clear d0 d1 d2 hW2 hK2 hB2
  by_cases hl1 : la = 1
  · by_cases hpw : peer = who
    · subst hpw
      subst hl1
      have HT2 := unhide HTT W2 (unhide HW2)
      rw [show decide ((1 : Int) = 1 ∧ (peer : Int) ≠ (peer : Int) ∧ lb ≤ 1073741822) = false from by simp] at HT2
      have HT3 := hide HT2
      clear HT2
      go_wp2_with (first
        | (go_at_call 52; refine (unhide HT3).mono ?_; rintro e w5 ⟨rfl, hwd5, hk5⟩; have HWD5 := hide hwd5; have HK5 := hide hk5; clear hwd5 hk5))
      go_ret
      exact ⟨ret_bool (by simp), unhide HR2 W2 w5 (unhide HK2) (unhide HWD5) (unhide HK5)⟩
    · have t1 : ((peer : Int) == (who : Int)) = false := by simp; omega
      have t2 : ((peer : Int) != (who : Int)) = true := by simp; omega
      have t3 : ((peer : Int) = (who : Int)) = False := by simp; omega
      subst hl1
      have HT2 := unhide HTT W2 (unhide HW2)
      rw [show decide ((1 : Int) = 1 ∧ (peer : Int) ≠ (who : Int) ∧ lb ≤ 1073741822) = decide (lb ≤ 1073741822) from by rw [Bool.eq_iff_iff, decide_eq_true_eq, decide_eq_true_eq]; omega] at HT2
      have HT3 := hide HT2
      clear HT2
      go_wp2_with (first
        | (go_at_call 52; refine (unhide HT3).mono ?_; rintro e w5 ⟨rfl, hwd5, hk5⟩; have HWD5 := hide hwd5; have HK5 := hide hk5; clear hwd5 hk5))
      go_ret
      exact ⟨ret_bool (by simp), unhide HR2 W2 w5 (unhide HK2) (unhide HWD5) (unhide HK5)⟩
  · have t1 : (la == 1) = false := by simpa using hl1
    have HT2 := unhide HTT W2 (unhide HW2)
    rw [show decide (la = 1 ∧ (peer : Int) ≠ (who : Int) ∧ lb ≤ 1073741822) = false from by rw [decide_eq_false (fun q => hl1 q.1)]] at HT2
    have HT3 := hide HT2
    clear HT2
    go_wp2_with (first
      | (go_at_call 52; refine (unhide HT3).mono ?_; rintro e w5 ⟨rfl, hwd5, hk5⟩; have HWD5 := hide hwd5; have HK5 := hide hk5; clear hwd5 hk5))
    go_ret
    exact ⟨ret_bool (by simp), unhide HR2 W2 w5 (unhide HK2) (unhide HWD5) (unhide HK5)⟩
end Go.Proofs.Ytnpabeodakncfaa
