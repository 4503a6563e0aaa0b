/- act: a nag, nothing. -/
import Derived.Test.YtnpabeodakncfaaGAct1
namespace Go.Proofs.Ytnpabeodakncfaa
open Go.RowKit

set_option maxRecDepth 100000 in
set_option maxHeartbeats 4000000 in
theorem act3_any {w : World} {b : Nat} {rv sv : Value} {row : List Ld} {sent : List Ml} (hw : Wd w b rv sv row sent) (h1 : 0 < row.length) (h8 : row.length ≤ 8) (hs : sent.length < 4398046511103) (aw ap an : Int) :
    Calls Try.prog 22 #[.pointer (some ⟨b, 0, none⟩), .agg #[.int .i64 3, .int .i64 aw, .int .i64 ap, .int .i64 an]] w
      fun e w' => e = .returned (.bool true) ∧ ActP w b rv sv row (if nag (row.getD (plN aw row.length) ⟨0, 0, 0⟩) = 0 then sent else sent ++ [⟨nag (row.getD (plN aw row.length) ⟨0, 0, 0⟩), (row.getD (plN aw row.length) ⟨0, 0, 0⟩).ep, (plN aw row.length : Int), (row.getD (plN aw row.length) ⟨0, 0, 0⟩).pe⟩]) w' := by
  have HW := hide hw
  have hwl := plN_lt aw h1
  obtain ⟨g, cap, hrv, -, hgl, hrg⟩ := own_at (ce := lc) (fun _ => rfl) hw.ro (led_lt hwl)
  have b0 : w.cell? ⟨b, 0, none⟩ = some rv := hw.blk.cell 0
  have hbl := hw.blk.lt
  have HPL := fun W x => place_any W x row.length h1 (by omega)
  have HNG := hide (fun (W : World) (q : Wd W b rv sv row sent) => nagW_any q hwl hs)
  generalize (if nag (row.getD (plN aw row.length) ⟨0, 0, 0⟩) = 0 then sent else sent ++ [⟨nag (row.getD (plN aw row.length) ⟨0, 0, 0⟩), (row.getD (plN aw row.length) ⟨0, 0, 0⟩).ep, (plN aw row.length : Int), (row.getD (plN aw row.length) ⟨0, 0, 0⟩).pe⟩]) = sent2 at *
  obtain ⟨n, hn⟩ : ∃ n, row.length = n := ⟨_, rfl⟩
  simp only [hn] at hwl hrg hrv h1 h8 HPL
  have hnl := hide hn
  subst hrv
  clear hn hrg hw
  go_enter Try.func22, Try.ntmps22
  go_wp2_with fail
  refine world_at (R := fun W => Kept [] w W ∧ Blk W w.heap.size #[.int .i64 3, .int .i64 aw, .int .i64 ap, .int .i64 an] 52) ⟨(Kept.refl _ _).alloc _, Blk.new _ _ _⟩ ?_
  rintro W1 ⟨hK1, hB1⟩
  have a1 : W1.cell? ⟨w.heap.size, 1, none⟩ = some (.int .i64 aw) := hB1.cell 1
  have a2 : W1.cell? ⟨w.heap.size, 2, none⟩ = some (.int .i64 ap) := hB1.cell 2
  go_region_held3 (fun w' => w'.cell? ⟨w.heap.size, 1, none⟩ = some (.int .i64 aw) ∧ w'.cell? ⟨w.heap.size, 2, none⟩ = some (.int .i64 ap)) (first | assumption | exact ⟨a1, a2⟩) (first
    | (go_at_call 50; refine (HPL _ _).mono ?_; rintro e wz ⟨rfl, hq⟩; have hq2 := hq.symm; subst hq2))
  refine world_at (R := fun W => Kept [] w W ∧ Blk W w.heap.size #[.int .i64 3, .int .i64 aw, .int .i64 ap, .int .i64 an] 52) ⟨hK1.drew, hB1⟩ ?_
  clear a1 a2 hK1 hB1 b0
  rintro W2 ⟨hK2, hB2⟩
  have a0 : W2.cell? ⟨w.heap.size, 0, none⟩ = some (.int .i64 3) := hB2.cell 0
  have a3 : W2.cell? ⟨w.heap.size, 3, none⟩ = some (.int .i64 an) := hB2.cell 3
  have hW2 := Wd.kept (unhide HW) hK2
  have HW2 := hide hW2
  have HK2 := hide hK2
  have b0 : W2.cell? ⟨b, 0, none⟩ = some (.slice (some ⟨g, 0, none⟩) n cap) := hW2.blk.cell 0
  clear hW2 hK2 hB2
  have HN2 := unhide HNG W2 (unhide HW2)
  simp only [unhide hnl] at HN2
  have HN3 := hide HN2
  clear HN2
  go_wp2_with (first
    | (go_at_call 53; refine (unhide HN3).mono ?_; rintro e w5 ⟨sv', hwd5, he, hk5, hv5⟩; have HWD5 := hide hwd5; have HK5 := hide hk5; have HV5 := hide hv5; clear hwd5 hk5 hv5; (first | (rcases he with rfl | rfl))))
  all_goals
    go_ret
    refine ⟨rfl, sv', unhide HWD5, ?_, ?_⟩
    · exact ((unhide HK2).mono (G := b :: ((Value.slice (some ⟨g, 0, none⟩) n cap).ownBlock.toList ++ sv.ownBlock.toList)) (fun x hx => by cases hx)).trans (unhide HK5) (fun x hx => Or.inl (by
        rcases List.mem_cons.1 hx with z | z
        · rw [z]; simp
        · exact List.mem_cons_of_mem _ (List.mem_append_right _ z)))
    · rcases unhide HV5 with z | ⟨z, z1, z2⟩
      · exact Or.inl z
      · exact Or.inr ⟨z, z1, Nat.le_trans (unhide HK2).size z2⟩
set_option maxRecDepth 100000 in
set_option maxHeartbeats 4000000 in
theorem act0_any {w : World} {b : Nat} {rv sv : Value} {row : List Ld} {sent : List Ml} (hw : Wd w b rv sv row sent) (h1 : 0 < row.length) (h8 : row.length ≤ 8) (kd : Int) (hk : kd ≠ 1 ∧ kd ≠ 2 ∧ kd ≠ 3 ∧ kd ≠ 4 ∧ kd ≠ 5) (aw ap an : Int) :
    Calls Try.prog 22 #[.pointer (some ⟨b, 0, none⟩), .agg #[.int .i64 kd, .int .i64 aw, .int .i64 ap, .int .i64 an]] w
      fun e w' => e = .returned (.bool true) ∧ ActP w b rv sv row sent w' := by
  have HW := hide hw
  have hwl := plN_lt aw h1
  obtain ⟨g, cap, hrv, -, hgl, hrg⟩ := own_at (ce := lc) (fun _ => rfl) hw.ro (led_lt hwl)
  have b0 : w.cell? ⟨b, 0, none⟩ = some rv := hw.blk.cell 0
  have hbl := hw.blk.lt
  have HPL := fun W x => place_any W x row.length h1 (by omega)
  obtain ⟨n, hn⟩ : ∃ n, row.length = n := ⟨_, rfl⟩
  simp only [hn] at hwl hrg hrv h1 h8 HPL
  have hnl := hide hn
  subst hrv
  clear hn hrg hw
  go_enter Try.func22, Try.ntmps22
  go_wp2_with fail
  refine world_at (R := fun W => Kept [] w W ∧ Blk W w.heap.size #[.int .i64 kd, .int .i64 aw, .int .i64 ap, .int .i64 an] 52) ⟨(Kept.refl _ _).alloc _, Blk.new _ _ _⟩ ?_
  rintro W1 ⟨hK1, hB1⟩
  have a1 : W1.cell? ⟨w.heap.size, 1, none⟩ = some (.int .i64 aw) := hB1.cell 1
  have a2 : W1.cell? ⟨w.heap.size, 2, none⟩ = some (.int .i64 ap) := hB1.cell 2
  go_region_held3 (fun w' => w'.cell? ⟨w.heap.size, 1, none⟩ = some (.int .i64 aw) ∧ w'.cell? ⟨w.heap.size, 2, none⟩ = some (.int .i64 ap)) (first | assumption | exact ⟨a1, a2⟩) (first
    | (go_at_call 50; refine (HPL _ _).mono ?_; rintro e wz ⟨rfl, hq⟩; have hq2 := hq.symm; subst hq2))
  refine world_at (R := fun W => Kept [] w W ∧ Blk W w.heap.size #[.int .i64 kd, .int .i64 aw, .int .i64 ap, .int .i64 an] 52) ⟨hK1.drew, hB1⟩ ?_
  clear a1 a2 hK1 hB1 b0
  rintro W2 ⟨hK2, hB2⟩
  have a0 : W2.cell? ⟨w.heap.size, 0, none⟩ = some (.int .i64 kd) := hB2.cell 0
  have a3 : W2.cell? ⟨w.heap.size, 3, none⟩ = some (.int .i64 an) := hB2.cell 3
  have hW2 := Wd.kept (unhide HW) hK2
  have HW2 := hide hW2
  have HK2 := hide hK2
  clear hW2 hK2 hB2
  have t1 : (kd == 1) = false := by simp; omega
  have t2 : (kd == 2) = false := by simp; omega
  have t3 : (kd == 3) = false := by simp; omega
  have t4 : (kd == 4) = false := by simp; omega
  have t5 : (kd == 5) = false := by simp; omega
  go_wp2_with fail
  go_ret
  exact ⟨rfl, sv, unhide HW2, (unhide HK2).mono (fun x hx => by cases hx), Or.inl rfl⟩
end Go.Proofs.Ytnpabeodakncfaa
