/- act: no message was sent yet. -/
import Derived.Test.YtnpabeodakncfaaGAct1
namespace Go.Proofs.Ytnpabeodakncfaa
open Go.RowKit

set_option maxRecDepth 100000 in
set_option maxHeartbeats 4000000 in
theorem act4e_any {w : World} {b : Nat} {rv sv : Value} {row : List Ld} (hw : Wd w b rv sv row []) (h1 : 0 < row.length) (h8 : row.length ≤ 8) (aw ap an : Int) :
    Calls Try.prog 22 #[.pointer (some ⟨b, 0, none⟩), .agg #[.int .i64 4, .int .i64 aw, .int .i64 ap, .int .i64 an]] w
      fun e w' => e = .returned (.bool true) ∧ ActP w b rv sv row [] w' := by
  have HW := hide hw
  have hwl := plN_lt aw h1
  obtain ⟨g, cap, hrv, -, hgl, hrg⟩ := own_at (ce := lc) (fun _ => rfl) hw.ro (led_lt hwl)
  have b0 : w.cell? ⟨b, 0, none⟩ = some rv := hw.blk.cell 0
  have hbl := hw.blk.lt
  have HPL := fun W x => place_any W x row.length h1 (by omega)
  obtain ⟨n, hn⟩ : ∃ n, row.length = n := ⟨_, rfl⟩
  simp only [hn] at hwl hrg hrv h1 h8 HPL
  have hnl := hide hn
  subst hrv
  clear hn hrg hw
  go_enter Try.func22, Try.ntmps22
  go_wp2_with fail
  refine world_at (R := fun W => Kept [] w W ∧ Blk W w.heap.size #[.int .i64 4, .int .i64 aw, .int .i64 ap, .int .i64 an] 52) ⟨(Kept.refl _ _).alloc _, Blk.new _ _ _⟩ ?_
  rintro W1 ⟨hK1, hB1⟩
  have a1 : W1.cell? ⟨w.heap.size, 1, none⟩ = some (.int .i64 aw) := hB1.cell 1
  have a2 : W1.cell? ⟨w.heap.size, 2, none⟩ = some (.int .i64 ap) := hB1.cell 2
  go_region_held3 (fun w' => w'.cell? ⟨w.heap.size, 1, none⟩ = some (.int .i64 aw) ∧ w'.cell? ⟨w.heap.size, 2, none⟩ = some (.int .i64 ap)) (first | assumption | exact ⟨a1, a2⟩) (first
    | (go_at_call 50; refine (HPL _ _).mono ?_; rintro e wz ⟨rfl, hq⟩; have hq2 := hq.symm; subst hq2))
  refine world_at (R := fun W => Kept [] w W ∧ Blk W w.heap.size #[.int .i64 4, .int .i64 aw, .int .i64 ap, .int .i64 an] 52) ⟨hK1.drew, hB1⟩ ?_
  clear a1 a2 hK1 hB1 b0
  rintro W2 ⟨hK2, hB2⟩
  have a0 : W2.cell? ⟨w.heap.size, 0, none⟩ = some (.int .i64 4) := hB2.cell 0
  have a3 : W2.cell? ⟨w.heap.size, 3, none⟩ = some (.int .i64 an) := hB2.cell 3
  have hW2 := Wd.kept (unhide HW) hK2
  have HW2 := hide hW2
  have HK2 := hide hK2
  obtain ⟨sa, sc, hsv⟩ := own_len hW2.so
  have b1 : W2.cell? ⟨b, 1, none⟩ = some (.slice sa 0 sc) := by rw [← show sv = .slice sa 0 sc from hsv]; exact hW2.blk.cell 1
  clear hW2 hK2 hB2 hsv
  go_wp2_with fail
  go_ret
  exact ⟨rfl, sv, unhide HW2, (unhide HK2).mono (fun x hx => by cases hx), Or.inl rfl⟩
set_option maxRecDepth 100000 in
set_option maxHeartbeats 4000000 in
theorem act5e_any {w : World} {b : Nat} {rv sv : Value} {row : List Ld} (hw : Wd w b rv sv row []) (h1 : 0 < row.length) (h8 : row.length ≤ 8) (aw ap an : Int) :
    Calls Try.prog 22 #[.pointer (some ⟨b, 0, none⟩), .agg #[.int .i64 5, .int .i64 aw, .int .i64 ap, .int .i64 an]] w
      fun e w' => e = .returned (.bool true) ∧ ActP w b rv sv row [] w' := by
  have HW := hide hw
  have hwl := plN_lt aw h1
  obtain ⟨g, cap, hrv, -, hgl, hrg⟩ := own_at (ce := lc) (fun _ => rfl) hw.ro (led_lt hwl)
  have b0 : w.cell? ⟨b, 0, none⟩ = some rv := hw.blk.cell 0
  have hbl := hw.blk.lt
  have HPL := fun W x => place_any W x row.length h1 (by omega)
  obtain ⟨n, hn⟩ : ∃ n, row.length = n := ⟨_, rfl⟩
  simp only [hn] at hwl hrg hrv h1 h8 HPL
  have hnl := hide hn
  subst hrv
  clear hn hrg hw
  go_enter Try.func22, Try.ntmps22
  go_wp2_with fail
  refine world_at (R := fun W => Kept [] w W ∧ Blk W w.heap.size #[.int .i64 5, .int .i64 aw, .int .i64 ap, .int .i64 an] 52) ⟨(Kept.refl _ _).alloc _, Blk.new _ _ _⟩ ?_
  rintro W1 ⟨hK1, hB1⟩
  have a1 : W1.cell? ⟨w.heap.size, 1, none⟩ = some (.int .i64 aw) := hB1.cell 1
  have a2 : W1.cell? ⟨w.heap.size, 2, none⟩ = some (.int .i64 ap) := hB1.cell 2
  go_region_held3 (fun w' => w'.cell? ⟨w.heap.size, 1, none⟩ = some (.int .i64 aw) ∧ w'.cell? ⟨w.heap.size, 2, none⟩ = some (.int .i64 ap)) (first | assumption | exact ⟨a1, a2⟩) (first
    | (go_at_call 50; refine (HPL _ _).mono ?_; rintro e wz ⟨rfl, hq⟩; have hq2 := hq.symm; subst hq2))
  refine world_at (R := fun W => Kept [] w W ∧ Blk W w.heap.size #[.int .i64 5, .int .i64 aw, .int .i64 ap, .int .i64 an] 52) ⟨hK1.drew, hB1⟩ ?_
  clear a1 a2 hK1 hB1 b0
  rintro W2 ⟨hK2, hB2⟩
  have a0 : W2.cell? ⟨w.heap.size, 0, none⟩ = some (.int .i64 5) := hB2.cell 0
  have a3 : W2.cell? ⟨w.heap.size, 3, none⟩ = some (.int .i64 an) := hB2.cell 3
  have hW2 := Wd.kept (unhide HW) hK2
  have HW2 := hide hW2
  have HK2 := hide hK2
  obtain ⟨sa, sc, hsv⟩ := own_len hW2.so
  have b1 : W2.cell? ⟨b, 1, none⟩ = some (.slice sa 0 sc) := by rw [← show sv = .slice sa 0 sc from hsv]; exact hW2.blk.cell 1
  clear hW2 hK2 hB2 hsv
  go_wp2_with fail
  go_ret
  exact ⟨rfl, sv, unhide HW2, (unhide HK2).mono (fun x hx => by cases hx), Or.inl rfl⟩
end Go.Proofs.Ytnpabeodakncfaa
