/- act: a message is heard. -/
import Derived.Test.YtnpabeodakncfaaGAct1
import Derived.Test.YtnpabeodakncfaaGHearW
namespace Go.Proofs.Ytnpabeodakncfaa
open Go.RowKit

set_option maxRecDepth 100000 in
set_option maxHeartbeats 40000000 in
theorem act4_any {w : World} {b : Nat} {rv sv : Value} {row : List Ld} {sent : List Ml} (hw : Wd w b rv sv row sent) (h1 : 0 < row.length) (h8 : row.length ≤ 8) (hs : sent.length < 4398046511103) (aw ap an : Int) {m : Ml} (hm : sent[plN an sent.length]? = some m) {t : Nat} (htm : m.to = (t : Int)) (htl : t < row.length) {R Y : Int} (hans : ans false (her (t : Int) (row.getD t ⟨0, 0, 0⟩) m.kind m.ep m.fr) = (R, Y)) :
    Calls Try.prog 22 #[.pointer (some ⟨b, 0, none⟩), .agg #[.int .i64 4, .int .i64 aw, .int .i64 ap, .int .i64 an]] w
      fun e w' => e = .returned (.bool true) ∧ ActP w b rv sv (rowH row t R m.ep m.fr) (sentH sent t Y m.ep m.fr) w' := by
  have HW := hide hw
  have hwl := plN_lt aw h1
  obtain ⟨g, cap, hrv, -, hgl, hrg⟩ := own_at (ce := lc) (fun _ => rfl) hw.ro (led_lt hwl)
  have b0 : w.cell? ⟨b, 0, none⟩ = some rv := hw.blk.cell 0
  have hbl := hw.blk.lt
  have HPL := fun W x => place_any W x row.length h1 (by omega)
  have hsl : 0 < sent.length := Nat.lt_of_le_of_lt (Nat.zero_le _) (List.getElem?_eq_some_iff.1 hm).1
  have HPS := fun W => place_any W an sent.length hsl (by omega)
  obtain ⟨gs, caps, hsv, -, hgsl, hrs⟩ := own_at (ce := mc) (fun _ => rfl) hw.so hm
  have hjl := plN_lt an hsl
  have HHR := hide (fun (W : World) (q : Wd W b rv sv row sent) => hearW_any q m.kind m.ep m.fr htl false hs hans)
  obtain ⟨mk, me, mf, mt⟩ := m
  dsimp only at *
  subst htm
  generalize rowH row t R me mf = row2 at *
  generalize sentH sent t Y me mf = sent2 at *
  have HRS := hide hrs
  subst hsv
  obtain ⟨ls, hls⟩ : ∃ ls, sent.length = ls := ⟨_, rfl⟩
  simp only [hls] at *
  generalize plN an ls = j at *
  clear hans hm htl hls hrs
  obtain ⟨n, hn⟩ : ∃ n, row.length = n := ⟨_, rfl⟩
  simp only [hn] at hwl hrg hrv h1 h8 HPL
  have hnl := hide hn
  subst hrv
  clear hn hrg hw
  go_enter Try.func22, Try.ntmps22
  go_wp2_with fail
  refine world_at (R := fun W => Kept [] w W ∧ Blk W w.heap.size #[.int .i64 4, .int .i64 aw, .int .i64 ap, .int .i64 an] 52) ⟨(Kept.refl _ _).alloc _, Blk.new _ _ _⟩ ?_
  rintro W1 ⟨hK1, hB1⟩
  have a1 : W1.cell? ⟨w.heap.size, 1, none⟩ = some (.int .i64 aw) := hB1.cell 1
  have a2 : W1.cell? ⟨w.heap.size, 2, none⟩ = some (.int .i64 ap) := hB1.cell 2
  go_region_held3 (fun w' => w'.cell? ⟨w.heap.size, 1, none⟩ = some (.int .i64 aw) ∧ w'.cell? ⟨w.heap.size, 2, none⟩ = some (.int .i64 ap)) (first | assumption | exact ⟨a1, a2⟩) (first
    | (go_at_call 50; refine (HPL _ _).mono ?_; rintro e wz ⟨rfl, hq⟩; have hq2 := hq.symm; subst hq2))
  refine world_at (R := fun W => Kept [] w W ∧ Blk W w.heap.size #[.int .i64 4, .int .i64 aw, .int .i64 ap, .int .i64 an] 52) ⟨hK1.drew, hB1⟩ ?_
  clear a1 a2 hK1 hB1 b0
  rintro W2 ⟨hK2, hB2⟩
  have a0 : W2.cell? ⟨w.heap.size, 0, none⟩ = some (.int .i64 4) := hB2.cell 0
  have a3 : W2.cell? ⟨w.heap.size, 3, none⟩ = some (.int .i64 an) := hB2.cell 3
  have hW2 := Wd.kept (unhide HW) hK2
  have HW2 := hide hW2
  have HK2 := hide hK2
  have b1 : W2.cell? ⟨b, 1, none⟩ = some (.slice (some ⟨gs, 0, none⟩) ls caps) := hW2.blk.cell 1
  have hrs2 := range_kept (unhide HRS) hK2 hgsl (by simp)
  have c0 : W2.cell? ⟨gs, j * 4, none⟩ = some (.int .i64 mk) := hrs2 0 _ rfl
  have c1 : W2.cell? ⟨gs, j * 4 + 1, none⟩ = some (.int .i64 me) := hrs2 1 _ rfl
  have c2 : W2.cell? ⟨gs, j * 4 + 2, none⟩ = some (.int .i64 mf) := hrs2 2 _ rfl
  have c3 : W2.cell? ⟨gs, j * 4 + 3, none⟩ = some (.int .i64 (t : Int)) := hrs2 3 _ rfl
  have HH2 := hide (unhide HHR W2.drew ⟨hW2.blk, hW2.ro, hW2.so⟩)
  have t0 : ((0 : Int) < (ls : Int)) = True := by simp; omega
  have hj0 : (j : Int) < (ls : Int) := by omega
  have hls0 : 0 < ls := hsl
  clear hW2 hK2 hB2 hrs2 HHR HRS HPL
  go_upto_region 15 with fail
  go_region_law (first
    | (go_simp; go_at_call 50; refine (HPS _).mono ?_; rintro e w8 ⟨rfl, hq⟩; have hq2 := hq.symm; subst hq2; dsimp only)
    | (go_simp; go_at_call 54; refine (unhide HH2).mono ?_; rintro e w5 ⟨rfl, sv', hwd5, hk5, hv5⟩; have HWD5 := hide hwd5; have HK5 := hide hk5; have HV5 := hide hv5; clear hwd5 hk5 hv5; dsimp only))
  all_goals
    go_wp2
    go_ret
    refine ⟨rfl, sv', unhide HWD5, ?_, ?_⟩
    · exact (((unhide HK2).mono (G := b :: ((Value.slice (some ⟨g, 0, none⟩) n cap).ownBlock.toList ++ (Value.slice (some ⟨gs, 0, none⟩) ls caps).ownBlock.toList)) (fun x hx => by cases hx)).drew).trans (unhide HK5) (fun x hx => Or.inl hx)
    · rcases unhide HV5 with z | ⟨z, z1, z2⟩
      · exact Or.inl z
      · exact Or.inr ⟨z, z1, Nat.le_trans (unhide HK2).size z2⟩
end Go.Proofs.Ytnpabeodakncfaa
