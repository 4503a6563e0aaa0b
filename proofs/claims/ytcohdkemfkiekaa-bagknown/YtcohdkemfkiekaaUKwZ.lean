/- BagKnown. -/
import Derived.Test.YtcohdkemfkiekaaUKoZ
namespace Go.Proofs.Ytcohdkemfkiekaa
open Go.RowKit Go.Maps Go.Sort
set_option linter.unusedSimpArgs false

theorem trf_ne (w : World) : (binOp .neq 57 (.agg #[.int .i64 3, .int .i64 1, .int .i64 1, .int .i64 1, .int .i64 0]) (.agg #[.int .i64 3, .int .i64 1, .int .i64 1, .int .i64 1, .int .i64 0])).run Try.prog w = .ok (.bool false) w := by kernel_rfl
theorem trf_eq (w : World) : (binOp .eql 57 (.agg #[.int .i64 0, .int .i64 0, .int .i64 0, .int .i64 0, .int .i64 0]) (.agg #[.int .i64 0, .int .i64 0, .int .i64 0, .int .i64 0, .int .i64 0])).run Try.prog w = .ok (.bool true) w := by kernel_rfl
set_option maxRecDepth 100000 in
set_option maxHeartbeats 1600000 in
theorem bagKnown_walk (w : World) : Calls Try.prog 5 #[] w fun e w' => e = .returned (.bool true) ∧ Kept [] w w' := by
  have kc := fun (w : World) (C : Array Value) (n c : Nat) => Lib.run_convert_bytes_const (P := Try.prog) w 29 5 C n c Try.underlying29 Try.underlying5
  go_enter Try.func5, Try.ntmps5
  go_upto_region 3 with (go_at_call 16; refine (known_any _).mono ?_; rintro e w0 ⟨rfl, hk⟩; have HK0 := hide hk; clear hk)
  go_upto_region 4 with (go_at_call 8; refine (own_newB _).mono ?_; rintro e w1 ⟨b, rfl, hb⟩; have H1 := hide hb; clear hb)
  go_upto_region 5 with (go_at_call 14; refine (own_A ((unhide H1).kept ((Kept.refl [] w1).alloc _)) (sees_lit w1 97 _ _ (by decide))).mono ?_; rintro e w2 ⟨rfl, hb⟩; have H2 := hide hb; clear hb)
  go_upto_region 6 with (go_at_call 14; refine (own_B ((unhide H2).kept ((Kept.refl [] w2).alloc _)) (sees_lit w2 98 _ _ (by decide))).mono ?_; rintro e w3 ⟨rfl, hb⟩; have H3 := hide hb; clear hb)
  go_upto_region 7 with (go_at_call 14; refine (own_C (unhide H3) (Sees.nil _)).mono ?_; rintro e w4 ⟨rfl, hb⟩; have H4 := hide hb; clear hb)
  go_upto_region 8 with (go_at_call 17; refine (own_D (unhide H4)).mono ?_; rintro e w5 ⟨rfl, hb⟩; have H5 := hide hb; clear hb)
  clear H1 H2 H3 H4
  go_upto_region 9 with (go_at_call 18; refine (wait_D (unhide H5)).mono ?_; rintro e w6 ⟨g, cap, rfl, hg, c0, c3, hk⟩; have H6 := hide ((unhide H5).kept hk); clear hk H5)
  go_upto_region 11 with (first
    | (go_at_call 20; first
        | (refine (for_D1 (unhide H6)).mono ?_; rintro e w7 ⟨v7, rfl, hs7, hk⟩; have H7 := hide ((unhide H6).kept hk); have HS7 := hide hs7; obtain ⟨a7, cp7, rfl, -⟩ := hs7; clear hk H6)
        | (refine (for_D7 (unhide H8)).mono ?_; rintro e w9 ⟨a9, cp9, rfl, hk⟩; have H9 := hide ((unhide H8).kept hk); clear hk H8))
    | (go_at_call 19; refine (ints_any ((unhide HS7).kept ((Kept.refl [] _).alloc _) (Or.inr (by simp))) (sees_lit2 w7 0 2 _)).mono ?_; rintro e w8 ⟨rfl, mm, hq⟩; have H8 := hide ((unhide H7).kept (((Kept.refl [] w7).alloc (.cells #[.int .i64 0, .int .i64 2] 3)).drewN mm)); subst hq; clear H7 HS7))
  clear c0 c3 hg
  go_upto_region 12 with (go_at_call 21; refine (deliver_D (unhide H9)).mono ?_; rintro e w10 ⟨a10, cp10, rfl, F, hs, ha, hb, hk, hF⟩; have HD := hide (And.intro hs (And.intro ha (And.intro hb (And.intro hk hF)))); clear hs ha hb hk hF H9)
  refine world_at (R := fun X => Bk X b F gE ∧ Sees X (.slice a10 1 cp10) [98] ∧ Blk X w10.heap.size #[.int .i64 3, .int .i64 1, .int .i64 0, .slice a10 1 cp10] 48 ∧ Kept [] w0 X) ⟨(unhide HD).2.2.1.kept ((Kept.refl [] _).alloc _) (by simp), (unhide HD).1.kept ((Kept.refl [] _).alloc _) (Or.inr (by simp)), Blk.new _ _ _, (unhide HD).2.2.2.1.alloc _⟩ ?_
  rintro X ⟨hx1, hx2, hx3, hx4⟩
  have HX := hide (And.intro hx1 (And.intro hx2 (And.intro hx3 hx4)))
  have HAP := hide (And.intro (unhide HD).2.1 (And.intro (fun hm : w10.heap.size ∈ F => Nat.lt_irrefl _ ((unhide HD).2.2.1.lt _ hm)) (unhide HD).2.2.2.2))
  clear hx1 hx2 hx3 hx4 HD
  generalize w10.heap.size = B at *
  go_upto_region 13 with (go_at_call 21; refine (deliver_E (unhide HX).1).mono ?_; rintro e w11 ⟨rfl, hk⟩; have HK11 := hide hk; clear hk)
  refine world_at (R := fun Y => Bk Y b F gE ∧ Sees Y (.slice a10 1 cp10) [98] ∧ Blk Y B #[.int .i64 3, .int .i64 1, .int .i64 0, .slice a10 1 cp10] 48 ∧ Kept [] w0 Y) ⟨(unhide HX).1.kept ((unhide HK11).alloc _) (by simp), (unhide HX).2.1.kept ((unhide HK11).alloc _) (Or.inr (by simp)), (unhide HX).2.2.1.kept ((unhide HK11).alloc _) (by simp), ((unhide HX).2.2.2.trans (unhide HK11) (by simp)).alloc _⟩ ?_
  rintro Y hy
  have HY := hide hy
  clear hy HX HK11
  go_upto_region 14 with (go_at_call 22; refine (drop_E (unhide HY).1).mono ?_; rintro e w13 ⟨rfl, hb, hk⟩; have H13 : Hid (Bk w13 b F gF ∧ Sees w13 (.slice a10 1 cp10) [98] ∧ Blk w13 B #[.int .i64 3, .int .i64 1, .int .i64 0, .slice a10 1 cp10] 48 ∧ Kept [] w0 w13) := ⟨hb, (unhide HY).2.1.kept hk (Or.inr (unhide HAP).1), (unhide HY).2.2.1.kept hk (unhide HAP).2.1, (unhide HY).2.2.2.trans hk (fun x hx => Or.inr ((unhide HAP).2.2 x hx))⟩; clear hb hk)
  clear HY HAP
  go_upto_region 15 with (go_at_call 12; refine (len_F (unhide H13).1).mono ?_; rintro e w14 ⟨rfl, hk⟩; have HK14 := hide hk; clear hk)
  go_upto_region 16 with (go_at_call 17; refine (twice_F ((unhide H13).1.kept (unhide HK14) (by simp))).mono ?_; rintro e w15 ⟨rfl, hk⟩; have HK15 := hide ((unhide HK14).trans hk (by simp)); clear hk HK14)
  go_upto_region 17 with (go_at_call 14; refine (send_arg _ _ _ (Or.inl (by decide))).mono ?_; rintro e w16 ⟨rfl, hk⟩; have HK16 := hide ((unhide HK15).trans hk (by simp)); clear hk HK15)
  go_upto_region 18 with (first
    | (refine wpList_make_n _ rfl _ _ rfl 524289 (by omega) rfl rfl ?_; intro w17 hk; have HK17 := hide ((unhide HK16).trans hk (by simp)); clear hk HK16)
    | (go_at_call 14; refine (send_arg _ _ _ (Or.inr (by decide))).mono ?_; rintro e w18 ⟨rfl, hk⟩; have HK18 := hide ((unhide HK17).trans hk (by simp)); clear hk HK17))
  go_upto_region 19 with (first
    | (refine wpList_make_n _ rfl _ _ rfl 524289 (by omega) rfl rfl ?_; intro w19 hk; have HK19 := hide ((unhide HK18).trans hk (by simp)); clear hk HK18)
    | (go_at_call 14; refine (send_long _ _ (by decide) (by decide) (by omega)).mono ?_; rintro e w20 ⟨rfl, hk⟩; have HK20 := hide ((unhide HK19).trans hk (by simp)); clear hk HK19))
  have H20 : Hid (Bk w20 b F gF ∧ Sees w20 (.slice a10 1 cp10) [98] ∧ Blk w20 B #[.int .i64 3, .int .i64 1, .int .i64 0, .slice a10 1 cp10] 48 ∧ Kept [] w0 w20) := ⟨(unhide H13).1.kept (unhide HK20) (by simp), (unhide H13).2.1.kept (unhide HK20) (Or.inr (by simp)), (unhide H13).2.2.1.kept (unhide HK20) (by simp), (unhide H13).2.2.2.trans (unhide HK20) (by simp)⟩
  clear H13 HK20
  have d0 := (unhide H20).2.2.1.cell 0
  have d1 := (unhide H20).2.2.1.cell 1
  have d2 := (unhide H20).2.2.1.cell 2
  have d3 := (unhide H20).2.2.1.cell 3
  simp only [List.getElem?_toArray, List.getElem?_cons_zero, List.getElem?_cons_succ] at d0 d1 d2 d3
  go_upto_region 21 with (first
    | (go_at_call 15; refine (num_any _ _).mono ?_; rintro e w21 ⟨rfl, hq⟩; subst hq)
    | (go_at_call 23; refine (alike_any ((unhide H20).2.1.kept ((Kept.refl [] _).alloc _) (Or.inr (by simp))) (sees_lit _ 98 _ _ (by decide))).mono ?_; rintro e w22 ⟨rfl, hk⟩; have H22 : Hid (Bk w22 b F gF ∧ Kept [] w0 w22) := ⟨(unhide H20).1.kept (((Kept.refl [] _).alloc _).trans hk (by simp)) (by simp), (unhide H20).2.2.2.trans (((Kept.refl [] _).alloc _).trans hk (by simp)) (by simp)⟩; clear hk H20))
  have hne := trf_ne
  go_upto_region 23 with (go_at_call 24; refine (counts_F (unhide H22).1).mono ?_; rintro e w23 ⟨rfl, hk⟩; have H23 := hide ((unhide H22).2.trans hk (by simp)); clear hk H22)
  go_upto_region 25 with (go_at_call 14; refine (nsend _ _ _ _).mono ?_; rintro e w24 ⟨rfl, hk⟩; have H24 := hide ((unhide H23).trans hk (by simp)); clear hk H23)
  go_upto_region 26 with (go_at_call 21; refine (deliver_err (FindE.nil _ _) (by decide)).mono ?_; unfold zeroL; rintro e w25 ⟨rfl, hk⟩; have H25 := hide ((unhide H24).trans hk (by simp)); clear hk H24)
  refine world_at (R := fun Y => Kept [] w0 Y) ((unhide H25).alloc _) ?_
  rintro Y hy
  have H26 := hide hy
  clear hy H25
  go_upto_region 27 with (go_at_call 22; refine (drop_err (FindE.nil _ _) (by decide)).mono ?_; rintro e w27 ⟨rfl, hk⟩; have H27 := hide ((unhide H26).trans hk (by simp)); clear hk H26)
  go_upto_region 28 with (go_at_call 17; refine (twice_err (FindE.nil _ _) (by decide)).mono ?_; rintro e w28 ⟨rfl, hk⟩; have H28 := hide ((unhide H27).trans hk (by simp)); clear hk H27)
  have heq := trf_eq
  have HNC := hide ncounts
  unfold trfV newB at HNC
  go_wp2_with (first
    | (go_at_call 15; refine (num_any _ _).mono ?_; rintro e w29 ⟨rfl, hq⟩; subst hq)
    | (go_at_call 12; refine (nlen _).mono ?_; rintro e w30 ⟨rfl, hk⟩; have H30 := hide ((unhide H28).trans hk (by simp)); clear hk H28)
    | (go_at_call 18; refine (nwait _).mono ?_; rintro e w31 ⟨v, l, rfl, hl, hv, hk⟩; have H31 := hide ((unhide H30).trans hk (by simp)); obtain ⟨a31, cp31, rfl, -⟩ := hv.row; obtain rfl : l = [] := (by simpa using hl); clear hk H30 hv hl)
    | (go_at_call 20; refine (nfor _ _).mono ?_; rintro e w32 ⟨v, rfl, hv, hk⟩; have H32 := hide ((unhide H31).trans hk (by simp)); obtain ⟨a32, cp32, rfl, -⟩ := hv; clear hk H31)
    | (go_at_call 24; refine (unhide HNC _).mono ?_; rintro e w33 ⟨rfl, hk⟩; have H33 := hide ((unhide H32).trans hk (by simp)); clear hk H32))
  go_ret
  exact ⟨rfl, (unhide HK0).trans (unhide H33) (by simp)⟩
end Go.Proofs.Ytcohdkemfkiekaa
