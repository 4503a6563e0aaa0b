/- A text of the base. -/
import Derived.Test.YtocmgfmfalaebaaPkBF
/- RecordBack. -/
namespace Go.Proofs.Ytocmgfmfalaebaa
open Go.RowKit

/-- Two records in their boxes. -/
structure TwoR (w : World) (p q : Pl) (l m : Lo) (b b2 : Nat) (X : World) : Prop where
  one : RecW X p l
  two : RecW X q m
  b1 : Blk X b (rcc p l) 26
  bb : Blk X b2 (rcc q m) 26
  kept : Kept [] w X
theorem TwoR.go {w : World} {p q : Pl} {l m : Lo} {b b2 : Nat} {X Y : World} (h : TwoR w p q l m b b2 X) (k : Kept [] X Y) : TwoR w p q l m b b2 Y := ⟨h.one.kept k, h.two.kept k, h.b1.kept k (by simp), h.bb.kept k (by simp), h.kept.step k⟩
theorem TwoR.begin {w : World} {p q : Pl} {l m : Lo} (h1 : RecW w p l) (h2 : RecW w q m) : TwoR w p q l m w.heap.size (w.heap.size + 1) ((w.alloc (.cells (rcc p l) 26)).alloc (.cells (rcc q m) 26)) := by
  have k := ((Kept.refl [] w).alloc (.cells (rcc p l) 26)).alloc (.cells (rcc q m) 26)
  exact ⟨h1.kept k, h2.kept k, (Blk.new _ _ _).alloc _, new1 _ _ _ _, k⟩
/-- A form is of bytes. -/
theorem enc_bytes {p : Pl} (h : snd p = true) (hk : ∀ x ∈ p.key, x < 256) (hv : ∀ x ∈ p.val, x < 256) (hc : ∀ x ∈ p.copy, x < 256) : ∀ x ∈ enc p, x < 256 := by
  have hO : wrt p.okind p.key.length p.val.length p.rev = true → ∀ x ∈ formO p, x < 256 := fun hw x hx => by
    have h3 := (wrt_iff.1 hw).2
    unfold formO at hx
    simp only [List.mem_append, List.mem_singleton] at hx
    rcases hx with ((hx | hx | hx) | hx) | hx
    · omega
    · exact form_byte _ x hx
    · exact hk x hx
    · split at hx
      · rcases List.mem_append.1 hx with hx | hx
        · exact form_byte _ x hx
        · exact hv x hx
      · cases hx
    · split at hx
      · exact form_byte _ x hx
      · cases hx
  intro x hx
  rcases (snd_iff p).1 h with g | g | g | g
  · rw [enc_W g.1] at hx
    simp only [List.mem_append, List.mem_singleton] at hx
    rcases hx with hx | hx | hx | hx | hx
    · omega
    · exact form_byte _ x hx
    · exact form_byte _ x hx
    · exact form_byte _ x hx
    · exact hO g.2.2.2.2.1 x hx
  · rw [enc_O g.1] at hx
    simp only [List.mem_append, List.mem_singleton] at hx
    rcases hx with hx | hx | hx
    · omega
    · exact form_byte _ x hx
    · exact form_byte _ x hx
  · rw [enc_I g.1] at hx
    simp only [List.mem_append, List.mem_singleton] at hx
    rcases hx with hx | hx | hx | hx | hx | hx
    · omega
    · exact form_byte _ x hx
    · exact form_byte _ x hx
    · exact form_byte _ x hx
    · exact form_byte _ x hx
    · exact hc x hx
  · rw [enc_S g.1] at hx
    simp only [List.mem_append, List.mem_singleton] at hx
    rcases hx with hx | hx
    · have := g.1; omega
    · exact form_byte _ x hx

set_option maxRecDepth 100000 in
set_option maxHeartbeats 1600000 in
theorem back_yy (w : World) (p q : Pl) (l m : Lo) (h1 : RecW w p l) (h2 : RecW w q m) (hs : snd p = true) (hs2 : snd q = true) (hby : ∀ x ∈ enc p, x < 256) : Calls Try.prog 5 #[rv p l, rv q m] w fun e w' => e = .returned (.bool true) ∧ Kept [] w w' := by
  have HA := hide (fun W => awake_any W)
  have HD0 := hide (TwoR.begin h1 h2)
  clear h1 h2
  rw [rv_lit, rv_lit]
  have HSP := hide hs
  have HPL : Hid ((enc p).length ≤ 140737488355328) := by have := len_all hs; unfold Hid; omega
  have HBY := hide hby
  clear hs hby
  have HSQ := hide hs2
  have heq : decide (enc p = enc q) = eqR p q := by
    rw [Bool.eq_iff_iff, eqR_iff, decide_eq_true_eq]
    exact ⟨fun h => enc_inj (unhide HSP) hs2 h, fun h => by rw [h]⟩
  generalize ht : eqR p q = t at heq
  have HT := hide ht
  have HEQ := hide heq
  clear hs2 heq ht
  have HG1 : Hid True := trivial
  go_enter Try.func5, Try.ntmps5
  go_upto_region 6 with (first
    | (go_at_call 22; refine (unhide HA _).mono ?_; rintro e w1 ⟨rfl, k1⟩; have HD1 := hide ((unhide HD0).go k1); clear k1; obtain ⟨d0, d1, d2, d3, d4, d5, d6, d7, d8, d9, d10⟩ := box11 (unhide HD1).b1; obtain ⟨c0, c1, c2, c3, c4, c5, c6, c7, c8, c9, c10⟩ := box11 (unhide HD1).bb)
    | (go_at_call 12; clear HG1; refine (encode_any _ p l (unhide HD1).one.far).mono ?_; rintro e w2 ⟨k2, hz⟩; rcases hz with ⟨-, a2, cc2, rfl, ho⟩ | ⟨hz, -⟩; rotate_left; (exact absurd hz (by rw [unhide HSP]; simp)); have HO2 := hide (Sees.of_own ho); have HD2 := hide ((unhide HD1).go k2); obtain ⟨d0, d1, d2, d3, d4, d5, d6, d7, d8, d9, d10⟩ := box11 (unhide HD2).b1; obtain ⟨c0, c1, c2, c3, c4, c5, c6, c7, c8, c9, c10⟩ := box11 (unhide HD2).bb; clear k2)
    | (go_at_call 12; refine (encode_any _ q m (unhide HD2).two.far).mono ?_; rintro e w3 ⟨k3, hz⟩; rcases hz with ⟨-, a3, cc3, rfl, ho⟩ | ⟨hz, -⟩; rotate_left; (exact absurd hz (by rw [unhide HSQ]; simp)); have HO3 := hide (Sees.of_own ho); have HO2 := hide ((unhide HO2).kept k3 (by simp)); have HD3 := hide ((unhide HD2).go k3); obtain ⟨d0, d1, d2, d3, d4, d5, d6, d7, d8, d9, d10⟩ := box11 (unhide HD3).b1; obtain ⟨c0, c1, c2, c3, c4, c5, c6, c7, c8, c9, c10⟩ := box11 (unhide HD3).bb; clear k3)
    | (go_at_call 13; refine (size_anyR _ p l (unhide HD3).one.far).mono ?_; rintro e w4 ⟨k4, hz⟩; rcases hz with ⟨-, rfl⟩ | ⟨hz, -⟩; rotate_left; (exact absurd hz (by rw [unhide HSP]; simp)); have HO2 := hide ((unhide HO2).kept k4 (by simp)); have HO3 := hide ((unhide HO3).kept k4 (by simp)); have HD4 := hide ((unhide HD3).go k4); obtain ⟨d0, d1, d2, d3, d4, d5, d6, d7, d8, d9, d10⟩ := box11 (unhide HD4).b1; obtain ⟨c0, c1, c2, c3, c4, c5, c6, c7, c8, c9, c10⟩ := box11 (unhide HD4).bb; clear k4))
  go_cut [44] (fun t wc => t = .bool false ∧ Hid (TwoR w p q l m w.heap.size (w.heap.size + 1) wc ∧ Sees wc (.slice a2 (enc p).length cc2) (enc p)))
  case first =>
    have HS4 := hide (fun W (k : Kept [] w4 W) => same_full (Or.inl ((unhide HO2).kept k (by simp))) (Or.inl ((unhide HO3).kept k (by simp))) (unhide HPL))
    have HR4 := hide (fun W (k : Kept [] w4 W) => sameRec_any ((unhide HD4).one.kept k) ((unhide HD4).two.kept k))
    rw [unhide HEQ] at HS4
    rw [unhide HT, rv_lit, rv_lit] at HR4
    have HCL := hide (fun W (k : Kept [] w4 W) => And.intro (box11 ((unhide HD4).b1.kept k (by simp))) (box11 ((unhide HD4).bb.kept k (by simp))))
    have HFIN := hide (fun W (k : Kept [] w4 W) => And.intro ((unhide HD4).go k) ((unhide HO2).kept k (by simp)))
    clear HD1 HD2 HD3 HD4 HO2 HO3 HA HD0
    generalize hx0 : (Value.int .i64 p.kind) = x0 at d0 HR4 HCL ⊢
    have HX0 := hide hx0
    clear hx0
    generalize hx1 : (Value.int .i64 p.shard) = x1 at d1 HR4 HCL ⊢
    have HX1 := hide hx1
    clear hx1
    generalize hx2 : (Value.int .i64 p.epoch) = x2 at d2 HR4 HCL ⊢
    have HX2 := hide hx2
    clear hx2
    generalize hx3 : (Value.int .i64 p.peer) = x3 at d3 HR4 HCL ⊢
    have HX3 := hide hx3
    clear hx3
    generalize hx4 : (Value.int .i64 p.client) = x4 at d4 HR4 HCL ⊢
    have HX4 := hide hx4
    clear hx4
    generalize hx5 : (Value.int .i64 p.seq) = x5 at d5 HR4 HCL ⊢
    have HX5 := hide hx5
    clear hx5
    generalize hx6 : (Value.int .i64 p.okind) = x6 at d6 HR4 HCL ⊢
    have HX6 := hide hx6
    clear hx6
    generalize hx7 : (Value.slice l.ka p.key.length l.kc) = x7 at d7 HR4 HCL ⊢
    have HX7 := hide hx7
    clear hx7
    generalize hx8 : (Value.slice l.va p.val.length l.vc) = x8 at d8 HR4 HCL ⊢
    have HX8 := hide hx8
    clear hx8
    generalize hx9 : (Value.int .i64 p.rev) = x9 at d9 HR4 HCL ⊢
    have HX9 := hide hx9
    clear hx9
    generalize hx10 : (Value.slice l.ca p.copy.length l.cc) = x10 at d10 HR4 HCL ⊢
    have HX10 := hide hx10
    clear hx10
    generalize hy0 : (Value.int .i64 q.kind) = y0 at c0 HR4 HCL ⊢
    have HY0 := hide hy0
    clear hy0
    generalize hy1 : (Value.int .i64 q.shard) = y1 at c1 HR4 HCL ⊢
    have HY1 := hide hy1
    clear hy1
    generalize hy2 : (Value.int .i64 q.epoch) = y2 at c2 HR4 HCL ⊢
    have HY2 := hide hy2
    clear hy2
    generalize hy3 : (Value.int .i64 q.peer) = y3 at c3 HR4 HCL ⊢
    have HY3 := hide hy3
    clear hy3
    generalize hy4 : (Value.int .i64 q.client) = y4 at c4 HR4 HCL ⊢
    have HY4 := hide hy4
    clear hy4
    generalize hy5 : (Value.int .i64 q.seq) = y5 at c5 HR4 HCL ⊢
    have HY5 := hide hy5
    clear hy5
    generalize hy6 : (Value.int .i64 q.okind) = y6 at c6 HR4 HCL ⊢
    have HY6 := hide hy6
    clear hy6
    generalize hy7 : (Value.slice m.ka q.key.length m.kc) = y7 at c7 HR4 HCL ⊢
    have HY7 := hide hy7
    clear hy7
    generalize hy8 : (Value.slice m.va q.val.length m.vc) = y8 at c8 HR4 HCL ⊢
    have HY8 := hide hy8
    clear hy8
    generalize hy9 : (Value.int .i64 q.rev) = y9 at c9 HR4 HCL ⊢
    have HY9 := hide hy9
    clear hy9
    generalize hy10 : (Value.slice m.ca q.copy.length m.cc) = y10 at c10 HR4 HCL ⊢
    have HY10 := hide hy10
    clear hy10
    go_region_held3 (fun W => W.cell? ⟨w.heap.size, 0, none⟩ = some x0 ∧ W.cell? ⟨w.heap.size, 1, none⟩ = some x1 ∧ W.cell? ⟨w.heap.size, 2, none⟩ = some x2 ∧ W.cell? ⟨w.heap.size, 3, none⟩ = some x3 ∧ W.cell? ⟨w.heap.size, 4, none⟩ = some x4 ∧ W.cell? ⟨w.heap.size, 5, none⟩ = some x5 ∧ W.cell? ⟨w.heap.size, 6, none⟩ = some x6 ∧ W.cell? ⟨w.heap.size, 7, none⟩ = some x7 ∧ W.cell? ⟨w.heap.size, 8, none⟩ = some x8 ∧ W.cell? ⟨w.heap.size, 9, none⟩ = some x9 ∧ W.cell? ⟨w.heap.size, 10, none⟩ = some x10 ∧ W.cell? ⟨w.heap.size + 1, 0, none⟩ = some y0 ∧ W.cell? ⟨w.heap.size + 1, 1, none⟩ = some y1 ∧ W.cell? ⟨w.heap.size + 1, 2, none⟩ = some y2 ∧ W.cell? ⟨w.heap.size + 1, 3, none⟩ = some y3 ∧ W.cell? ⟨w.heap.size + 1, 4, none⟩ = some y4 ∧ W.cell? ⟨w.heap.size + 1, 5, none⟩ = some y5 ∧ W.cell? ⟨w.heap.size + 1, 6, none⟩ = some y6 ∧ W.cell? ⟨w.heap.size + 1, 7, none⟩ = some y7 ∧ W.cell? ⟨w.heap.size + 1, 8, none⟩ = some y8 ∧ W.cell? ⟨w.heap.size + 1, 9, none⟩ = some y9 ∧ W.cell? ⟨w.heap.size + 1, 10, none⟩ = some y10) (go_keep) (first
      | (go_at_call 16; refine (unhide HS4 _ (by first | exact Kept.refl _ _ | exact (Kept.refl _ _).drew)).mono ?_; rintro e w5 ⟨rfl, k5⟩; have K5 : Hid (Kept [] w4 w5) := (by first | exact k5 | exact Kept.step ((Kept.refl [] w4).drew) k5); obtain ⟨⟨d0, d1, d2, d3, d4, d5, d6, d7, d8, d9, d10⟩, ⟨c0, c1, c2, c3, c4, c5, c6, c7, c8, c9, c10⟩⟩ := unhide HCL _ (unhide K5); clear k5)
      | (go_at_call 21; refine (unhide HR4 _ (by first | exact unhide K5 | exact (unhide K5).drew)).mono ?_; rintro e w6 ⟨rfl, k6⟩; have K6 : Hid (Kept [] w4 w6) := (by first | exact (unhide K5).step k6 | exact ((unhide K5).drew).step k6); obtain ⟨⟨d0, d1, d2, d3, d4, d5, d6, d7, d8, d9, d10⟩, ⟨c0, c1, c2, c3, c4, c5, c6, c7, c8, c9, c10⟩⟩ := unhide HCL _ (unhide K6); clear k6))
    all_goals
      go_wp2_with fail
      have hx0 := unhide HX0
      subst hx0
      have hx1 := unhide HX1
      subst hx1
      have hx2 := unhide HX2
      subst hx2
      have hx3 := unhide HX3
      subst hx3
      have hx4 := unhide HX4
      subst hx4
      have hx5 := unhide HX5
      subst hx5
      have hx6 := unhide HX6
      subst hx6
      have hx7 := unhide HX7
      subst hx7
      have hx8 := unhide HX8
      subst hx8
      have hx9 := unhide HX9
      subst hx9
      have hx10 := unhide HX10
      subst hx10
      have hy0 := unhide HY0
      subst hy0
      have hy1 := unhide HY1
      subst hy1
      have hy2 := unhide HY2
      subst hy2
      have hy3 := unhide HY3
      subst hy3
      have hy4 := unhide HY4
      subst hy4
      have hy5 := unhide HY5
      subst hy5
      have hy6 := unhide HY6
      subst hy6
      have hy7 := unhide HY7
      subst hy7
      have hy8 := unhide HY8
      subst hy8
      have hy9 := unhide HY9
      subst hy9
      have hy10 := unhide HY10
      subst hy10
      go_meet
      exact ⟨by simp, hide (unhide HFIN _ (unhide K6))⟩
  case rest =>
    obtain ⟨rfl, HC⟩ := hcut
    have HD6 := hide (unhide HC).1
    have HO2 := hide (unhide HC).2
    obtain ⟨d0, d1, d2, d3, d4, d5, d6, d7, d8, d9, d10⟩ := box11 (unhide HD6).b1; obtain ⟨c0, c1, c2, c3, c4, c5, c6, c7, c8, c9, c10⟩ := box11 (unhide HD6).bb
    go_wp2_with (first
      | (go_at_call 19; refine (decode_any _ _ (enc p) (Or.inl (unhide HO2)) (unhide HPL) (unhide HBY)).mono ?_; rintro e w7 ⟨k7, hz⟩; rcases hz with ⟨p2, l2, hz, rfl, hn⟩ | ⟨hz, -⟩; rotate_left; (exact absurd hz (by rw [dec_enc (unhide HSP)]; simp)); rw [dec_enc (unhide HSP)] at hz; have hz' := (Option.some.inj hz).symm; subst hz'; clear hz; rw [rv_lit]; have k7' := (Kept.refl [] w7).alloc (.cells #[.int .i64 p2.kind, .int .i64 p2.shard, .int .i64 p2.epoch, .int .i64 p2.peer, .int .i64 p2.client, .int .i64 p2.seq, .int .i64 p2.okind, .slice l2.ka p2.key.length l2.kc, .slice l2.va p2.val.length l2.vc, .int .i64 p2.rev, .slice l2.ca p2.copy.length l2.cc] 26); have HD7 := hide (((unhide HD6).go k7).go k7'); have HR2 := hide ((hn.snd (unhide HSP)).kept k7'); have HB2 := hide (Blk.new w7 #[.int .i64 p2.kind, .int .i64 p2.shard, .int .i64 p2.epoch, .int .i64 p2.peer, .int .i64 p2.client, .int .i64 p2.seq, .int .i64 p2.okind, .slice l2.ka p2.key.length l2.kc, .slice l2.va p2.val.length l2.vc, .int .i64 p2.rev, .slice l2.ca p2.copy.length l2.cc] 26); obtain ⟨e0, e1, e2, e3, e4, e5, e6, e7, e8, e9, e10⟩ := box11 (unhide HB2); obtain ⟨d0, d1, d2, d3, d4, d5, d6, d7, d8, d9, d10⟩ := box11 (unhide HD7).b1; obtain ⟨c0, c1, c2, c3, c4, c5, c6, c7, c8, c9, c10⟩ := box11 (unhide HD7).bb; clear k7 hn k7')
      | (go_at_call 21; refine (sameRec_any (unhide HD7).one (unhide HR2)).mono ?_; rintro e w8 ⟨rfl, k8⟩; rw [(eqR_iff _ _).2 rfl]; have HD8 := hide ((unhide HD7).go k8); obtain ⟨d0, d1, d2, d3, d4, d5, d6, d7, d8, d9, d10⟩ := box11 (unhide HD8).b1; obtain ⟨c0, c1, c2, c3, c4, c5, c6, c7, c8, c9, c10⟩ := box11 (unhide HD8).bb; clear k8)
      | (go_at_call 14; refine (sound_any _ _ l).mono ?_; rintro e w9 ⟨rfl, k9⟩; rw [unhide HSP]; have HKZ := hide ((unhide HD8).kept.step k9); clear k9))
    all_goals
      go_ret
      exact ⟨rfl, unhide HKZ⟩
set_option maxRecDepth 100000 in
set_option maxHeartbeats 1600000 in
theorem back_yn (w : World) (p q : Pl) (l m : Lo) (h1 : RecW w p l) (h2 : RecW w q m) (hs : snd p = true) (hs2 : snd q = false) (hby : ∀ x ∈ enc p, x < 256) : Calls Try.prog 5 #[rv p l, rv q m] w fun e w' => e = .returned (.bool true) ∧ Kept [] w w' := by
  have HA := hide (fun W => awake_any W)
  have HD0 := hide (TwoR.begin h1 h2)
  clear h1 h2
  rw [rv_lit, rv_lit]
  have HSP := hide hs
  have HPL : Hid ((enc p).length ≤ 140737488355328) := by have := len_all hs; unfold Hid; omega
  have HBY := hide hby
  clear hs hby
  have HSQ := hide hs2
  clear hs2
  have HG1 : Hid True := trivial
  go_enter Try.func5, Try.ntmps5
  go_upto_region 6 with (first
    | (go_at_call 22; refine (unhide HA _).mono ?_; rintro e w1 ⟨rfl, k1⟩; have HD1 := hide ((unhide HD0).go k1); clear k1; obtain ⟨d0, d1, d2, d3, d4, d5, d6, d7, d8, d9, d10⟩ := box11 (unhide HD1).b1; obtain ⟨c0, c1, c2, c3, c4, c5, c6, c7, c8, c9, c10⟩ := box11 (unhide HD1).bb)
    | (go_at_call 12; clear HG1; refine (encode_any _ p l (unhide HD1).one.far).mono ?_; rintro e w2 ⟨k2, hz⟩; rcases hz with ⟨-, a2, cc2, rfl, ho⟩ | ⟨hz, -⟩; rotate_left; (exact absurd hz (by rw [unhide HSP]; simp)); have HO2 := hide (Sees.of_own ho); have HD2 := hide ((unhide HD1).go k2); obtain ⟨d0, d1, d2, d3, d4, d5, d6, d7, d8, d9, d10⟩ := box11 (unhide HD2).b1; obtain ⟨c0, c1, c2, c3, c4, c5, c6, c7, c8, c9, c10⟩ := box11 (unhide HD2).bb; clear k2)
    | (go_at_call 12; refine (encode_any _ q m (unhide HD2).two.far).mono ?_; rintro e w3 ⟨k3, hz⟩; rcases hz with ⟨hz, -⟩ | ⟨-, rfl⟩; (exact absurd hz (by rw [unhide HSQ]; simp)); have HO2 := hide ((unhide HO2).kept k3 (by simp)); have HD3 := hide ((unhide HD2).go k3); obtain ⟨d0, d1, d2, d3, d4, d5, d6, d7, d8, d9, d10⟩ := box11 (unhide HD3).b1; obtain ⟨c0, c1, c2, c3, c4, c5, c6, c7, c8, c9, c10⟩ := box11 (unhide HD3).bb; clear k3)
    | (go_at_call 13; refine (size_anyR _ p l (unhide HD3).one.far).mono ?_; rintro e w4 ⟨k4, hz⟩; rcases hz with ⟨-, rfl⟩ | ⟨hz, -⟩; rotate_left; (exact absurd hz (by rw [unhide HSP]; simp)); have HO2 := hide ((unhide HO2).kept k4 (by simp)); have HD4 := hide ((unhide HD3).go k4); obtain ⟨d0, d1, d2, d3, d4, d5, d6, d7, d8, d9, d10⟩ := box11 (unhide HD4).b1; obtain ⟨c0, c1, c2, c3, c4, c5, c6, c7, c8, c9, c10⟩ := box11 (unhide HD4).bb; clear k4))
  go_cut [44] (fun t wc => t = .bool false ∧ Hid (TwoR w p q l m w.heap.size (w.heap.size + 1) wc ∧ Sees wc (.slice a2 (enc p).length cc2) (enc p)))
  case first =>
    go_quiet (fail)
    go_wp2_with fail
    go_meet
    exact ⟨rfl, hide ⟨(unhide HD4).go ((Kept.refl [] w4).drewN _), (unhide HO2).kept ((Kept.refl [] w4).drewN _) (by simp)⟩⟩
  case rest =>
    obtain ⟨rfl, HC⟩ := hcut
    have HD6 := hide (unhide HC).1
    have HO2 := hide (unhide HC).2
    obtain ⟨d0, d1, d2, d3, d4, d5, d6, d7, d8, d9, d10⟩ := box11 (unhide HD6).b1; obtain ⟨c0, c1, c2, c3, c4, c5, c6, c7, c8, c9, c10⟩ := box11 (unhide HD6).bb
    go_wp2_with (first
      | (go_at_call 19; refine (decode_any _ _ (enc p) (Or.inl (unhide HO2)) (unhide HPL) (unhide HBY)).mono ?_; rintro e w7 ⟨k7, hz⟩; rcases hz with ⟨p2, l2, hz, rfl, hn⟩ | ⟨hz, -⟩; rotate_left; (exact absurd hz (by rw [dec_enc (unhide HSP)]; simp)); rw [dec_enc (unhide HSP)] at hz; have hz' := (Option.some.inj hz).symm; subst hz'; clear hz; rw [rv_lit]; have k7' := (Kept.refl [] w7).alloc (.cells #[.int .i64 p2.kind, .int .i64 p2.shard, .int .i64 p2.epoch, .int .i64 p2.peer, .int .i64 p2.client, .int .i64 p2.seq, .int .i64 p2.okind, .slice l2.ka p2.key.length l2.kc, .slice l2.va p2.val.length l2.vc, .int .i64 p2.rev, .slice l2.ca p2.copy.length l2.cc] 26); have HD7 := hide (((unhide HD6).go k7).go k7'); have HR2 := hide ((hn.snd (unhide HSP)).kept k7'); have HB2 := hide (Blk.new w7 #[.int .i64 p2.kind, .int .i64 p2.shard, .int .i64 p2.epoch, .int .i64 p2.peer, .int .i64 p2.client, .int .i64 p2.seq, .int .i64 p2.okind, .slice l2.ka p2.key.length l2.kc, .slice l2.va p2.val.length l2.vc, .int .i64 p2.rev, .slice l2.ca p2.copy.length l2.cc] 26); obtain ⟨e0, e1, e2, e3, e4, e5, e6, e7, e8, e9, e10⟩ := box11 (unhide HB2); obtain ⟨d0, d1, d2, d3, d4, d5, d6, d7, d8, d9, d10⟩ := box11 (unhide HD7).b1; obtain ⟨c0, c1, c2, c3, c4, c5, c6, c7, c8, c9, c10⟩ := box11 (unhide HD7).bb; clear k7 hn k7')
      | (go_at_call 21; refine (sameRec_any (unhide HD7).one (unhide HR2)).mono ?_; rintro e w8 ⟨rfl, k8⟩; rw [(eqR_iff _ _).2 rfl]; have HD8 := hide ((unhide HD7).go k8); obtain ⟨d0, d1, d2, d3, d4, d5, d6, d7, d8, d9, d10⟩ := box11 (unhide HD8).b1; obtain ⟨c0, c1, c2, c3, c4, c5, c6, c7, c8, c9, c10⟩ := box11 (unhide HD8).bb; clear k8)
      | (go_at_call 14; refine (sound_any _ _ l).mono ?_; rintro e w9 ⟨rfl, k9⟩; rw [unhide HSP]; have HKZ := hide ((unhide HD8).kept.step k9); clear k9))
    all_goals
      go_ret
      exact ⟨rfl, unhide HKZ⟩
set_option maxRecDepth 100000 in
set_option maxHeartbeats 1600000 in
theorem back_ny (w : World) (p q : Pl) (l m : Lo) (h1 : RecW w p l) (h2 : RecW w q m) (hs : snd p = false) (hs2 : snd q = true) : Calls Try.prog 5 #[rv p l, rv q m] w fun e w' => e = .returned (.bool true) ∧ Kept [] w w' := by
  have HA := hide (fun W => awake_any W)
  have HD0 := hide (TwoR.begin h1 h2)
  clear h1 h2
  rw [rv_lit, rv_lit]
  have HSP := hide hs
  clear hs
  have HSQ := hide hs2
  clear hs2
  have HG1 : Hid True := trivial
  go_enter Try.func5, Try.ntmps5
  go_upto_region 6 with (first
    | (go_at_call 22; refine (unhide HA _).mono ?_; rintro e w1 ⟨rfl, k1⟩; have HD1 := hide ((unhide HD0).go k1); clear k1; obtain ⟨d0, d1, d2, d3, d4, d5, d6, d7, d8, d9, d10⟩ := box11 (unhide HD1).b1; obtain ⟨c0, c1, c2, c3, c4, c5, c6, c7, c8, c9, c10⟩ := box11 (unhide HD1).bb)
    | (go_at_call 12; clear HG1; refine (encode_any _ p l (unhide HD1).one.far).mono ?_; rintro e w2 ⟨k2, hz⟩; rcases hz with ⟨hz, -⟩ | ⟨-, rfl⟩; (exact absurd hz (by rw [unhide HSP]; simp)); have HD2 := hide ((unhide HD1).go k2); obtain ⟨d0, d1, d2, d3, d4, d5, d6, d7, d8, d9, d10⟩ := box11 (unhide HD2).b1; obtain ⟨c0, c1, c2, c3, c4, c5, c6, c7, c8, c9, c10⟩ := box11 (unhide HD2).bb; clear k2)
    | (go_at_call 12; refine (encode_any _ q m (unhide HD2).two.far).mono ?_; rintro e w3 ⟨k3, hz⟩; rcases hz with ⟨-, a3, cc3, rfl, ho⟩ | ⟨hz, -⟩; rotate_left; (exact absurd hz (by rw [unhide HSQ]; simp)); have HO3 := hide (Sees.of_own ho); have HD3 := hide ((unhide HD2).go k3); obtain ⟨d0, d1, d2, d3, d4, d5, d6, d7, d8, d9, d10⟩ := box11 (unhide HD3).b1; obtain ⟨c0, c1, c2, c3, c4, c5, c6, c7, c8, c9, c10⟩ := box11 (unhide HD3).bb; clear k3)
    | (go_at_call 13; refine (size_anyR _ p l (unhide HD3).one.far).mono ?_; rintro e w4 ⟨k4, hz⟩; rcases hz with ⟨hz, -⟩ | ⟨-, rfl⟩; (exact absurd hz (by rw [unhide HSP]; simp)); have HD4 := hide ((unhide HD3).go k4); obtain ⟨d0, d1, d2, d3, d4, d5, d6, d7, d8, d9, d10⟩ := box11 (unhide HD4).b1; obtain ⟨c0, c1, c2, c3, c4, c5, c6, c7, c8, c9, c10⟩ := box11 (unhide HD4).bb; clear k4))
  go_cut [44] (fun t wc => t = .bool false ∧ Hid (TwoR w p q l m w.heap.size (w.heap.size + 1) wc))
  case first =>
    go_quiet (fail)
    go_wp2_with fail
    go_meet
    exact ⟨rfl, hide ((unhide HD4).go ((Kept.refl [] w4).drewN _))⟩
  case rest =>
    obtain ⟨rfl, HC⟩ := hcut
    have HD6 := hide (unhide HC)
    obtain ⟨d0, d1, d2, d3, d4, d5, d6, d7, d8, d9, d10⟩ := box11 (unhide HD6).b1; obtain ⟨c0, c1, c2, c3, c4, c5, c6, c7, c8, c9, c10⟩ := box11 (unhide HD6).bb
    go_wp2_with (first
      | (go_at_call 14; refine (sound_any _ p l).mono ?_; rintro e w7 ⟨rfl, k7⟩; rw [unhide HSP]; have HKZ := hide ((unhide HD6).kept.step k7); clear k7))
    all_goals
      go_ret
      exact ⟨rfl, unhide HKZ⟩
set_option maxRecDepth 100000 in
set_option maxHeartbeats 1600000 in
theorem back_nn (w : World) (p q : Pl) (l m : Lo) (h1 : RecW w p l) (h2 : RecW w q m) (hs : snd p = false) (hs2 : snd q = false) : Calls Try.prog 5 #[rv p l, rv q m] w fun e w' => e = .returned (.bool true) ∧ Kept [] w w' := by
  have HA := hide (fun W => awake_any W)
  have HD0 := hide (TwoR.begin h1 h2)
  clear h1 h2
  rw [rv_lit, rv_lit]
  have HSP := hide hs
  clear hs
  have HSQ := hide hs2
  clear hs2
  have HG1 : Hid True := trivial
  go_enter Try.func5, Try.ntmps5
  go_upto_region 6 with (first
    | (go_at_call 22; refine (unhide HA _).mono ?_; rintro e w1 ⟨rfl, k1⟩; have HD1 := hide ((unhide HD0).go k1); clear k1; obtain ⟨d0, d1, d2, d3, d4, d5, d6, d7, d8, d9, d10⟩ := box11 (unhide HD1).b1; obtain ⟨c0, c1, c2, c3, c4, c5, c6, c7, c8, c9, c10⟩ := box11 (unhide HD1).bb)
    | (go_at_call 12; clear HG1; refine (encode_any _ p l (unhide HD1).one.far).mono ?_; rintro e w2 ⟨k2, hz⟩; rcases hz with ⟨hz, -⟩ | ⟨-, rfl⟩; (exact absurd hz (by rw [unhide HSP]; simp)); have HD2 := hide ((unhide HD1).go k2); obtain ⟨d0, d1, d2, d3, d4, d5, d6, d7, d8, d9, d10⟩ := box11 (unhide HD2).b1; obtain ⟨c0, c1, c2, c3, c4, c5, c6, c7, c8, c9, c10⟩ := box11 (unhide HD2).bb; clear k2)
    | (go_at_call 12; refine (encode_any _ q m (unhide HD2).two.far).mono ?_; rintro e w3 ⟨k3, hz⟩; rcases hz with ⟨hz, -⟩ | ⟨-, rfl⟩; (exact absurd hz (by rw [unhide HSQ]; simp)); have HD3 := hide ((unhide HD2).go k3); obtain ⟨d0, d1, d2, d3, d4, d5, d6, d7, d8, d9, d10⟩ := box11 (unhide HD3).b1; obtain ⟨c0, c1, c2, c3, c4, c5, c6, c7, c8, c9, c10⟩ := box11 (unhide HD3).bb; clear k3)
    | (go_at_call 13; refine (size_anyR _ p l (unhide HD3).one.far).mono ?_; rintro e w4 ⟨k4, hz⟩; rcases hz with ⟨hz, -⟩ | ⟨-, rfl⟩; (exact absurd hz (by rw [unhide HSP]; simp)); have HD4 := hide ((unhide HD3).go k4); obtain ⟨d0, d1, d2, d3, d4, d5, d6, d7, d8, d9, d10⟩ := box11 (unhide HD4).b1; obtain ⟨c0, c1, c2, c3, c4, c5, c6, c7, c8, c9, c10⟩ := box11 (unhide HD4).bb; clear k4))
  go_cut [44] (fun t wc => t = .bool false ∧ Hid (TwoR w p q l m w.heap.size (w.heap.size + 1) wc))
  case first =>
    go_quiet (fail)
    go_wp2_with fail
    go_meet
    exact ⟨rfl, hide ((unhide HD4).go ((Kept.refl [] w4).drewN _))⟩
  case rest =>
    obtain ⟨rfl, HC⟩ := hcut
    have HD6 := hide (unhide HC)
    obtain ⟨d0, d1, d2, d3, d4, d5, d6, d7, d8, d9, d10⟩ := box11 (unhide HD6).b1; obtain ⟨c0, c1, c2, c3, c4, c5, c6, c7, c8, c9, c10⟩ := box11 (unhide HD6).bb
    go_wp2_with (first
      | (go_at_call 14; refine (sound_any _ p l).mono ?_; rintro e w7 ⟨rfl, k7⟩; rw [unhide HSP]; have HKZ := hide ((unhide HD6).kept.step k7); clear k7))
    all_goals
      go_ret
      exact ⟨rfl, unhide HKZ⟩
theorem back_walk (w : World) (p q : Pl) (l m : Lo) (h1 : RecW w p l) (h2 : RecW w q m) (hk : ∀ x ∈ p.key, x < 256) (hv : ∀ x ∈ p.val, x < 256) (hc : ∀ x ∈ p.copy, x < 256) : Calls Try.prog 5 #[rv p l, rv q m] w fun e w' => e = .returned (.bool true) ∧ Kept [] w w' := by
  cases hs : snd p with
  | true =>
    cases hs2 : snd q with
    | true => exact back_yy w p q l m h1 h2 hs hs2 (enc_bytes hs hk hv hc)
    | false => exact back_yn w p q l m h1 h2 hs hs2 (enc_bytes hs hk hv hc)
  | false =>
    cases hs2 : snd q with
    | true => exact back_ny w p q l m h1 h2 hs hs2
    | false => exact back_nn w p q l m h1 h2 hs hs2
end Go.Proofs.Ytocmgfmfalaebaa
