/- RecordOwn: a sound record. -/
import Derived.Test.YtocmgfmfalaebabOCZ
namespace Go.Proofs.Ytocmgfmfalaebab
open Go.RowKit

theorem recOf {W : World} {base : Nat} {p : Pl} {g1 c1 g2 c2 g3 c3 : Nat} (hq : p.key.length ≤ 140737488355326 ∧ p.val.length ≤ 140737488355326 ∧ p.copy.length ≤ 140737488355326) (o1 : W.ownsRow base 5 1 (.slice (some ⟨g1, 0, none⟩) p.key.length c1) p.key.length (u8s p.key)) (o2 : W.ownsRow base 5 1 (.slice (some ⟨g2, 0, none⟩) p.val.length c2) p.val.length (u8s p.val)) (o3 : W.ownsRow base 5 1 (.slice (some ⟨g3, 0, none⟩) p.copy.length c3) p.copy.length (u8s p.copy)) : RecW W p (lnL g1 c1 g2 c2 g3 c3) := ⟨Or.inl (Sees.of_own o1), Or.inl (Sees.of_own o2), Or.inl (Sees.of_own o3), by omega, by omega, by omega⟩

def piA (i : Nat) : Nat := [11, 10, 1, 0, 8, 5, 6, 7, 2, 3, 4, 12, 13, 14].getD i 0
theorem piA_lt : ∀ i, i < 14 → piA i < 15 := by decide
theorem piA_inj : ∀ i j, i < 14 → j < 14 → i ≠ j → piA i ≠ piA j := by
  have : ∀ i, i < 14 → ∀ j, j < 14 → i ≠ j → piA i ≠ piA j := by decide
  exact fun i j hi hj => this i hi j hj
theorem newR_kept {w W Y : World} {p : Pl} {l : Lo} (h : NewR w p l W) (k : Kept [] W Y) : NewR w p l Y := ⟨h.kn.kept k (by simp), h.vn.kept k (by simp), h.cn.kept k (by simp), h.kv, h.kc, h.vc⟩
theorem recL {W : World} {base : Nat} {p : Pl} {l : Lo} (hq : p.key.length ≤ 140737488355326 ∧ p.val.length ≤ 140737488355326 ∧ p.copy.length ≤ 140737488355326) (o1 : W.ownsRow base 5 1 (.slice l.ka p.key.length l.kc) p.key.length (u8s p.key)) (o2 : W.ownsRow base 5 1 (.slice l.va p.val.length l.vc) p.val.length (u8s p.val)) (o3 : W.ownsRow base 5 1 (.slice l.ca p.copy.length l.cc) p.copy.length (u8s p.copy)) : RecW W p l := ⟨Or.inl (Sees.of_own o1), Or.inl (Sees.of_own o2), Or.inl (Sees.of_own o3), by omega, by omega, by omega⟩
theorem recT {W : World} {base : Nat} {p : Pl} {g1 c1 g2 c2 g3 c3 : Nat} (hq : p.key.length ≤ 140737488355326 ∧ p.val.length ≤ 140737488355326 ∧ p.copy.length ≤ 140737488355326) (o1 : W.ownsRow base 5 1 (.slice (some ⟨g1, 0, none⟩) p.key.length c1) (trn p.key).length (u8s (trn p.key))) (o2 : W.ownsRow base 5 1 (.slice (some ⟨g2, 0, none⟩) p.val.length c2) (trn p.val).length (u8s (trn p.val))) (o3 : W.ownsRow base 5 1 (.slice (some ⟨g3, 0, none⟩) p.copy.length c3) (trn p.copy).length (u8s (trn p.copy))) : RecW W (trnP p) (lnL g1 c1 g2 c2 g3 c3) := by
  have h1 := Sees.of_own o1
  have h2 := Sees.of_own o2
  have h3 := Sees.of_own o3
  rw [show p.key.length = (trn p.key).length from (trn_len _).symm] at h1
  rw [show p.val.length = (trn p.val).length from (trn_len _).symm] at h2
  rw [show p.copy.length = (trn p.copy).length from (trn_len _).symm] at h3
  refine ⟨Or.inl h1, Or.inl h2, Or.inl h3, ?_, ?_, ?_⟩
  · show (trn p.key).length ≤ _; rw [trn_len]; omega
  · show (trn p.val).length ≤ _; rw [trn_len]; omega
  · show (trn p.copy).length ≤ _; rw [trn_len]; omega
theorem encT {W : World} {p : Pl} {m : Lo} (h : RecW W (trnP p) m) : Calls Try.prog 6 #[.agg #[.int .i64 p.kind, .int .i64 p.shard, .int .i64 p.epoch, .int .i64 p.peer, .int .i64 p.client, .int .i64 p.seq, .int .i64 p.okind, .slice m.ka p.key.length m.kc, .slice m.va p.val.length m.vc, .int .i64 p.rev, .slice m.ca p.copy.length m.cc]] W (EncP W (trnP p)) := by
  have := encode_any W (trnP p) m h.far
  rw [rv_trn] at this
  exact this
theorem sizT {W : World} {p : Pl} {m : Lo} (h : RecW W (trnP p) m) : Calls Try.prog 13 #[.agg #[.int .i64 p.kind, .int .i64 p.shard, .int .i64 p.epoch, .int .i64 p.peer, .int .i64 p.client, .int .i64 p.seq, .int .i64 p.okind, .slice m.ka p.key.length m.kc, .slice m.va p.val.length m.vc, .int .i64 p.rev, .slice m.ca p.copy.length m.cc]] W (SizP W (trnP p)) := by
  have := size_anyR W (trnP p) m h.far
  rw [rv_trn] at this
  exact this
theorem lntT {W : World} {p : Pl} {m : Lo} (h : RecW W (trnP p) m) (hq : p.key.length ≤ 140737488355326 ∧ p.val.length ≤ 140737488355326 ∧ p.copy.length ≤ 140737488355326) : Calls Try.prog 7 #[.agg #[.int .i64 p.kind, .int .i64 p.shard, .int .i64 p.epoch, .int .i64 p.peer, .int .i64 p.client, .int .i64 p.seq, .int .i64 p.okind, .slice m.ka p.key.length m.kc, .slice m.va p.val.length m.vc, .int .i64 p.rev, .slice m.ca p.copy.length m.cc]] W fun e w' => ∃ m, e = .returned (rv (trnP p) m) ∧ Ln3 W w' (trnP p) m ∧ Kept [] W w' := by
  have := lentRecord_any h (by show (trn p.key).length ≤ _; rw [trn_len]; exact hq.1) (by show (trn p.val).length ≤ _; rw [trn_len]; exact hq.2.1) (by show (trn p.copy).length ≤ _; rw [trn_len]; exact hq.2.2)
  rw [rv_trn] at this
  exact this

set_option maxRecDepth 100000 in
set_option maxHeartbeats 3200000 in
theorem own_yes (w : World) (p q : Pl) (l mo : Lo) (h1 : RecW w p l) (h2 : RecW w q mo) (bk : ∀ x ∈ p.key, x < 256) (bv : ∀ x ∈ p.val, x < 256) (bc : ∀ x ∈ p.copy, x < 256) (hs : snd p = true) : Calls Try.prog 4 #[rv p l, rv q mo] w fun e w' => e = .returned (.bool true) ∧ Kept [] w w' := by
  have HA := hide (fun W => awake_any W)
  have hln := snd_len hs
  have HQ : Hid (p.key.length ≤ 140737488355326 ∧ p.val.length ≤ 140737488355326 ∧ p.copy.length ≤ 140737488355326) := ⟨by omega, by omega, by omega⟩
  have HZ : Hid (p.key.length ≤ 3000000000 ∧ p.val.length ≤ 3000000000 ∧ p.copy.length ≤ 3000000000) := ⟨by omega, by omega, by omega⟩
  have hel := len_all hs
  have HEL : Hid ((enc p).length ≤ 3000000000) := by unfold Hid; omega
  have HP2 : Hid ((enc p).length ≤ 140737488355326) := by unfold Hid; omega
  have HPL : Hid ((enc p).length ≤ 140737488355328) := by unfold Hid; omega
  have HBY := hide (enc_bytes hs bk bv bc)
  have HSP := hide hs
  have HBB := hide (And.intro bk (And.intro bv bc))
  have HRW := hide (fun (W : World) (k : Kept [] w W) => h1.kept k)
  have HRQ := hide (fun (W : World) (k : Kept [] w W) => h2.kept k)
  have H0 : Hid (OS w [] [(w.heap.size + 1, rcc q mo), (w.heap.size, rcc p l)] ((w.alloc (.cells (rcc p l) 26)).alloc (.cells (rcc q mo) 26))) := by
    have k := ((Kept.refl [] w).alloc (.cells (rcc p l) 26)).alloc (.cells (rcc q mo) 26)
    refine ⟨k, Pool.nil _ _, fun x hx => ?_⟩
    simp at hx
    rcases hx with rfl | rfl
    · exact new1 _ _ _ _
    · exact (Blk.new _ _ _).alloc _
  have HPOS : Hid (0 < (enc p).length) := by unfold Hid enc; simp
  have HST : Hid (snd (trnP p) = true) := by unfold Hid; rw [snd_trn]; exact hs
  have hel2 := len_all (unhide HST)
  have HEL2 : Hid ((enc (trnP p)).length ≤ 3000000000) := by unfold Hid; omega
  have HPL2 : Hid ((enc (trnP p)).length ≤ 140737488355328) := by unfold Hid; omega
  have HQ' : Hid (p.key.length ≤ 140737488355328 ∧ p.val.length ≤ 140737488355328 ∧ p.copy.length ≤ 140737488355328) := ⟨by omega, by omega, by omega⟩
  clear h1 h2 hs hln hel hel2 bk bv bc
  have HR : ∀ m, rv p m = .agg #[.int .i64 p.kind, .int .i64 p.shard, .int .i64 p.epoch, .int .i64 p.peer, .int .i64 p.client, .int .i64 p.seq, .int .i64 p.okind, .slice m.ka p.key.length m.kc, .slice m.va p.val.length m.vc, .int .i64 p.rev, .slice m.ca p.copy.length m.cc] := fun m => rv_lit p m
  rw [rv_lit q mo, HR]
  have HG1 : Hid True := trivial
  have HG2 : Hid True := trivial
  have HG3 : Hid True := trivial
  have HG4 : Hid True := trivial
  have HG5 : Hid True := trivial
  have HG6 : Hid True := trivial
  have HG7 : Hid True := trivial
  have HG8 : Hid True := trivial
  have HG9 : Hid True := trivial
  have HG10 : Hid True := trivial
  have HG11 : Hid True := trivial
  have HG12 : Hid True := trivial
  have HG13 : Hid True := trivial
  have HG14 : Hid True := trivial
  have HG15 : Hid True := trivial
  have HG16 : Hid True := trivial
  have HG17 : Hid True := trivial
  have HG18 : Hid True := trivial
  go_enter Try.func4, Try.ntmps4
  go_wp2_with (first
    | (go_at_call 5; refine (unhide HA _).mono ?_; rintro e w1 ⟨rfl, k1⟩; have H1 := hide ((unhide H0).go k1); clear k1 H0; obtain ⟨d0, d1, d2, d3, d4, d5, d6, d7, d8, d9, d10⟩ := box11 ((unhide H1).nth (i := 1) rfl); obtain ⟨c0, c1, c2, c3, c4, c5, c6, c7, c8, c9, c10⟩ := box11 ((unhide H1).nth (i := 0) rfl))
    | (go_at_call 7; clear HG1; refine (lentRecord_any (unhide HRW _ (unhide H1).kept) (unhide HQ).1 (unhide HQ).2.1 (unhide HQ).2.2).mono ?_; rintro e w2 ⟨m2, rfl, hln, k2⟩; obtain ⟨g1, gc1, g2, gc2, g3, gc3, rfl, hpool⟩ := hln.pool (unhide HZ).1 (unhide HZ).2.1 (unhide HZ).2.2; rw [HR]; simp only [lnL]; have H2 := hide (((unhide H1).join k2 hpool).box #[.int .i64 p.kind, .int .i64 p.shard, .int .i64 p.epoch, .int .i64 p.peer, .int .i64 p.client, .int .i64 p.seq, .int .i64 p.okind, .slice (some ⟨g1, 0, none⟩) p.key.length gc1, .slice (some ⟨g2, 0, none⟩) p.val.length gc2, .int .i64 p.rev, .slice (some ⟨g3, 0, none⟩) p.copy.length gc3]); clear hpool hln k2 H1; obtain ⟨d0, d1, d2, d3, d4, d5, d6, d7, d8, d9, d10⟩ := box11 ((unhide H2).nth (i := 0) rfl); obtain ⟨c0, c1, c2, c3, c4, c5, c6, c7, c8, c9, c10⟩ := box11 ((unhide H2).nth (i := 1) rfl))
    | (go_at_call 6; clear HG2; refine (encode_any _ p (lnL g1 gc1 g2 gc2 g3 gc3) (recOf (unhide HQ) ((unhide H2).row (i := 0) rfl) ((unhide H2).row (i := 1) rfl) ((unhide H2).row (i := 2) rfl)).far).mono ?_; rintro e w3 ⟨k3, hz⟩; rcases hz with ⟨-, a3, x3, rfl, ho⟩ | ⟨hz, -⟩; rotate_left; (exact absurd hz (by rw [unhide HSP]; simp)); have H3 := hide ((unhide H2).push k3 ho (unhide HEL)); clear ho k3 H2; obtain ⟨d0, d1, d2, d3, d4, d5, d6, d7, d8, d9, d10⟩ := box11 ((unhide H3).nth (i := 0) rfl); obtain ⟨c0, c1, c2, c3, c4, c5, c6, c7, c8, c9, c10⟩ := box11 ((unhide H3).nth (i := 1) rfl))
    | (go_at_call 6; clear HG3; refine (encode_any _ q mo (unhide HRQ _ (unhide H3).kept).far).mono ?_; rintro e w4 ⟨k4, hz⟩; obtain ⟨a4, n4, c4, r4, rfl⟩ : ∃ a n c r, e = .returned (.tuple #[.slice a n c, .int .i64 r]) := (by rcases hz with ⟨-, a, c, rfl, -⟩ | ⟨-, rfl⟩ <;> exact ⟨_, _, _, _, rfl⟩); have H4 := hide ((unhide H3).go k4); clear hz k4 H3; obtain ⟨d0, d1, d2, d3, d4, d5, d6, d7, d8, d9, d10⟩ := box11 ((unhide H4).nth (i := 0) rfl); obtain ⟨c0, c1, c2, c3, c4, c5, c6, c7, c8, c9, c10⟩ := box11 ((unhide H4).nth (i := 1) rfl))
    | (go_at_call 6; clear HG4; refine (encode_any _ p (lnL g1 gc1 g2 gc2 g3 gc3) (recOf (unhide HQ) ((unhide H4).row (i := 1) rfl) ((unhide H4).row (i := 2) rfl) ((unhide H4).row (i := 3) rfl)).far).mono ?_; rintro e w5 ⟨k5, hz⟩; rcases hz with ⟨-, a5, x5, rfl, ho⟩ | ⟨hz, -⟩; rotate_left; (exact absurd hz (by rw [unhide HSP]; simp)); have H5 := hide ((unhide H4).push k5 ho (unhide HEL)); clear ho k5 H4; obtain ⟨d0, d1, d2, d3, d4, d5, d6, d7, d8, d9, d10⟩ := box11 ((unhide H5).nth (i := 0) rfl); obtain ⟨c0, c1, c2, c3, c4, c5, c6, c7, c8, c9, c10⟩ := box11 ((unhide H5).nth (i := 2) rfl))
    | (go_at_call 8; clear HG5; refine (same_full (Or.inl (Sees.of_own ((unhide H5).row (i := 1) rfl))) (Or.inl (Sees.of_own ((unhide H5).row (i := 0) rfl))) (unhide HPL)).mono ?_; rintro e w6 ⟨rfl, k6⟩; rw [decide_eq_true rfl]; have H6 := hide ((unhide H5).go k6); clear k6 H5; obtain ⟨d0, d1, d2, d3, d4, d5, d6, d7, d8, d9, d10⟩ := box11 ((unhide H6).nth (i := 0) rfl); obtain ⟨c0, c1, c2, c3, c4, c5, c6, c7, c8, c9, c10⟩ := box11 ((unhide H6).nth (i := 2) rfl))
    | (at_builtin; clear HG6; refine wpList_twin8 rfl _ _ rfl rfl _ (enc p) rfl (Sees.of_own ((unhide H6).row (i := 1) rfl)) _ rfl (by have := unhide HEL; omega) ?_; intro a7 x7 w7 ho k7; have H7 := hide ((unhide H6).push k7 ho (unhide HEL)); clear ho k7 H6; obtain ⟨d0, d1, d2, d3, d4, d5, d6, d7, d8, d9, d10⟩ := box11 ((unhide H7).nth (i := 0) rfl); obtain ⟨c0, c1, c2, c3, c4, c5, c6, c7, c8, c9, c10⟩ := box11 ((unhide H7).nth (i := 2) rfl))
    | (go_at_call 9; clear HG7; refine (lent_any (show Wide _ (.slice a3 (enc p).length x3) (enc p) from Or.inl (Sees.of_own ((unhide H7).row (i := 2) rfl))) (unhide HP2)).mono ?_; rintro e w8 ⟨g8, x8, rfl, -, ho, k8⟩; have H8 := hide ((unhide H7).push k8 (lent_parts rfl ho).1 (unhide HEL)); clear ho k8 H7; obtain ⟨d0, d1, d2, d3, d4, d5, d6, d7, d8, d9, d10⟩ := box11 ((unhide H8).nth (i := 0) rfl); obtain ⟨c0, c1, c2, c3, c4, c5, c6, c7, c8, c9, c10⟩ := box11 ((unhide H8).nth (i := 2) rfl))
    | (go_at_call 10; clear HG8; refine (decode_any _ _ (enc p) (Or.inl (Sees.of_own ((unhide H8).row (i := 0) rfl))) (unhide HPL) (unhide HBY)).mono ?_; rintro e w9 ⟨kk, hz⟩; rcases hz with ⟨p2, la, hz, rfl, hn⟩ | ⟨hz, -⟩; rotate_left; (exact absurd hz (by rw [dec_enc (unhide HSP)]; simp)); (rw [dec_enc (unhide HSP)] at hz; have hz' := Option.some.inj hz; subst hz'; clear hz); rw [HR]; have H9 := hide (((unhide H8).join kk (pool_new hn (unhide HSP))).box #[.int .i64 p.kind, .int .i64 p.shard, .int .i64 p.epoch, .int .i64 p.peer, .int .i64 p.client, .int .i64 p.seq, .int .i64 p.okind, .slice la.ka p.key.length la.kc, .slice la.va p.val.length la.vc, .int .i64 p.rev, .slice la.ca p.copy.length la.cc]); clear kk hn H8; obtain ⟨d0, d1, d2, d3, d4, d5, d6, d7, d8, d9, d10⟩ := box11 ((unhide H9).nth (i := 0) rfl); obtain ⟨c0, c1, c2, c3, c4, c5, c6, c7, c8, c9, c10⟩ := box11 ((unhide H9).nth (i := 3) rfl); obtain ⟨e0, e1, e2, e3, e4, e5, e6, e7, e8, e9, e10⟩ := box11 ((unhide H9).nth (i := 1) rfl))
    | (go_at_call 10; clear HG9; refine (decode_any _ _ (enc p) (Or.inl (Sees.of_own ((unhide H9).row (i := 3) rfl))) (unhide HPL) (unhide HBY)).mono ?_; rintro e w10 ⟨kk, hz⟩; rcases hz with ⟨p2, lb, hz, rfl, hn⟩ | ⟨hz, -⟩; rotate_left; (exact absurd hz (by rw [dec_enc (unhide HSP)]; simp)); (rw [dec_enc (unhide HSP)] at hz; have hz' := Option.some.inj hz; subst hz'; clear hz); rw [HR]; have H10 := hide (((unhide H9).join kk (pool_new hn (unhide HSP))).box #[.int .i64 p.kind, .int .i64 p.shard, .int .i64 p.epoch, .int .i64 p.peer, .int .i64 p.client, .int .i64 p.seq, .int .i64 p.okind, .slice lb.ka p.key.length lb.kc, .slice lb.va p.val.length lb.vc, .int .i64 p.rev, .slice lb.ca p.copy.length lb.cc]); clear kk hn H9; obtain ⟨d0, d1, d2, d3, d4, d5, d6, d7, d8, d9, d10⟩ := box11 ((unhide H10).nth (i := 0) rfl); obtain ⟨c0, c1, c2, c3, c4, c5, c6, c7, c8, c9, c10⟩ := box11 ((unhide H10).nth (i := 4) rfl); obtain ⟨e0, e1, e2, e3, e4, e5, e6, e7, e8, e9, e10⟩ := box11 ((unhide H10).nth (i := 1) rfl))
    | (go_at_call 11; clear HG10; refine (sameRec_any (recL (l := la) (unhide HQ) ((unhide H10).row (i := 3) rfl) ((unhide H10).row (i := 4) rfl) ((unhide H10).row (i := 5) rfl)) (unhide HRW _ (unhide H10).kept)).mono ?_; rintro e w11 ⟨rfl, kk⟩; rw [(eqR_iff _ _).2 rfl]; have H11 := hide ((unhide H10).go kk); clear kk H10; obtain ⟨e0, e1, e2, e3, e4, e5, e6, e7, e8, e9, e10⟩ := box11 ((unhide H11).nth (i := 0) rfl); obtain ⟨c0, c1, c2, c3, c4, c5, c6, c7, c8, c9, c10⟩ := box11 ((unhide H11).nth (i := 4) rfl); obtain ⟨d0, d1, d2, d3, d4, d5, d6, d7, d8, d9, d10⟩ := box11 ((unhide H11).nth (i := 2) rfl))
    | (go_at_call 11; clear HG11; refine (sameRec_any (recL (l := lb) (unhide HQ) ((unhide H11).row (i := 0) rfl) ((unhide H11).row (i := 1) rfl) ((unhide H11).row (i := 2) rfl)) (unhide HRW _ (unhide H11).kept)).mono ?_; rintro e w12 ⟨rfl, kk⟩; rw [(eqR_iff _ _).2 rfl]; have H12 := hide ((unhide H11).go kk); clear kk H11; obtain ⟨e0, e1, e2, e3, e4, e5, e6, e7, e8, e9, e10⟩ := box11 ((unhide H12).nth (i := 0) rfl); obtain ⟨c0, c1, c2, c3, c4, c5, c6, c7, c8, c9, c10⟩ := box11 ((unhide H12).nth (i := 4) rfl); obtain ⟨d0, d1, d2, d3, d4, d5, d6, d7, d8, d9, d10⟩ := box11 ((unhide H12).nth (i := 2) rfl))
    | (go_at_call 12; clear HG12; have hR := (unhide H12).row (i := 10) rfl; refine (turn_any (P := p.key) (unhide HBB).1 (unhide HQ').1 hR).mono ?_; rintro e w13 ⟨rfl, ho, kk⟩; have hh : OS w ([(.slice lb.ka p.key.length lb.kc, p.key), (.slice lb.va p.val.length lb.vc, p.val), (.slice lb.ca p.copy.length lb.cc, p.copy), (.slice la.ka p.key.length la.kc, p.key), (.slice la.va p.val.length la.vc, p.val), (.slice la.ca p.copy.length la.cc, p.copy), (.slice (some ⟨g8, 0, none⟩) (enc p).length x8, enc p), (.slice a7 (enc p).length x7, enc p), (.slice a5 (enc p).length x5, enc p), (.slice a3 (enc p).length x3, enc p)] ++ (.slice (some ⟨g1, 0, none⟩) p.key.length gc1, p.key) :: [(.slice (some ⟨g2, 0, none⟩) p.val.length gc2, p.val), (.slice (some ⟨g3, 0, none⟩) p.copy.length gc3, p.copy)]) _ _ := unhide H12; have h2 := hh.turn (l' := trn p.key) rfl kk (by rw [trn_len]; exact ho) (trn_len _); have H13 : Hid (OS w [(.slice lb.ka p.key.length lb.kc, p.key), (.slice lb.va p.val.length lb.vc, p.val), (.slice lb.ca p.copy.length lb.cc, p.copy), (.slice la.ka p.key.length la.kc, p.key), (.slice la.va p.val.length la.vc, p.val), (.slice la.ca p.copy.length la.cc, p.copy), (.slice (some ⟨g8, 0, none⟩) (enc p).length x8, enc p), (.slice a7 (enc p).length x7, enc p), (.slice a5 (enc p).length x5, enc p), (.slice a3 (enc p).length x3, enc p), (.slice (some ⟨g1, 0, none⟩) p.key.length gc1, trn p.key), (.slice (some ⟨g2, 0, none⟩) p.val.length gc2, p.val), (.slice (some ⟨g3, 0, none⟩) p.copy.length gc3, p.copy)] _ _) := h2; clear hh h2 ho kk hR H12; obtain ⟨d0, d1, d2, d3, d4, d5, d6, d7, d8, d9, d10⟩ := box11 ((unhide H13).nth (i := 2) rfl))
    | (go_at_call 12; clear HG13; have hR := (unhide H13).row (i := 11) rfl; refine (turn_any (P := p.val) (unhide HBB).2.1 (unhide HQ').2.1 hR).mono ?_; rintro e w14 ⟨rfl, ho, kk⟩; have hh : OS w ([(.slice lb.ka p.key.length lb.kc, p.key), (.slice lb.va p.val.length lb.vc, p.val), (.slice lb.ca p.copy.length lb.cc, p.copy), (.slice la.ka p.key.length la.kc, p.key), (.slice la.va p.val.length la.vc, p.val), (.slice la.ca p.copy.length la.cc, p.copy), (.slice (some ⟨g8, 0, none⟩) (enc p).length x8, enc p), (.slice a7 (enc p).length x7, enc p), (.slice a5 (enc p).length x5, enc p), (.slice a3 (enc p).length x3, enc p), (.slice (some ⟨g1, 0, none⟩) p.key.length gc1, trn p.key)] ++ (.slice (some ⟨g2, 0, none⟩) p.val.length gc2, p.val) :: [(.slice (some ⟨g3, 0, none⟩) p.copy.length gc3, p.copy)]) _ _ := unhide H13; have h2 := hh.turn (l' := trn p.val) rfl kk (by rw [trn_len]; exact ho) (trn_len _); have H14 : Hid (OS w [(.slice lb.ka p.key.length lb.kc, p.key), (.slice lb.va p.val.length lb.vc, p.val), (.slice lb.ca p.copy.length lb.cc, p.copy), (.slice la.ka p.key.length la.kc, p.key), (.slice la.va p.val.length la.vc, p.val), (.slice la.ca p.copy.length la.cc, p.copy), (.slice (some ⟨g8, 0, none⟩) (enc p).length x8, enc p), (.slice a7 (enc p).length x7, enc p), (.slice a5 (enc p).length x5, enc p), (.slice a3 (enc p).length x3, enc p), (.slice (some ⟨g1, 0, none⟩) p.key.length gc1, trn p.key), (.slice (some ⟨g2, 0, none⟩) p.val.length gc2, trn p.val), (.slice (some ⟨g3, 0, none⟩) p.copy.length gc3, p.copy)] _ _) := h2; clear hh h2 ho kk hR H13; obtain ⟨d0, d1, d2, d3, d4, d5, d6, d7, d8, d9, d10⟩ := box11 ((unhide H14).nth (i := 2) rfl))
    | (go_at_call 12; clear HG14; have hR := (unhide H14).row (i := 12) rfl; refine (turn_any (P := p.copy) (unhide HBB).2.2 (unhide HQ').2.2 hR).mono ?_; rintro e w15 ⟨rfl, ho, kk⟩; have hh : OS w ([(.slice lb.ka p.key.length lb.kc, p.key), (.slice lb.va p.val.length lb.vc, p.val), (.slice lb.ca p.copy.length lb.cc, p.copy), (.slice la.ka p.key.length la.kc, p.key), (.slice la.va p.val.length la.vc, p.val), (.slice la.ca p.copy.length la.cc, p.copy), (.slice (some ⟨g8, 0, none⟩) (enc p).length x8, enc p), (.slice a7 (enc p).length x7, enc p), (.slice a5 (enc p).length x5, enc p), (.slice a3 (enc p).length x3, enc p), (.slice (some ⟨g1, 0, none⟩) p.key.length gc1, trn p.key), (.slice (some ⟨g2, 0, none⟩) p.val.length gc2, trn p.val)] ++ (.slice (some ⟨g3, 0, none⟩) p.copy.length gc3, p.copy) :: []) _ _ := unhide H14; have h2 := hh.turn (l' := trn p.copy) rfl kk (by rw [trn_len]; exact ho) (trn_len _); have H15 : Hid (OS w [(.slice lb.ka p.key.length lb.kc, p.key), (.slice lb.va p.val.length lb.vc, p.val), (.slice lb.ca p.copy.length lb.cc, p.copy), (.slice la.ka p.key.length la.kc, p.key), (.slice la.va p.val.length la.vc, p.val), (.slice la.ca p.copy.length la.cc, p.copy), (.slice (some ⟨g8, 0, none⟩) (enc p).length x8, enc p), (.slice a7 (enc p).length x7, enc p), (.slice a5 (enc p).length x5, enc p), (.slice a3 (enc p).length x3, enc p), (.slice (some ⟨g1, 0, none⟩) p.key.length gc1, trn p.key), (.slice (some ⟨g2, 0, none⟩) p.val.length gc2, trn p.val), (.slice (some ⟨g3, 0, none⟩) p.copy.length gc3, trn p.copy)] _ _) := h2; clear hh h2 ho kk hR H14; obtain ⟨d0, d1, d2, d3, d4, d5, d6, d7, d8, d9, d10⟩ := box11 ((unhide H15).nth (i := 2) rfl))
    | (go_at_call 6; clear HG15; refine (encT (recT (unhide HQ) ((unhide H15).row (i := 10) rfl) ((unhide H15).row (i := 11) rfl) ((unhide H15).row (i := 12) rfl))).mono ?_; rintro e w16 ⟨kk, hz⟩; rcases hz with ⟨-, a16, x16, rfl, ho⟩ | ⟨hz, -⟩; rotate_left; (exact absurd hz (by rw [unhide HST]; simp)); have H16 := hide ((unhide H15).push kk ho (unhide HEL2)); clear kk ho H15; obtain ⟨d0, d1, d2, d3, d4, d5, d6, d7, d8, d9, d10⟩ := box11 ((unhide H16).nth (i := 2) rfl))
    | (go_at_call 13; clear HG16; refine (sizT (recT (unhide HQ) ((unhide H16).row (i := 11) rfl) ((unhide H16).row (i := 12) rfl) ((unhide H16).row (i := 13) rfl))).mono ?_; rintro e w17 ⟨kk, hz⟩; rcases hz with ⟨-, rfl⟩ | ⟨hz, -⟩; rotate_left; (exact absurd hz (by rw [unhide HST]; simp)); have H17 := hide ((unhide H16).go kk); clear kk H16; obtain ⟨d0, d1, d2, d3, d4, d5, d6, d7, d8, d9, d10⟩ := box11 ((unhide H17).nth (i := 2) rfl))
    | (go_at_call 7; clear HG17; refine (lntT (recT (unhide HQ) ((unhide H17).row (i := 11) rfl) ((unhide H17).row (i := 12) rfl) ((unhide H17).row (i := 13) rfl)) (unhide HQ)).mono ?_; rintro e w18 ⟨m18, rfl, hln, kk⟩; have H18 := hide ((unhide H17).go kk); have HL18 := hide (hln.recW (by rw [show (trnP p).key = trn p.key from rfl, trn_len]; exact (unhide HQ).1) (by rw [show (trnP p).val = trn p.val from rfl, trn_len]; exact (unhide HQ).2.1) (by rw [show (trnP p).copy = trn p.copy from rfl, trn_len]; exact (unhide HQ).2.2)); clear kk hln H17)
    | (go_at_call 6; clear HG18; refine (encode_any _ (trnP p) m18 (unhide HL18).far).mono ?_; rintro e w19 ⟨kk, hz⟩; rcases hz with ⟨-, a19, x19, rfl, ho⟩ | ⟨hz, -⟩; rotate_left; (exact absurd hz (by rw [unhide HST]; simp)); have H19 := hide ((unhide H18).push kk ho (unhide HEL2)); clear kk ho H18 HL18))
  go_loopw [22] (fun s wr => ∃ k : Nat, k ≤ (enc p).length ∧ s = .int .i64 k ∧ Hid (wr.ownsRow w.heap.size 5 1 (.slice (some ⟨g8, 0, none⟩) (enc p).length x8) (enc p).length (u8s (List.replicate k 255 ++ (enc p).drop k)) ∧ Kept [g8] w19 wr)) (fun s _ => (enc p).length - (intOf s).toNat)
  case atStart => exact ⟨0, by omega, rfl, hide ⟨by simpa using (unhide H19).row (i := 8) rfl, Kept.refl _ _⟩⟩
  case round =>
    obtain ⟨k, hk, rfl, HI⟩ := hrel
    by_cases hlt : k < (enc p).length
    · have ho := (unhide HI).1
      have conv : ∀ l : List Nat, u8s l = b8s (l.map fun x : Nat => (x : Int)) := fun l => by simp [u8s, b8s]
      rw [conv] at ho
      have hc := ownI_cell ho (k := k) (by simp; omega)
      generalize ((List.replicate k 255 ++ (enc p).drop k).map fun x : Nat => (x : Int)).getD k 0 = y0 at hc
      have hf := ownI_frozen ho k
      have hset := ownI_set ho k 255
      have hlist : ((List.replicate k 255 ++ (enc p).drop k).map fun x : Nat => (x : Int)).set k 255 = (List.replicate (k + 1) 255 ++ (enc p).drop (k + 1)).map fun x : Nat => (x : Int) := by
        have e1 : (List.replicate k 255).length = k := by simp
        have e3 : (enc p).drop k = (enc p)[k] :: (enc p).drop (k + 1) := (List.getElem_cons_drop hlt).symm
        rw [e3, List.replicate_succ', List.map_append, List.set_append_right _ _ (by rw [List.length_map]; omega), List.length_map, e1, Nat.sub_self]
        simp only [List.map_cons, List.set_cons_zero, List.map_append, List.append_assoc, List.cons_append, List.nil_append]
        rfl
      rw [hlist, ← conv] at hset
      have HST2 := hide hset
      have HKI := hide (unhide HI).2
      have hw1 : IntKind.i64.wrap ((k : Int) + 1) = (k : Int) + 1 := by rw [IntKind.wrap_i64]; have := unhide HEL; omega
      clear ho hset hlist HI conv
      go_wp2
      go_roundw
      case rel => exact ⟨k + 1, by omega, by go_num, hide ⟨unhide HST2, (unhide HKI).setCell (Or.inl (by simp)) _⟩⟩
      case measure => simp [intOf]; omega
    · have hk2 : k = (enc p).length := by omega
      subst hk2
      have hI := unhide HI
      rw [List.drop_length, List.append_nil] at hI
      have hh : OS w ([(.slice a19 (enc (trnP p)).length x19, enc (trnP p)), (.slice a16 (enc (trnP p)).length x16, enc (trnP p)), (.slice lb.ka p.key.length lb.kc, p.key), (.slice lb.va p.val.length lb.vc, p.val), (.slice lb.ca p.copy.length lb.cc, p.copy), (.slice la.ka p.key.length la.kc, p.key), (.slice la.va p.val.length la.vc, p.val), (.slice la.ca p.copy.length la.cc, p.copy)] ++ (.slice (some ⟨g8, 0, none⟩) (enc p).length x8, enc p) :: [(.slice a7 (enc p).length x7, enc p), (.slice a5 (enc p).length x5, enc p), (.slice a3 (enc p).length x3, enc p), (.slice (some ⟨g1, 0, none⟩) p.key.length gc1, trn p.key), (.slice (some ⟨g2, 0, none⟩) p.val.length gc2, trn p.val), (.slice (some ⟨g3, 0, none⟩) p.copy.length gc3, trn p.copy)]) _ _ := unhide H19
      have h2 := hh.turn (l' := List.replicate (enc p).length 255) rfl hI.2 (by rw [List.length_replicate]; exact hI.1) (by simp)
      have H20 : Hid (OS w [(.slice a19 (enc (trnP p)).length x19, enc (trnP p)), (.slice a16 (enc (trnP p)).length x16, enc (trnP p)), (.slice lb.ka p.key.length lb.kc, p.key), (.slice lb.va p.val.length lb.vc, p.val), (.slice lb.ca p.copy.length lb.cc, p.copy), (.slice la.ka p.key.length la.kc, p.key), (.slice la.va p.val.length la.vc, p.val), (.slice la.ca p.copy.length la.cc, p.copy), (.slice (some ⟨g8, 0, none⟩) (enc p).length x8, List.replicate (enc p).length 255), (.slice a7 (enc p).length x7, enc p), (.slice a5 (enc p).length x5, enc p), (.slice a3 (enc p).length x3, enc p), (.slice (some ⟨g1, 0, none⟩) p.key.length gc1, trn p.key), (.slice (some ⟨g2, 0, none⟩) p.val.length gc2, trn p.val), (.slice (some ⟨g3, 0, none⟩) p.copy.length gc3, trn p.copy)] _ _) := h2
      clear hh h2 hI HI H19
      have HJ1 : Hid True := trivial
      have HJ2 : Hid True := trivial
      have HJ3 : Hid True := trivial
      have HJ4 : Hid True := trivial
      have HJ5 : Hid True := trivial
      have HJ6 : Hid True := trivial
      go_wp2_with (first
        | (go_at_call 10; clear HJ1; refine (decode_any _ _ (List.replicate (enc p).length 255) (Or.inl (Sees.of_own ((unhide H20).row (i := 8) rfl))) (by rw [List.length_replicate]; exact unhide HPL) (by_255 _)).mono ?_; rintro e w21 ⟨kk, hz⟩; rcases hz with ⟨p2, l2, hz, -, -⟩ | ⟨-, rfl⟩; (exact absurd hz (by rw [dec_255 (unhide HPOS)]; simp)); rw [rv_zero]; have H21 := hide (((unhide H20).go kk).box #[.int .i64 0, .int .i64 0, .int .i64 0, .int .i64 0, .int .i64 0, .int .i64 0, .int .i64 0, .slice none 0 0, .slice none 0 0, .int .i64 0, .slice none 0 0]); clear kk H20; obtain ⟨d0, d1, d2, d3, d4, d5, d6, d7, d8, d9, d10⟩ := box11 ((unhide H21).nth (i := 2) rfl); obtain ⟨c0, c1, c2, c3, c4, c5, c6, c7, c8, c9, c10⟩ := box11 ((unhide H21).nth (i := 5) rfl))
        | (go_at_call 8; clear HJ2; refine (same_full (Or.inl (Sees.of_own ((unhide H21).row (i := 1) rfl))) (Or.inl (Sees.of_own ((unhide H21).row (i := 0) rfl))) (unhide HPL2)).mono ?_; rintro e w22 ⟨rfl, kk⟩; rw [decide_eq_true rfl]; have H22 := hide ((unhide H21).go kk); clear kk H21; obtain ⟨d0, d1, d2, d3, d4, d5, d6, d7, d8, d9, d10⟩ := box11 ((unhide H22).nth (i := 2) rfl); obtain ⟨c0, c1, c2, c3, c4, c5, c6, c7, c8, c9, c10⟩ := box11 ((unhide H22).nth (i := 5) rfl))
        | (go_at_call 8; clear HJ3; refine (same_full (Or.inl (Sees.of_own ((unhide H22).row (i := 11) rfl))) (Or.inl (Sees.of_own ((unhide H22).row (i := 9) rfl))) (unhide HPL)).mono ?_; rintro e w23 ⟨rfl, kk⟩; rw [decide_eq_true rfl]; have H23 := hide ((unhide H22).go kk); clear kk H22; obtain ⟨d0, d1, d2, d3, d4, d5, d6, d7, d8, d9, d10⟩ := box11 ((unhide H23).nth (i := 2) rfl); obtain ⟨c0, c1, c2, c3, c4, c5, c6, c7, c8, c9, c10⟩ := box11 ((unhide H23).nth (i := 5) rfl))
        | (go_at_call 11; clear HJ4; refine (sameRec_any (recL (l := la) (unhide HQ) ((unhide H23).row (i := 5) rfl) ((unhide H23).row (i := 6) rfl) ((unhide H23).row (i := 7) rfl)) (unhide HRW _ (unhide H23).kept)).mono ?_; rintro e w24 ⟨rfl, kk⟩; rw [(eqR_iff _ _).2 rfl]; have H24 := hide ((unhide H23).go kk); clear kk H23; obtain ⟨e0, e1, e2, e3, e4, e5, e6, e7, e8, e9, e10⟩ := box11 ((unhide H24).nth (i := 1) rfl); obtain ⟨d0, d1, d2, d3, d4, d5, d6, d7, d8, d9, d10⟩ := box11 ((unhide H24).nth (i := 2) rfl); obtain ⟨c0, c1, c2, c3, c4, c5, c6, c7, c8, c9, c10⟩ := box11 ((unhide H24).nth (i := 3) rfl))
        | (go_at_call 10; clear HJ5; have kA := (Kept.refl [] w24).alloc (.cells #[.slice a3 (enc p).length x3, .slice a5 (enc p).length x5, .slice a16 (enc (trnP p)).length x16, .slice a19 (enc (trnP p)).length x19, .slice (some ⟨g8, 0, none⟩) (enc p).length x8, .slice la.ka p.key.length la.kc, .slice la.va p.val.length la.vc, .slice la.ca p.copy.length la.cc, .slice lb.ka p.key.length lb.kc, .slice lb.va p.val.length lb.vc, .slice lb.ca p.copy.length lb.cc, .slice (some ⟨g1, 0, none⟩) p.key.length gc1, .slice (some ⟨g2, 0, none⟩) p.val.length gc2, .slice (some ⟨g3, 0, none⟩) p.copy.length gc3] 22); have hA := (unhide H24).go kA; have hB := Blk.new w24 #[.slice a3 (enc p).length x3, .slice a5 (enc p).length x5, .slice a16 (enc (trnP p)).length x16, .slice a19 (enc (trnP p)).length x19, .slice (some ⟨g8, 0, none⟩) (enc p).length x8, .slice la.ka p.key.length la.kc, .slice la.va p.val.length la.vc, .slice la.ca p.copy.length la.cc, .slice lb.ka p.key.length lb.kc, .slice lb.va p.val.length lb.vc, .slice lb.ca p.copy.length lb.cc, .slice (some ⟨g1, 0, none⟩) p.key.length gc1, .slice (some ⟨g2, 0, none⟩) p.val.length gc2, .slice (some ⟨g3, 0, none⟩) p.copy.length gc3] 22; have HPB := hide hA.pool; refine (decode_any _ _ (enc p) (Or.inl (Sees.of_own (hA.row (i := 9) rfl))) (unhide HPL) (unhide HBY)).mono ?_; rintro e w25 ⟨kk, hz⟩; rcases hz with ⟨p2, lc, hz, rfl, hn⟩ | ⟨hz, -⟩; rotate_left; (exact absurd hz (by rw [dec_enc (unhide HSP)]; simp)); (rw [dec_enc (unhide HSP)] at hz; have hz' := Option.some.inj hz; subst hz'; clear hz); rw [HR]; have H25 := hide ((hA.go kk).box #[.int .i64 p.kind, .int .i64 p.shard, .int .i64 p.epoch, .int .i64 p.peer, .int .i64 p.client, .int .i64 p.seq, .int .i64 p.okind, .slice lc.ka p.key.length lc.kc, .slice lc.va p.val.length lc.vc, .int .i64 p.rev, .slice lc.ca p.copy.length lc.cc]); have kB := (Kept.refl [] w25).alloc (.cells #[.int .i64 p.kind, .int .i64 p.shard, .int .i64 p.epoch, .int .i64 p.peer, .int .i64 p.client, .int .i64 p.seq, .int .i64 p.okind, .slice lc.ka p.key.length lc.kc, .slice lc.va p.val.length lc.vc, .int .i64 p.rev, .slice lc.ca p.copy.length lc.cc] 26); have HAB := hide ((hB.kept kk (by simp)).kept kB (by simp)); have HNW := hide hn; have HKB := hide kB; clear kk hn hA hB kA kB H24)
        | (go_at_call 14; clear HJ6; refine (apart_pool (unhide H25).pool (unhide H25).kept.size (m := 14) (by omega) piA piA_lt piA_inj (unhide HAB) (fun i hi => (by have : i = 0 ∨ i = 1 ∨ i = 2 ∨ i = 3 ∨ i = 4 ∨ i = 5 ∨ i = 6 ∨ i = 7 ∨ i = 8 ∨ i = 9 ∨ i = 10 ∨ i = 11 ∨ i = 12 ∨ i = 13 := (by omega); rcases this with rfl | rfl | rfl | rfl | rfl | rfl | rfl | rfl | rfl | rfl | rfl | rfl | rfl | rfl <;> rfl))).mono ?_; rintro e w26 ⟨rfl, kk⟩; have H26 := hide ((unhide H25).over kk); have HCW := hide (over_new (newR_kept (unhide HNW) (unhide HKB)) (unhide HPB) kk (unhide HSP)); clear kk H25 HAB HNW HPB; obtain ⟨d0, d1, d2, d3, d4, d5, d6, d7, d8, d9, d10⟩ := box11 ((unhide H26).nth (i := 0) rfl); obtain ⟨c0, c1, c2, c3, c4, c5, c6, c7, c8, c9, c10⟩ := box11 ((unhide H26).nth (i := 6) rfl))
        | (go_at_call 11; refine (sameRec_any (unhide HCW) (unhide HRW _ (unhide H26).kept)).mono ?_; rintro e w27 ⟨rfl, kk⟩; rw [(eqR_iff _ _).2 rfl]; have HKZ := hide ((unhide H26).kept.step kk); clear kk))
      go_ret
      exact ⟨rfl, unhide HKZ⟩
end Go.Proofs.Ytocmgfmfalaebab
