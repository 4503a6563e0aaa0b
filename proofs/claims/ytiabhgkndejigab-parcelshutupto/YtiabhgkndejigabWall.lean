/- The writer's Byte, Fixed, Open, Len, Done, whatever the state. -/
import Derived.Test.YtiabhgkndejigabFixed
import Derived.Deep.RegionHeld3
import Derived.BigRegion
import Derived.Deep.RegionLaw
import Derived.Deep.AppendLies
namespace Go.Proofs.Ytiabhgkndejigab
open Go.RowKit

theorem fail_any {w : World} {b : Nat} {s : WS} {v sv : Value} (h : Wr w b s v sv) (c : Nat) (hc : c < 1000) :
    Calls Try.prog 50 #[.pointer (some ⟨b, 0, none⟩), .int .i64 c] w fun e w' => e = .returned (.tuple #[]) ∧ WPost w b v sv (wFail s c) w' := by
  unfold wFail
  by_cases hf : s.fault = 0
  · rw [if_neg (by omega)]
    refine (fail_do h hf c hc).mono ?_
    rintro e w' ⟨rfl, h1, h2⟩
    exact ⟨rfl, WPost.fail h1 h2⟩
  · rw [if_pos hf]
    refine (fail_not h hf c).mono ?_
    rintro e w' ⟨rfl, rfl⟩
    exact ⟨rfl, WPost.same h (Kept.refl _ _)⟩

set_option maxRecDepth 100000 in
set_option maxHeartbeats 400000 in
theorem wbyte_in {w : World} {b : Nat} {s : WS} {v sv : Value} (h : Wr w b s v sv) (n : Nat) (hn : n < 256) (hl : s.bs.length ≤ 1000000000000) :
    Calls Try.prog 26 #[.pointer (some ⟨b, 0, none⟩), .int .i64 n] w fun e w' => e = .returned (.tuple #[]) ∧ WPost w b v sv (wLay s [n]) w' := by
  have HH := hide h
  clear h
  have he : [] ++ le n 1 = [n] := by simp [le]; omega
  have hmod : (n : Int) % 256 = (n : Int) := by omega
  go_enter Try.func26, Try.ntmps26
  go_wp2_with fail
  refine (layu8 (bs := []) (World.ownsRow_nil _ w.heap.size _ _) (Nat.le_refl _) (by simp) n hn).mono ?_
  rintro e w1 ⟨a1, c1, rfl, h1, k1⟩
  rw [he] at h1
  rw [he]
  have H1 := hide h1
  have K1 : Kept [] w w1 := k1.mono (by simp [Value.ownBlock])
  clear h1 k1 he
  go_wp2_with (first | (go_at_call 51; refine (lay_part (unhide HH) _ [n] (Sees.of_own (unhide H1)) (fun k hk => fresh_foot (unhide HH) ((unhide H1).lt k hk).1) K1 (by simp; omega)).mono ?_; rintro e w2 ⟨rfl, HX⟩))
  go_end0
  exact ⟨rfl, HX⟩

set_option maxRecDepth 100000 in
set_option maxHeartbeats 400000 in
theorem wbyte_out {w : World} {b : Nat} {s : WS} {v sv : Value} (h : Wr w b s v sv) (n : Int) (hn : n < 0 ∨ 255 < n) :
    Calls Try.prog 26 #[.pointer (some ⟨b, 0, none⟩), .int .i64 n] w fun e w' => e = .returned (.tuple #[]) ∧ WPost w b v sv (wFail s 2) w' := by
  have HC := hide (fail_any h 2 (by omega))
  clear h
  rcases hn with hn | hn
  · go_enter Try.func26, Try.ntmps26
    go_wp2_with (first | (go_at_call 50; refine (unhide HC).mono ?_; rintro e w2 ⟨rfl, HX⟩))
    refine bodyPost_ret (results_none rfl _ _ _) rfl ?_
    exact ⟨rfl, HX⟩
  · have h0 : ¬ n < 0 := by omega
    go_enter Try.func26, Try.ntmps26
    go_wp2_with (first | (go_at_call 50; refine (unhide HC).mono ?_; rintro e w2 ⟨rfl, HX⟩))
    refine bodyPost_ret (results_none rfl _ _ _) rfl ?_
    exact ⟨rfl, HX⟩

set_option maxRecDepth 100000 in
set_option maxHeartbeats 400000 in
theorem wfixed_in {w : World} {b : Nat} {s : WS} {v sv : Value} (h : Wr w b s v sv) (n size : Nat) (hn : n < 18446744073709551616) (h1 : 1 ≤ size) (h8 : size ≤ 8) (hl : s.bs.length ≤ 1000000000000) :
    Calls Try.prog 27 #[.pointer (some ⟨b, 0, none⟩), .int .u64 n, .int .i64 size] w fun e w' => e = .returned (.tuple #[]) ∧ WPost w b v sv (wLay s (le n size)) w' := by
  have HH := hide h
  clear h
  have hle := le_len n size
  have HLE := hide hle
  clear hle
  go_enter Try.func27, Try.ntmps27
  go_wp2_with fail
  refine (layFixed_any n size hn h1 h8 _).mono ?_
  rintro e w1 ⟨a1, c1, rfl, h1, k1⟩
  have H1 := hide h1
  clear h1
  go_wp2_with (first | (go_at_call 51; refine (lay_part (unhide HH) _ (le n size) (Sees.of_own (unhide H1)) (fun k hk => fresh_foot (unhide HH) ((unhide H1).lt k hk).1) k1 (by rw [unhide HLE]; omega)).mono ?_; rintro e w2 ⟨rfl, HX⟩))
  go_end0
  exact ⟨rfl, HX⟩

set_option maxRecDepth 100000 in
set_option maxHeartbeats 400000 in
theorem wfixed_out {w : World} {b : Nat} {s : WS} {v sv : Value} (h : Wr w b s v sv) (n : Nat) (size : Int) (hn : size < 1 ∨ 8 < size) :
    Calls Try.prog 27 #[.pointer (some ⟨b, 0, none⟩), .int .u64 n, .int .i64 size] w fun e w' => e = .returned (.tuple #[]) ∧ WPost w b v sv (wFail s 2) w' := by
  have HC := hide (fail_any h 2 (by omega))
  clear h
  rcases hn with hn | hn
  · go_enter Try.func27, Try.ntmps27
    go_wp2_with (first | (go_at_call 50; refine (unhide HC).mono ?_; rintro e w2 ⟨rfl, HX⟩))
    refine bodyPost_ret (results_none rfl _ _ _) rfl ?_
    exact ⟨rfl, HX⟩
  · have h0 : ¬ size < 1 := by omega
    go_enter Try.func27, Try.ntmps27
    go_wp2_with (first | (go_at_call 50; refine (unhide HC).mono ?_; rintro e w2 ⟨rfl, HX⟩))
    refine bodyPost_ret (results_none rfl _ _ _) rfl ?_
    exact ⟨rfl, HX⟩

theorem Try.info3 : (Try.prog.info? 3).map (fun i => (i.zero, i.size, i.bytes)) = some (some (.int .i64 0), 1, 8) := by kernel_rfl

/-- Open, as P1.3 has it. -/
def wOpen (s : WS) : WS := if s.fault ≠ 0 then s else if s.sts.length = 16 then failWS 11 else { s with sts := s.sts ++ [s.bs.length] }

/-- Where the open frames begin is written anew. -/
theorem Wr.starts {w w1 : World} {b : Nat} {s : WS} {v sv sv' : Value} (h : Wr w b s v sv) (ts : List Nat)
    (hown : w1.ownsRow 0 3 1 sv' ts.length (i64s ts)) (hk : Kept sv.ownBlock.toList w w1) (hat : sv'.ownBlock = sv.ownBlock ∨ ∀ x, sv'.ownBlock = some x → w.heap.size ≤ x)
    (hl : ts.length ≤ 16) :
    Wr (w1.setCell ⟨b, 2, none⟩ sv') b { s with sts := ts } v sv' ∧ Kept (foot b v sv) w (w1.setCell ⟨b, 2, none⟩ sv') ∧ ∀ x, x ∈ foot b v sv' → x ∈ foot b v sv ∨ w.heap.size ≤ x := by
  have hb := h.blk.lt
  have k2 : Kept (foot b v sv) w (w1.setCell ⟨b, 2, none⟩ sv') := (hk.mono (fun x hx => Or.inl (by simp [foot]; simp at hx; simp [hx]))).setCell (Or.inl (by simp [foot])) sv'
  have n2' : sv'.ownBlock ≠ some b := by
    rcases hat with e | e
    · rw [e]; exact h.n2
    · intro hx; have := e b hx; omega
  have n3' : ∀ k, v.ownBlock = some k → sv'.ownBlock ≠ some k := by
    intro k hk' hs
    rcases hat with e | e
    · exact h.n3 k hk' (by rw [← e]; exact hs)
    · have := e k hs; have := (h.own.lt k hk').2; omega
  refine ⟨⟨?_, ?_, ?_, h.n1, n2', n3', h.broom, h.bbs, hl, h.bf⟩, k2, ?_⟩
  · have b1 : Blk w1 b #[.int .i64 (s.room : Int), v, sv, .int .i64 (s.fault : Int)] 65 := h.blk.kept hk (by simp; exact h.n2)
    simpa using b1.set 2 sv'
  · have o1 := own_kept h.own hk (fun k hk' => by simp; exact h.n3 k hk')
    exact own_kept o1 ((Kept.refl [b] _).setCell (Or.inl (by simp)) sv') (fun k hk' => by simp; intro e; exact h.n1 (by rw [hk', e]))
  · exact own_kept hown ((Kept.refl [b] _).setCell (Or.inl (by simp)) sv') (fun k hk' => by simp; intro e; exact n2' (by rw [hk', e]))
  · intro x hx
    simp [foot] at hx ⊢
    rcases hx with hx | hx | hx
    · exact Or.inl (Or.inl hx)
    · exact Or.inl (Or.inr (Or.inl hx))
    · rcases hat with e | e
      · exact Or.inl (Or.inr (Or.inr (by rw [← e]; exact hx)))
      · exact Or.inr (e x hx)

theorem news_i64 (w : World) (x : Nat) : ∀ j u, [Value.int .i64 (x : Int)][j]? = some u → (w.alloc (.cells #[.int .i64 (x : Int)] 3)).cell? ((⟨w.heap.size, 0, none⟩ : Addr).add j) = some u := by
  intro j u hj
  match j, hj with
  | 0, hj => simp at hj; subst hj; simp [Addr.add]

set_option maxRecDepth 100000 in
set_option maxHeartbeats 400000 in
theorem wopen_any {w : World} {b : Nat} {s : WS} {v sv : Value} (h : Wr w b s v sv) :
    Calls Try.prog 18 #[.pointer (some ⟨b, 0, none⟩)] w fun e w' => e = .returned (.tuple #[]) ∧ WPost w b v sv (wOpen s) w' := by
  unfold wOpen
  have HH := hide h
  by_cases hf : s.fault = 0
  · rw [if_neg (by omega)]
    obtain ⟨c0, c1, c2, c3⟩ := blk4 h.blk
    obtain ⟨sa, sc, hsv⟩ := own_len h.sown
    have hst := h.bsts
    rw [hsv] at c2
    by_cases h16 : s.sts.length = 16
    · rw [if_pos h16]
      have hb : ((s.sts.length : Int) == 16) = true := by rw [beq_iff_eq]; omega
      clear h hsv h16
      go_enter Try.func18, Try.ntmps18
      go_wp2_with (first | (go_at_call 49; refine (fails_no (unhide HH) hf).mono ?_; rintro e w' ⟨rfl, rfl⟩) | (go_at_call 50; refine (fail_do (unhide HH) hf 11 (by omega)).mono ?_; rintro e w2 ⟨rfl, hw2, hk2⟩))
      refine bodyPost_ret (results_none rfl _ _ _) rfl ?_
      exact ⟨rfl, WPost.fail hw2 hk2⟩
    · rw [if_neg h16]
      obtain ⟨i0, hi, hz0, hz1, hz2⟩ := info_parts Try.info3
      have hb : ((s.sts.length : Int) == 16) = false := by rw [beq_eq_false_iff_ne]; omega
      obtain ⟨va, vc, hv⟩ := own_len h.own
      rw [hv] at c1
      have hbb := h.bbs
      have f2 := h.blk.frozen 2
      have hso := h.sown
      rw [hsv] at hso
      have HSO := hide hso
      have HV := hide hv
      have HSV := hide hsv
      clear h hsv hv hso
      go_enter Try.func18, Try.ntmps18
      go_wp2_with (first | (go_at_call 49; refine (fails_no (unhide HH) hf).mono ?_; rintro e w' ⟨rfl, rfl⟩))
      have hbl := (unhide HH).blk.lt
      have hne : some b ≠ (Value.slice sa s.sts.length sc).ownBlock := by rw [← unhide HSV]; exact fun e => (unhide HH).n2 e.symm
      have HNE := hide hne
      clear hne
      have HSO1 : Hid (((w.alloc (.cells #[.int .i64 (s.bs.length : Nat)] 3)).drew).ownsRow 0 3 1 (.slice sa s.sts.length sc) s.sts.length (i64s s.sts)) := hide (own_kept (unhide HSO) ((Kept.refl [] w).alloc _).drew (by simp))
      have HNW : Hid (∀ j u, [Value.int .i64 (s.bs.length : Nat)][j]? = some u → ((w.alloc (.cells #[.int .i64 (s.bs.length : Nat)] 3)).drew).cell? ((⟨w.heap.size, 0, none⟩ : Addr).add j) = some u) := hide (news_i64 w s.bs.length)
      have HON : Hid (∀ u ∈ [Value.int .i64 (s.bs.length : Nat)], u.oneCell' = true) := by intro u hu; simp at hu; subst hu; rfl
      have hml : s.sts.length + 1 ≤ maxLen := by unfold maxLen; omega
      have hby : (s.sts.length + 1) * 8 ≤ 140737488355328 := by omega
      have HG : Hid (∀ (w1 : World), ((w.alloc (.cells #[.int .i64 (s.bs.length : Nat)] 3)).drew).grownBy w1 (Value.slice sa s.sts.length sc).ownBlock → w1.cell? ⟨b, 1, none⟩ = some (.slice va s.bs.length vc) ∧ w1.cell? ⟨b, 2, none⟩ = some (.slice sa s.sts.length sc) ∧ w1.frozen? ⟨b, 2, none⟩ = false) := by
        intro w1 hg
        have hb2 := (unhide HH).blk.alloc (.cells #[.int .i64 (s.bs.length : Nat)] 3)
        have hb3 : Blk w1 b #[.int .i64 (s.room : Int), v, sv, .int .i64 (s.fault : Int)] 65 := (hg.block b (by simp; omega) (unhide HNE)).trans hb2
        obtain ⟨d0, d1, d2, d3⟩ := blk4 hb3
        exact ⟨d1.trans (by rw [unhide HV]), d2.trans (by rw [unhide HSV]), hb3.frozen 2⟩
      have hcA : (w.alloc (.cells #[.int .i64 (s.bs.length : Nat)] 3)).cell? ⟨b, 2, none⟩ = some (.slice sa s.sts.length sc) := (blk4 ((unhide HH).blk.alloc _)).2.2.1.trans (by rw [unhide HSV])
      go_region_law ((refine step_append_lies ((w.alloc (.cells #[.int .i64 (s.bs.length : Nat)] 3)).drew) (by rfl) (.tmp 16) (.tmp 22) 63 (by rfl) 0 3 i0 (.int .i64 0) 1 8 Try.underlying63 hi hz0 hz1 hz2 rfl Nat.one_pos (.slice sa s.sts.length sc) s.sts.length (i64s s.sts) (by rfl) (unhide HSO1) ⟨w.heap.size, 0, none⟩ 1 1 [.int .i64 (s.bs.length : Nat)] (by rfl) rfl (unhide HNW) (unhide HON) Nat.one_pos hml hby (Nat.zero_le _) _ rfl ?_; intro g cap w1 hown1 hgrow1 hat1 hlt1; obtain ⟨hq1, hq2, hq3⟩ := unhide HG w1 hgrow1))
      all_goals
        have hl1 : (s.sts ++ [s.bs.length]).length = s.sts.length + 1 := by simp
        have ho2 : w1.ownsRow 0 3 1 (.slice (some ⟨g, 0, none⟩) (s.sts.length + 1) cap) (s.sts ++ [s.bs.length]).length (i64s (s.sts ++ [s.bs.length])) := by
          rw [hl1, show i64s (s.sts ++ [s.bs.length]) = i64s s.sts ++ [.int .i64 (s.bs.length : Nat)] by simp [i64s]]; exact hown1
        have hk1 : Kept sv.ownBlock.toList w w1 := ((Kept.refl _ w).alloc _).drew.grown hgrow1 (fun k hk => Or.inl (by rw [unhide HSV]; simp [hk]))
        have hat2 : (Value.slice (some ⟨g, 0, none⟩) (s.sts.length + 1) cap).ownBlock = sv.ownBlock ∨ ∀ x, (Value.slice (some ⟨g, 0, none⟩) (s.sts.length + 1) cap).ownBlock = some x → w.heap.size ≤ x := by
          rcases hat1 with e | e
          · left; rw [unhide HSV, e]; rfl
          · right; intro x hx; cases hx; show w.heap.size ≤ g; simp at e; omega
        have hfin := Wr.starts (unhide HH) (s.sts ++ [s.bs.length]) ho2 hk1 hat2 (by rw [hl1]; omega)
        have HFIN := hide hfin
        clear hfin ho2 hk1 hat2 hl1 hown1 hgrow1 hat1
        go_wp2
        go_end0
        exact ⟨rfl, v, _, (unhide HFIN).1, (unhide HFIN).2.1, (unhide HFIN).2.2⟩
  · rw [if_pos hf]
    clear h
    go_enter Try.func18, Try.ntmps18
    go_wp2_with (first | (go_at_call 49; refine (fails_yes (unhide HH) hf).mono ?_; rintro e w' ⟨rfl, rfl⟩))
    refine bodyPost_ret (results_none rfl _ _ _) rfl ?_
    exact ⟨rfl, WPost.same (unhide HH) (Kept.refl _ _)⟩
end Go.Proofs.Ytiabhgkndejigab
