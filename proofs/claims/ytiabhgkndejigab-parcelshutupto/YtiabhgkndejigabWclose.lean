/- The writer's Close. -/
import Derived.Test.YtiabhgkndejigabWall
namespace Go.Proofs.Ytiabhgkndejigab
open Go.RowKit

/-- Close, as P1.3 has it. -/
def wClose (s : WS) : WS :=
  if s.fault ≠ 0 then s else
  match s.sts.getLast? with
  | none => failWS 2
  | some st => if s.bs.length + (form (s.bs.length - st)).length ≤ s.room then { s with bs := s.bs.take st ++ form (s.bs.length - st) ++ s.bs.drop st, sts := s.sts.dropLast } else failWS 13

/-- The bytes are written anew. -/
theorem Wr.bytes {w w1 : World} {b : Nat} {s : WS} {v sv v' : Value} (h : Wr w b s v sv) (bs' : List Nat)
    (hown : w1.ownsRow 0 5 1 v' bs'.length (u8s bs')) (hk : Kept v.ownBlock.toList w w1) (hat : v'.ownBlock = v.ownBlock ∨ ∀ x, v'.ownBlock = some x → w.heap.size ≤ x)
    (hl : bs'.length ≤ 70368744177664) :
    Wr (w1.setCell ⟨b, 1, none⟩ v') b { s with bs := bs' } v' sv ∧ Kept (foot b v sv) w (w1.setCell ⟨b, 1, none⟩ v') ∧ ∀ x, x ∈ foot b v' sv → x ∈ foot b v sv ∨ w.heap.size ≤ x := by
  have hb := h.blk.lt
  have k2 : Kept (foot b v sv) w (w1.setCell ⟨b, 1, none⟩ v') := (hk.mono (fun x hx => Or.inl (by simp [foot]; simp at hx; simp [hx]))).setCell (Or.inl (by simp [foot])) v'
  have n1' : v'.ownBlock ≠ some b := by
    rcases hat with e | e
    · rw [e]; exact h.n1
    · intro hx; have := e b hx; omega
  have n3' : ∀ k, v'.ownBlock = some k → sv.ownBlock ≠ some k := by
    intro k hk' hs
    rcases hat with e | e
    · exact h.n3 k (by rw [← e]; exact hk') hs
    · have := e k hk'; have := (h.sown.lt k hs).2; omega
  refine ⟨⟨?_, ?_, ?_, n1', h.n2, n3', h.broom, hl, h.bsts, h.bf⟩, k2, ?_⟩
  · have b1 : Blk w1 b #[.int .i64 (s.room : Int), v, sv, .int .i64 (s.fault : Int)] 65 := h.blk.kept hk (by simp; exact h.n1)
    simpa using b1.set 1 v'
  · exact own_kept hown ((Kept.refl [b] _).setCell (Or.inl (by simp)) v') (fun k hk' => by simp; intro e; exact n1' (by rw [hk', e]))
  · have o1 := own_kept h.sown hk (fun k hk' => by simp; exact fun e => h.n3 k e hk')
    exact own_kept o1 ((Kept.refl [b] _).setCell (Or.inl (by simp)) v') (fun k hk' => by simp; intro e; exact h.n2 (by rw [hk', e]))
  · intro x hx
    simp [foot] at hx ⊢
    rcases hx with hx | hx | hx
    · exact Or.inl (Or.inl hx)
    · rcases hat with e | e
      · exact Or.inl (Or.inr (Or.inl (by rw [← e]; exact hx)))
      · exact Or.inr (e x hx)
    · exact Or.inl (Or.inr (Or.inr hx))

theorem own_take {w : World} {base : Nat} {e : TypeId} {g n cap k : Nat} {xs : List Value} (h : w.ownsRow base e 1 (.slice (some ⟨g, 0, none⟩) n cap) n xs) (hk : k ≤ n) :
    w.ownsRow base e 1 (.slice (some ⟨g, 0, none⟩) k cap) k (xs.take k) := by
  have hl := h.1
  rcases h.2 with ⟨h1, _⟩ | ⟨g', cap', cur, hv, hb, hh, hc, hm, hs, ht⟩
  · cases h1
  · cases hv
    refine ⟨by simp; omega, Or.inr ⟨g, cap, cur, rfl, hb, hh, by omega, hm, hs, ?_⟩⟩
    rw [← ht, List.take_take]; congr 1; omega

set_option maxRecDepth 100000 in
set_option maxHeartbeats 1000000 in
theorem wclose_any {w : World} {b : Nat} {s : WS} {v sv : Value} (h : Wr w b s v sv) (hst : ∀ x ∈ s.sts, x ≤ s.bs.length) (hl : s.bs.length ≤ 1000000000000) :
    Calls Try.prog 20 #[.pointer (some ⟨b, 0, none⟩)] w fun e w' => e = .returned (.tuple #[]) ∧ WPost w b v sv (wClose s) w' := by
  unfold wClose
  have HH := hide h
  by_cases hf : s.fault = 0
  · rw [if_neg (by omega)]
    obtain ⟨c0, c1, c2, c3⟩ := blk4 h.blk
    obtain ⟨sa, sc, hsv⟩ := own_len h.sown
    rw [hsv] at c2
    cases hlast : s.sts.getLast? with
    | none =>
      have h0 : s.sts = [] := List.getLast?_eq_none_iff.1 hlast
      have hb : ((s.sts.length : Int) == 0) = true := by rw [h0]; rfl
      clear h hsv h0 hlast
      go_enter Try.func20, Try.ntmps20
      go_wp2_with (first | (go_at_call 49; refine (fails_no (unhide HH) hf).mono ?_; rintro e w' ⟨rfl, rfl⟩) | (go_at_call 50; refine (fail_do (unhide HH) hf 2 (by omega)).mono ?_; rintro e w2 ⟨rfl, hw2, hk2⟩))
      refine bodyPost_ret (results_none rfl _ _ _) rfl ?_
      exact ⟨rfl, WPost.fail hw2 hk2⟩
    | some st =>
      simp only []
      have hmem : st ∈ s.sts := List.mem_of_getLast? hlast
      have hstl := hst st hmem
      have hpos : 0 < s.sts.length := List.length_pos_iff.2 (fun e => by rw [e] at hlast; cases hlast)
      have hb : ((s.sts.length : Int) == 0) = false := by rw [beq_eq_false_iff_ne]; omega
      have hs16 := h.bsts
      have hso := h.sown
      rw [hsv] at hso
      obtain ⟨gs, hsa⟩ : ∃ gs, sa = some ⟨gs, 0, none⟩ := by
        rcases hso.2 with ⟨_, h2⟩ | ⟨g', cap', cur, hv, _⟩
        · omega
        · cases hv; exact ⟨_, rfl⟩
      subst hsa
      have hcl : w.cell? ⟨gs, s.sts.length - 1, none⟩ = some (.int .i64 (st : Nat)) := by
        have := hso.cells (g := gs) rfl (s.sts.length - 1) (.int .i64 (st : Nat)) (by
          rw [List.getLast?_eq_getElem?] at hlast
          simp [i64s, hlast])
        have hadd : (⟨gs, 0, none⟩ : Addr).add (s.sts.length - 1) = ⟨gs, s.sts.length - 1, none⟩ := by unfold Addr.add; split <;> simp_all
        rwa [hadd] at this
      obtain ⟨va, vc, hv⟩ := own_len h.own
      rw [hv] at c1
      have hbb := h.bbs
      have f1 := h.blk.frozen 1
      have f2 := h.blk.frozen 2
      have hdl : s.sts.dropLast = s.sts.take (s.sts.length - 1) := List.dropLast_eq_take
      have HDL := hide hdl
      have HSO := hide hso
      have HV := hide hv
      have HSV := hide hsv
      have HST := hide hst
      have hd0 : ((s.bs.length : Int) - (st : Int)) = ((s.bs.length - st : Nat) : Int) := by omega
      have h10 := form_le10 (s.bs.length - st) (by omega)
      have hp := form_pos (s.bs.length - st)
      clear h hsv hv hso hst hmem hlast hdl
      by_cases hroom : s.bs.length + (form (s.bs.length - st)).length ≤ s.room
      · rw [if_pos hroom]
        go_enter Try.func20, Try.ntmps20
        go_wp2_with (first | (go_at_call 49; refine (fails_no (unhide HH) hf).mono ?_; rintro e w' ⟨rfl, rfl⟩))
        refine (form_any' (s.bs.length - st) _ (by omega)).mono ?_
        rintro e w1 ⟨fa, fc, rfl, hfo, hk1⟩
        have HW1 := hide ((unhide HH).kept hk1 (by simp))
        have HFO := hide hfo
        have HK1 := hide hk1
        clear hfo hk1
        go_wp2_with fail
        refine (hasRoom_any (unhide HW1) _ (by omega) true (by simpa using hroom)).mono ?_
        rintro e w2 ⟨rfl, hq⟩
        have hw2 := (unhide HW1).quiet hq
        obtain ⟨c0', c1', c2', c3'⟩ := blk4 hw2.blk
        rw [unhide HV] at c1'
        rw [unhide HSV] at c2'
        have hins := insert_any (i := st) hw2.own (own_base (own_quiet (unhide HFO) hq) (fun _ _ => Nat.zero_le _)) (fun k hk hk2 => by
          have h1 := ((unhide HFO).lt k hk2).1
          have h2 := ((unhide HH).own.lt k hk).2
          omega) hstl hp (by omega)
        rw [unhide HV] at hins
        have HINS := hide hins
        have HW2 := hide hw2
        have HQ := hide hq
        clear hins hw2 hq HW1
        go_wp2_with fail
        refine (unhide HINS).mono ?_
        rintro e w3 ⟨v3, rfl, ho3, hk3, hat3⟩
        have hsz2 : w.heap.size ≤ w2.heap.size := by rw [(unhide HQ).heap]; exact (unhide HK1).size
        have hb3 := Wr.bytes (unhide HW2) (s.bs.take st ++ form (s.bs.length - st) ++ s.bs.drop st) ho3 (by rw [unhide HV]; exact hk3) (by
          rw [unhide HV]
          rcases hat3 with e | e
          · exact Or.inl e
          · right; intro x hx; rw [e] at hx; cases hx; exact Nat.le_refl _) (by simp; omega)
        obtain ⟨a3, cap3, hv3⟩ := own_len ho3
        generalize hN : (s.bs.take st ++ form (s.bs.length - st) ++ s.bs.drop st).length = N at hv3
        clear hN
        subst hv3
        have hbk3 : Blk w3 b #[.int .i64 (s.room : Int), v, sv, .int .i64 (s.fault : Int)] 65 := (unhide HW2).blk.kept hk3 (by rw [← unhide HV]; simp; exact (unhide HH).n1)
        have hc31 := (blk4 hbk3).2.1
        rw [unhide HV] at hc31
        have hf31 := hbk3.frozen 1
        have HB3 := hide hb3
        have hc42 : (w3.setCell ⟨b, 1, none⟩ (.slice a3 N cap3)).cell? ⟨b, 2, none⟩ = some (.slice (some ⟨gs, 0, none⟩) s.sts.length sc) := by
          rw [(blk4 hb3.1.blk).2.2.1, unhide HSV]
        have hf42 := hb3.1.blk.frozen 2
        clear hb3 ho3 hk3 hat3 hbk3 c0' c1' c2' c3' HINS
        have g1 : (0 : Int) ≤ (s.sts.length : Int) - 1 := by omega
        have hscap : s.sts.length ≤ sc := by
          rcases (unhide HSO).2 with ⟨h1, _⟩ | ⟨g', cap', cur, hv, _, _, hc, _⟩
          · cases h1
          · cases hv; exact hc
        have g2 : (s.sts.length : Int) - 1 ≤ (sc : Int) := by omega
        have g3 : ((s.sts.length : Int) - 1).toNat = s.sts.length - 1 := by omega
        go_wp2
        go_end0
        obtain ⟨r1, r2, r3⟩ := unhide HB3
        have hso4 : (w3.setCell ⟨b, 1, none⟩ (.slice a3 N cap3)).ownsRow 0 3 1 (.slice (some ⟨gs, 0, none⟩) s.sts.length sc) s.sts.length (i64s s.sts) := by
          have := r1.sown; rwa [unhide HSV] at this
        have htk := own_take hso4 (k := s.sts.length - 1) (by omega)
        have htl : s.sts.dropLast.length = s.sts.length - 1 := by simp
        have hti : i64s s.sts.dropLast = (i64s s.sts).take (s.sts.length - 1) := by rw [unhide HDL]; simp [i64s]
        obtain ⟨q1, q2, q3⟩ := Wr.starts r1 s.sts.dropLast (sv' := .slice (some ⟨gs, 0, none⟩) (s.sts.length - 1) sc) (by rw [htl, hti]; exact htk) (Kept.refl _ _) (Or.inl (by rw [unhide HSV]; rfl)) (by rw [htl]; omega)
        have k2 : Kept [] w w2 := (unhide HK1).trans (unhide HQ).kept (by simp)
        refine ⟨rfl, _, _, q1, ((k2.mono (by simp)).trans r2 (fun x hx => Or.inl hx)).trans q2 (fun x hx => ?_), fun x hx => ?_⟩
        · rcases r3 x hx with h | h
          · exact Or.inl h
          · right; omega
        · rcases q3 x hx with h | h
          · rcases r3 x h with h | h
            · exact Or.inl h
            · right; omega
          · right; have := r2.size; omega
      · rw [if_neg hroom]
        have HR := hide hroom
        clear hroom
        go_enter Try.func20, Try.ntmps20
        go_wp2_with (first | (go_at_call 49; refine (fails_no (unhide HH) hf).mono ?_; rintro e w' ⟨rfl, rfl⟩))
        refine (form_any' (s.bs.length - st) _ (by omega)).mono ?_
        rintro e w1 ⟨fa, fc, rfl, hfo, hk1⟩
        have HW1 := hide ((unhide HH).kept hk1 (by simp))
        have HK1 := hide hk1
        clear hfo hk1
        go_wp2_with fail
        refine (hasRoom_any (unhide HW1) _ (by omega) false (by simpa using unhide HR)).mono ?_
        rintro e w2 ⟨rfl, hq⟩
        have HW2 := hide ((unhide HW1).quiet hq)
        have HQ := hide hq
        clear hq
        go_wp2_with (first | (go_at_call 50; refine (fail_do (unhide HW2) hf 13 (by omega)).mono ?_; rintro e w3 ⟨rfl, hw3, hk3⟩))
        refine bodyPost_ret (results_none rfl _ _ _) rfl ?_
        refine ⟨rfl, WPost.fail hw3 ?_⟩
        exact (((unhide HK1).trans (unhide HQ).kept (by simp)).mono (by simp)).trans hk3 (fun x hx => Or.inl hx)
  · rw [if_pos hf]
    clear h
    go_enter Try.func20, Try.ntmps20
    go_wp2_with (first | (go_at_call 49; refine (fails_yes (unhide HH) hf).mono ?_; rintro e w' ⟨rfl, rfl⟩))
    refine bodyPost_ret (results_none rfl _ _ _) rfl ?_
    exact ⟨rfl, WPost.same (unhide HH) (Kept.refl _ _)⟩
end Go.Proofs.Ytiabhgkndejigab
