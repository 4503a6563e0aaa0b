/- closed. -/
import Derived.Test.YtiabhgkndejigabRowT
namespace Go.Proofs.Ytiabhgkndejigab
open Go.RowKit

theorem Try.info35 : (Try.prog.info? 35).map (fun i => (i.zero, i.size, i.bytes)) = some (some (.agg #[.int .i64 0, .int .u64 0, .int .i64 0, .slice none 0 0]), 4, 48) := by kernel_rfl

def Th.cells (t : Th) : List Value := [.int .i64 t.kind, .int .u64 (t.n : Int), .int .i64 t.i, .slice t.pa t.p.length t.pc]
def cellsT (ts : List Th) : List Value := ts.flatMap Th.cells
theorem cellsT_append (a b : List Th) : cellsT (a ++ b) = cellsT a ++ cellsT b := by simp [cellsT]
theorem cells_one (t : Th) : ∀ u ∈ t.cells, u.oneCell' = true := by
  intro u hu; simp [Th.cells] at hu; rcases hu with rfl | rfl | rfl | rfl <;> rfl
theorem news_T (w : World) (t : Th) : ∀ j u, t.cells[j]? = some u → (t.copy w).cell? ((⟨w.heap.size, 0, none⟩ : Addr).add j) = some u := by
  intro j u hj
  have hb := blk4 (Blk.new w #[.int .i64 t.kind, .int .u64 (t.n : Int), .int .i64 t.i, .slice t.pa t.p.length t.pc] 35)
  have hadd : (⟨w.heap.size, 0, none⟩ : Addr).add j = ⟨w.heap.size, j, none⟩ := by unfold Addr.add; split <;> simp_all
  rw [hadd]
  unfold Th.copy
  match j, hj with
  | 0, hj => simp [Th.cells] at hj; subst hj; exact hb.1
  | 1, hj => simp [Th.cells] at hj; subst hj; exact hb.2.1
  | 2, hj => simp [Th.cells] at hj; subst hj; exact hb.2.2.1
  | 3, hj => simp [Th.cells] at hj; subst hj; exact hb.2.2.2
  | j + 4, hj => simp [Th.cells] at hj

set_option maxRecDepth 100000 in
set_option maxHeartbeats 1000000 in
theorem closed_any {w : World} {v : Value} {ts : List Th} (h : RowT w v ts) (hl : ts.length ≤ 2000000000) :
    Calls Try.prog 25 #[v] w fun e w' => ∃ a cap, e = .returned (.slice a (shut 0 ts).length cap) ∧ w'.ownsRow w.heap.size 35 4 (.slice a (shut 0 ts).length cap) (shut 0 ts).length (cellsT (shut 0 ts)) ∧ Kept [] w w' := by
  obtain ⟨i0, hi, hz0, hz1, hz2⟩ := info_parts Try.info35
  obtain ⟨a, cap, rfl⟩ := h.len
  have HH := hide h
  clear h
  go_enter Try.func25, Try.ntmps25
  go_wp2
  go_loopw [3, 4, 5] (fun ov dv i wr => ∃ (k d : Nat) (o : List Th), k ≤ ts.length ∧ i = .int .i64 k ∧ d ≤ 16 ∧ dv = .int .i64 d ∧ o.length ≤ k ∧ Hid (wr.ownsRow w.heap.size 35 4 ov o.length (cellsT o) ∧ shut 0 ts = o ++ shut d (ts.drop k) ∧ Kept [] w wr)) (fun _ _ i _ => ts.length - (intOf i).toNat)
  case atStart => exact ⟨0, 0, [], by omega, rfl, by omega, rfl, by simp, hide ⟨World.ownsRow_nil _ _ _ _, by simp, Kept.refl _ _⟩⟩
  case round =>
    obtain ⟨k, d, o, hk, rfl, hd, rfl, hok, HI⟩ := hrel
    obtain ⟨oa, oc, hov⟩ := own_len (unhide HI).1
    subst hov
    by_cases hlt : k < ts.length
    · have hrow := (unhide HH).kept (unhide HI).2.2 (by simp)
      rcases hrow with ⟨_, _, h2⟩ | ⟨vb, off, cap', hv, _, hm, _, h4⟩
      · subst h2; simp at hlt
      cases hv
      obtain ⟨q0, q1, q2, q3⟩ := h4 k hlt
      have hdrop : ts.drop k = ts[k] :: ts.drop (k + 1) := (List.getElem_cons_drop hlt).symm
      have HD := hide hdrop
      generalize ts[k] = t at *
      clear h4 hm hdrop
      have HK := fun w => kind_any t w
      have hk9 := rnd_lt t.kind 9 (by omega)
      simp only [Th.val, Th.copy] at HK
      have HO2 : Hid (((wr.alloc (.cells #[.int .i64 t.kind, .int .u64 (t.n : Int), .int .i64 t.i, .slice t.pa t.p.length t.pc] 35)).alloc (.cells #[.int .i64 t.kind, .int .u64 (t.n : Int), .int .i64 t.i, .slice t.pa t.p.length t.pc] 35)).ownsRow w.heap.size 35 4 (.slice oa o.length oc) o.length (cellsT o)) := hide (own_kept (unhide HI).1 (((Kept.refl [] _).alloc _).alloc _) (by simp))
      have HNW : Hid (∀ j u, t.cells[j]? = some u → ((wr.alloc (.cells #[.int .i64 t.kind, .int .u64 (t.n : Int), .int .i64 t.i, .slice t.pa t.p.length t.pc] 35)).alloc (.cells #[.int .i64 t.kind, .int .u64 (t.n : Int), .int .i64 t.i, .slice t.pa t.p.length t.pc] 35)).cell? ((⟨wr.heap.size + 1, 0, none⟩ : Addr).add j) = some u) := by
        have := news_T (t.copy wr) t
        have e : (t.copy wr).heap.size = wr.heap.size + 1 := by simp [Th.copy]
        rw [e] at this
        exact hide this
      have HSZ : Hid (w.heap.size ≤ ((wr.alloc (.cells #[.int .i64 t.kind, .int .u64 (t.n : Int), .int .i64 t.i, .slice t.pa t.p.length t.pc] 35)).alloc (.cells #[.int .i64 t.kind, .int .u64 (t.n : Int), .int .i64 t.i, .slice t.pa t.p.length t.pc] 35)).heap.size) := hide (((unhide HI).2.2.alloc _).alloc _).size
      have hkt : t.k = rnd t.kind 9 := rfl
      by_cases hA : rnd t.kind 9 = 7
      · rw [hA] at HK hkt
        clear hA hk9
        by_cases hd16 : d = 16
        · subst hd16
          go_wp2_with (first | (go_at_call 29; refine (HK _).mono ?_; rintro e w' ⟨rfl, rfl⟩))
          go_roundw
          case rel =>
            refine ⟨k + 1, _, o, by omega, by go_num, hd, rfl, by omega, hide ⟨own_kept (unhide HI).1 ((Kept.refl [] _).alloc _) (by simp), ?_, (unhide HI).2.2.alloc _⟩⟩
            rw [(unhide HI).2.1, unhide HD, shut]
            simp [hkt]
          case measure => simp [intOf]; omega
        · have d1 : ((d : Int) == 16) = false := by rw [beq_eq_false_iff_ne]; omega
          go_wp2_with (first | (go_at_call 29; refine (HK _).mono ?_; rintro e w' ⟨rfl, rfl⟩) | (at_builtin; refine wpList_append_own_at _ rfl _ _ 47 rfl w.heap.size 35 i0 _ 4 48 Try.underlying47 hi hz0 hz1 hz2 rfl (by omega) _ o.length (cellsT o) rfl (unhide HO2) ⟨wr.heap.size + 1, 0, none⟩ 1 1 t.cells rfl rfl (unhide HNW) (cells_one t) ?c1 ?c2 ?c3 ?_))
          case c1 => unfold maxLen; omega
          case c2 => omega
          case c3 => exact unhide HSZ
          intro v' w1 hown1 hg1 _ hat1
          have HO1 := hide hown1
          have HG1 := hide hg1
          obtain ⟨a1, c1, hv1⟩ := own_len hown1
          subst hv1
          clear hown1 hat1 hg1
          go_wp2
          go_roundw
          case rel =>
            refine ⟨k + 1, d + 1, o ++ [t], by omega, by go_num, by omega, by go_num, by simp; omega, hide ⟨?_, ?_, ?_⟩⟩
            · have := unhide HO1
              rw [cellsT_append, List.length_append]
              simpa [cellsT] using this
            · rw [(unhide HI).2.1, unhide HD, shut]
              simp [hkt, hd16]
            · exact (((unhide HI).2.2.alloc _).alloc _).grown (unhide HG1) (fun x hx => Or.inr ((unhide HO2).lt x (by simpa using hx)).1)
          case measure => simp [intOf]; omega
      · by_cases hB : rnd t.kind 9 = 8
        · rw [hB] at HK hkt
          clear hA hB hk9
          by_cases hd0 : d = 0
          · subst hd0
            go_wp2_with (first | (go_at_call 29; refine (HK _).mono ?_; rintro e w' ⟨rfl, rfl⟩))
            go_roundw
            case rel =>
              refine ⟨k + 1, _, o, by omega, by go_num, hd, rfl, by omega, hide ⟨own_kept (unhide HI).1 ((Kept.refl [] _).alloc _) (by simp), ?_, (unhide HI).2.2.alloc _⟩⟩
              rw [(unhide HI).2.1, unhide HD, shut]
              simp [hkt]
            case measure => simp [intOf]; omega
          · have d1 : ((d : Int) == 0) = false := by rw [beq_eq_false_iff_ne]; omega
            go_wp2_with (first | (go_at_call 29; refine (HK _).mono ?_; rintro e w' ⟨rfl, rfl⟩) | (at_builtin; refine wpList_append_own_at _ rfl _ _ 47 rfl w.heap.size 35 i0 _ 4 48 Try.underlying47 hi hz0 hz1 hz2 rfl (by omega) _ o.length (cellsT o) rfl (unhide HO2) ⟨wr.heap.size + 1, 0, none⟩ 1 1 t.cells rfl rfl (unhide HNW) (cells_one t) ?c1 ?c2 ?c3 ?_))
            case c1 => unfold maxLen; omega
            case c2 => omega
            case c3 => exact unhide HSZ
            intro v' w1 hown1 hg1 _ hat1
            have HO1 := hide hown1
            have HG1 := hide hg1
            obtain ⟨a1, c1, hv1⟩ := own_len hown1
            subst hv1
            clear hown1 hat1 hg1
            go_wp2
            go_roundw
            case rel =>
              refine ⟨k + 1, d - 1, o ++ [t], by omega, by go_num, by omega, by go_num, by simp; omega, hide ⟨?_, ?_, ?_⟩⟩
              · have := unhide HO1
                rw [cellsT_append, List.length_append]
                simpa [cellsT] using this
              · rw [(unhide HI).2.1, unhide HD, shut]
                simp [hkt, hd0]
              · exact (((unhide HI).2.2.alloc _).alloc _).grown (unhide HG1) (fun x hx => Or.inr ((unhide HO2).lt x (by simpa using hx)).1)
            case measure => simp [intOf]; omega
        · have hT7 : t.k < 7 := by omega
          generalize hKK : 1 + rnd t.kind 9 = K at HK
          have d1 : ((K : Int) == 8) = false := by rw [beq_eq_false_iff_ne]; omega
          have d2 : ((K : Int) == 9) = false := by rw [beq_eq_false_iff_ne]; omega
          clear hA hB hKK hk9 hkt
          go_wp2_with (first | (go_at_call 29; refine (HK _).mono ?_; rintro e w' ⟨rfl, rfl⟩) | (at_builtin; refine wpList_append_own_at _ rfl _ _ 47 rfl w.heap.size 35 i0 _ 4 48 Try.underlying47 hi hz0 hz1 hz2 rfl (by omega) _ o.length (cellsT o) rfl (unhide HO2) ⟨wr.heap.size + 1, 0, none⟩ 1 1 t.cells rfl rfl (unhide HNW) (cells_one t) ?c1 ?c2 ?c3 ?_))
          case c1 => unfold maxLen; omega
          case c2 => omega
          case c3 => exact unhide HSZ
          intro v' w1 hown1 hg1 _ hat1
          have HO1 := hide hown1
          have HG1 := hide hg1
          obtain ⟨a1, c1, hv1⟩ := own_len hown1
          subst hv1
          clear hown1 hat1 hg1
          go_wp2
          go_roundw
          case rel =>
            refine ⟨k + 1, d, o ++ [t], by omega, by go_num, by omega, rfl, by simp; omega, hide ⟨?_, ?_, ?_⟩⟩
            · have := unhide HO1
              rw [cellsT_append, List.length_append]
              simpa [cellsT] using this
            · rw [(unhide HI).2.1, unhide HD, shut]
              rw [if_neg (by omega), if_neg (by omega)]; simp
            · exact (((unhide HI).2.2.alloc _).alloc _).grown (unhide HG1) (fun x hx => Or.inr ((unhide HO2).lt x (by simpa using hx)).1)
          case measure => simp [intOf]; omega
    · have hk2 : k = ts.length := by omega
      subst hk2
      have hend : shut 0 ts = o ++ List.replicate d shutT := by
        have := (unhide HI).2.1; rwa [List.drop_length, shut] at this
      have HI2 := hide (And.intro (unhide HI).1 (And.intro hend (unhide HI).2.2))
      clear HI hend hlt HH
      go_wp2
      go_loopw [3, 4] (fun ov dv wx => ∃ (d : Nat) (o : List Th), d ≤ 16 ∧ dv = .int .i64 d ∧ o.length + d ≤ ts.length + 16 ∧ Hid (wx.ownsRow w.heap.size 35 4 ov o.length (cellsT o) ∧ shut 0 ts = o ++ List.replicate d shutT ∧ Kept [] w wx)) (fun _ dv _ => (intOf dv).toNat)
      case atStart => exact ⟨d, o, hd, rfl, by omega, HI2⟩
      case round =>
        clear HI2 hd hok
        obtain ⟨d, o, hd, rfl, hol, HI⟩ := hrel
        obtain ⟨oa, oc, hov⟩ := own_len (unhide HI).1
        subst hov
        by_cases hd0 : 0 < d
        · have HO2 : Hid ((wr.alloc (.cells #[.int .i64 8, .int .u64 0, .int .i64 0, .slice none 0 0] 35)).ownsRow w.heap.size 35 4 (.slice oa o.length oc) o.length (cellsT o)) := hide (own_kept (unhide HI).1 ((Kept.refl [] _).alloc _) (by simp))
          have HNW : Hid (∀ j u, shutT.cells[j]? = some u → (wr.alloc (.cells #[.int .i64 8, .int .u64 0, .int .i64 0, .slice none 0 0] 35)).cell? ((⟨wr.heap.size, 0, none⟩ : Addr).add j) = some u) := hide (news_T wr shutT)
          have HSZ : Hid (w.heap.size ≤ (wr.alloc (.cells #[.int .i64 8, .int .u64 0, .int .i64 0, .slice none 0 0] 35)).heap.size) := hide ((unhide HI).2.2.alloc _).size
          go_wp2_with (first | (at_builtin; refine wpList_append_own_at _ rfl _ _ 47 rfl w.heap.size 35 i0 _ 4 48 Try.underlying47 hi hz0 hz1 hz2 rfl (by omega) _ o.length (cellsT o) rfl (unhide HO2) ⟨wr.heap.size, 0, none⟩ 1 1 shutT.cells rfl rfl (unhide HNW) (cells_one shutT) ?c1 ?c2 ?c3 ?_))
          case c1 => unfold maxLen; omega
          case c2 => omega
          case c3 => exact unhide HSZ
          intro v' w1 hown1 hg1 _ hat1
          have HO1 := hide hown1
          have HG1 := hide hg1
          obtain ⟨a1, c1, hv1⟩ := own_len hown1
          subst hv1
          clear hown1 hat1 hg1
          go_wp2
          go_roundw
          case rel =>
            refine ⟨d - 1, o ++ [shutT], by omega, by go_num, by simp; omega, hide ⟨?_, ?_, ?_⟩⟩
            · have := unhide HO1
              rw [cellsT_append, List.length_append]
              simpa [cellsT] using this
            · obtain ⟨e, rfl⟩ : ∃ e, d = e + 1 := ⟨d - 1, by omega⟩
              rw [(unhide HI).2.1, List.replicate_succ]; simp
            · exact ((unhide HI).2.2.alloc _).grown (unhide HG1) (fun x hx => Or.inr ((unhide HO2).lt x (by simpa using hx)).1)
          case measure => simp [intOf]; omega
        · have e0 : d = 0 := by omega
          subst e0
          have hend : shut 0 ts = o := by have := (unhide HI).2.1; simpa using this
          have HI3 := hide (And.intro (unhide HI).1 (unhide HI).2.2)
          clear HI
          subst hend
          go_wp2
          go_ret
          exact ⟨oa, oc, rfl, (unhide HI3).1, (unhide HI3).2⟩
end Go.Proofs.Ytiabhgkndejigab
