/- The document's reading: a text. -/
import Derived.Test.YtigmofbammofbaaKRdB
namespace Go.Proofs.Ytigmofbammofbaa
open Go.RowKit

theorem Rdg.adv {w : World} {b : Nat} {V : Value} {bs t : List Nat} {x i : Nat} (h : Rdg w b V bs (.ok (x :: t))) (hi : w.cell? ⟨b, 1, none⟩ = some (.int .i64 (i : Int))) : Rdg (w.setCell ⟨b, 1, none⟩ (.int .i64 ((i : Int) + 1))) b V bs (.ok t) := by
  obtain ⟨h1, h0, h2, j, f, h3, h4, h5, h6, h7⟩ := h
  have hij : j = i := by
    have := h3.cell 1
    rw [hi] at this
    simp at this
    omega
  subst hij
  have hk1 : Kept [b] w (w.setCell ⟨b, 1, none⟩ (.int .i64 ((j : Int) + 1))) := (Kept.refl [b] w).setCell (p := ⟨b, 1, none⟩) (Or.inl (by simp)) _
  have hl : j < bs.length := by
    rcases Nat.lt_or_ge j bs.length with h | h
    · exact h
    · rw [List.drop_eq_nil_of_le h] at h7; cases h7
  rw [drop_at bs j hl] at h7
  have h8 : bs.drop (j + 1) = t := by injection h7
  exact ⟨h1.kept hk1 (hv_not h2 (by simp)), h0, h2, j + 1, f, h3.set 1 _, by omega, h5, h6, h8⟩
/-- the cells of a reading -/
theorem Rdg.cells {w : World} {b : Nat} {V : Value} {bs t : List Nat} (h : Rdg w b V bs (.ok t)) : ∃ (i : Nat) (a : Option Addr) (cap : Nat), V = .slice a bs.length cap ∧ i ≤ bs.length ∧ bs.length ≤ 1099511627776 ∧ bs.drop i = t ∧ w.cell? ⟨b, 0, none⟩ = some V ∧ w.cell? ⟨b, 1, none⟩ = some (.int .i64 (i : Int)) ∧ w.cell? ⟨b, 2, none⟩ = some (.int .i64 0) ∧ (∀ k, w.frozen? ⟨b, k, none⟩ = false) ∧ (i < bs.length → ∃ bb off, a = some ⟨bb, off, none⟩ ∧ w.cell? ⟨bb, off + i, none⟩ = some (.int .u8 (bs.getD i 0 : Nat))) := by
  obtain ⟨h1, h0, h2, i, f, h3, h4, h5, h6, h7⟩ := h
  subst h6
  obtain ⟨a, cap, rfl, hcap, hmx, hb256, hcells⟩ := h1
  exact ⟨i, a, cap, rfl, h4, h0, h7, by simpa using h3.cell 0, by simpa using h3.cell 1, by simpa using h3.cell 2, h3.frozen, fun hi => at_sees rfl hcells hi⟩

def TxtR (o : Option (List Nat × List Nat)) (x : List Nat) (s : St) : Prop := match o with | some (y, r) => x = y ∧ s = .ok r | none => s = .error 40

set_option maxRecDepth 100000 in
set_option maxHeartbeats 2000000 in
theorem text_any {w : World} {b : Nat} {V : Value} {bs t : List Nat} (h : Rdg w b V bs (.ok t)) :
    Calls Try.prog 44 #[.pointer (some ⟨b, 0, none⟩)] w fun e w' => ∃ a n c x s2, e = .returned (.slice a n c) ∧ x.length = n ∧ (∀ y ∈ x, y < 256) ∧ w'.ownsRow w.heap.size 5 1 (.slice a n c) n (u8s x) ∧ Rdg w' b V bs s2 ∧ TxtR (takeT t) x s2 ∧ Kept [b] w w' := by
  obtain ⟨i0, hi, hz0, hz1, hz2⟩ := info_parts info5p
  have HI := hide (⟨hi, hz0, hz1, hz2⟩ : _ ∧ _ ∧ _ ∧ _)
  clear hi hz0 hz1 hz2
  have HR := hide h
  have hbw := h.b
  have htl := h.lt.1
  have hbl : bs.length ≤ 1099511627776 := h.2.1
  have h256 := h.lt.2
  have H256 := hide h256
  clear h h256
  generalize hT : t.length = T at *
  have HT := hide hT
  clear hT
  have HNIL : Hid (w.ownsRow w.heap.size 5 1 (.slice none 0 0) 0 (u8s [])) := own_nil w _
  go_enter Try.func44, Try.ntmps44
  go_wp2_with fail
  go_loopw [3] (fun out wr => ∃ (acc cur : List Nat) (a' : Option Addr) (n' c' : Nat), out = .slice a' n' c' ∧ acc.length = n' ∧ n' + cur.length ≤ T ∧ (∀ y ∈ acc, y < 256) ∧ Rdg wr b V bs (.ok cur) ∧ takeT t = (takeT cur).map (fun y => (acc ++ y.1, y.2)) ∧ wr.ownsRow w.heap.size 5 1 (.slice a' n' c') n' (u8s acc) ∧ Kept [b] w wr) (fun out _ => match out with | .slice _ n _ => T - n | _ => 0)
  case atStart => exact ⟨[], t, none, 0, 0, rfl, rfl, by rw [unhide HT]; omega, by simp, unhide HR, by cases takeT t <;> simp, unhide HNIL, Kept.refl _ _⟩
  case round =>
    obtain ⟨acc, cur, a', n', c', rfl, hn', hnT, hacc, hr, htk, how, hkp⟩ := hrel
    have HN := hide hn'
    have HACC := hide hacc
    have HTK := hide htk
    have HOW := hide how
    have HK := hide hkp
    have HNX := hide (next_any hr)
    have hc256 := hr.lt.2
    clear hn' hacc htk how hkp hr
    cases cur with
    | nil =>
      simp only [nxt] at HNX
      have HTK2 : Hid (takeT t = none) := by unfold Hid; rw [unhide HTK]; rfl
      clear HTK
      go_wp2_with (first | (go_at_call 41; refine (unhide HNX).mono ?_; rintro e w1 ⟨rfl, hr1, hk1⟩; have c2 := hr1.fe.1; have HR1 := hide hr1; have HK1 := hide ((unhide HK).trans hk1 (fun y hy => Or.inl hy)); clear hr1 hk1 HNX))
      go_ret
      refine ⟨none, 0, 0, [], .error 40, rfl, rfl, by simp, ?_, unhide HR1, by rw [unhide HTK2]; rfl, unhide HK1⟩
      exact ⟨by simp [u8s], Or.inl ⟨rfl, rfl⟩⟩
    | cons x cur =>
      simp only [nxt] at HNX
      have hx := hc256 x (List.mem_cons_self ..)
      simp only [List.length_cons] at hnT
      have hsx : ∀ w : World, Sees (w.alloc (.cells #[.int .u8 (x : Int)] 5)) (.slice (some ⟨w.heap.size, 0, none⟩) 1 1) [x] := fun w => sees_one w x hx
      have HSX := hide hsx
      have HX63 : Hid (acc.length + [x].length ≤ 140737488355328) := by unfold Hid; rw [unhide HN]; simp; omega
      have HACC2 : Hid (∀ y ∈ acc ++ [x], y < 256) := by
        intro y hy
        rcases List.mem_append.1 hy with h | h
        · exact unhide HACC y h
        · rw [List.mem_singleton.1 h]; exact hx
      clear hsx
      by_cases hx0 : x = 0
      · subst hx0
        cases cur with
        | nil =>
          have HTK2 : Hid (takeT t = some (acc, [])) := by unfold Hid; rw [unhide HTK, takeT_end0]; simp
          clear HTK
          go_wp2_with (first | (go_at_call 41; refine (unhide HNX).mono ?_; rintro e w1 ⟨rfl, hr1, hk1⟩; obtain ⟨i, pa, pcap, hV, hil, hbl2, hdr, c0, c1, c2, fz, hcell⟩ := hr1.cells; rw [hV] at c0; clear hV; have HR1 := hide hr1; have HK1 := hide ((unhide HK).trans hk1 (fun y hy => Or.inl hy)); have HOK := hide (own_kept (unhide HOW) hk1 (fun k hk hm => by have := ((unhide HOW).lt k hk).1; simp at hm; omega)); clear hr1 hk1 HNX))
          have hil2 : i = bs.length := by
            rcases Nat.lt_or_ge i bs.length with h | h
            · rw [drop_at bs i h] at hdr; cases hdr
            · omega
          clear hcell hdr
          have HR1' := HR1
          generalize bs.length = BL at *
          subst hil2
          go_region
          all_goals
            go_wp2_with fail
            go_ret
            exact ⟨a', n', c', acc, .ok [], rfl, unhide HN, unhide HACC, own_kept (unhide HOK) (F := []) ((Kept.refl [] w1).drew) (by simp), (unhide HR1).kept (F := []) ((Kept.refl [] w1).drew) (by simp), by rw [unhide HTK2]; exact ⟨rfl, rfl⟩, (unhide HK1).drew⟩
        | cons y cur =>
          have hy := hc256 y (List.mem_cons_of_mem _ (List.mem_cons_self ..))
          go_wp2_with (first | (go_at_call 41; refine (unhide HNX).mono ?_; rintro e w1 ⟨rfl, hr1, hk1⟩; obtain ⟨i, pa, pcap, hV, hil, hbl2, hdr, c0, c1, c2, fz, hcell⟩ := hr1.cells; rw [hV] at c0; clear hV; have HR1 := hide hr1; have HK1 := hide ((unhide HK).trans hk1 (fun y hy => Or.inl hy)); have HOK := hide (own_kept (unhide HOW) hk1 (fun k hk hm => by have := ((unhide HOW).lt k hk).1; simp at hm; omega)); clear hr1 hk1 HNX))
          have hil2 : i < bs.length := by
            rcases Nat.lt_or_ge i bs.length with h | h
            · exact h
            · rw [List.drop_eq_nil_of_le h] at hdr; cases hdr
          obtain ⟨bb, off, rfl, hc⟩ := hcell hil2
          rw [drop_at bs i hil2] at hdr
          have hgy : bs.getD i 0 = y := by injection hdr
          rw [hgy] at hc
          clear hgy hdr hcell
          have f1 := fz 1
          generalize hBL : bs.length = BL at *
          have HBL := hide hBL
          clear hBL
          have t5 : ((i : Int) == (BL : Int)) = false := by simp; omega
          have t6 : (i : Int) < (BL : Int) := by omega
          by_cases hy255 : y = 255
          · subst hy255
            rw [takeT_esc, map_acc] at HTK
            have hc' : w1.cell? ⟨bb, off + i, none⟩ = some (.int .u8 255) := hc
            clear hc
            go_cut [36] (fun t wc => ∃ W, W = wc ∧ t = .bool false ∧ Hid (Quiet w1 W))
            case first =>
              go_region
              all_goals
                go_wp2_with fail
                go_meet
                exact ⟨_, rfl, rfl, (Quiet.refl w1).drew⟩
            case rest =>
              obtain ⟨W, rfl, rfl, HQ⟩ := hcut
              have hq := unhide HQ
              have d1 := (hq.cell ⟨b, 1, none⟩).trans c1
              have g1 := (hq.frozen ⟨b, 1, none⟩).trans f1
              have HRW := hide (((unhide HR1).kept hq.kept (by simp)).adv d1)
              have HKW : Hid (Kept [b] w (W.setCell ⟨b, 1, none⟩ (.int .i64 ((i : Int) + 1)))) := ((unhide HK1).trans hq.kept (by simp)).setCell (p := ⟨b, 1, none⟩) (Or.inl (by simp)) _
              have hk3 : Kept [b] w1 (W.setCell ⟨b, 1, none⟩ (.int .i64 ((i : Int) + 1))) := ((Kept.refl [b] w1).trans hq.kept (by simp)).setCell (p := ⟨b, 1, none⟩) (Or.inl (by simp)) _
              have HOK2 := hide (own_kept (unhide HOK) hk3 (fun k hk hm => by have := ((unhide HOK).lt k hk).1; simp at hm; omega))
              have e1 : IntKind.i64.wrap ((i : Int) + 1) = (i : Int) + 1 := by rw [IntKind.wrap_i64]; omega
              clear hq c0 c1 c2 hc' fz f1 hk3
              have HO1 : Hid (((W.setCell ⟨b, 1, none⟩ (.int .i64 ((i : Int) + 1))).alloc (.cells #[.int .u8 0] 5)).ownsRow w.heap.size 5 1 (.slice a' n' c') acc.length (u8s acc)) := by
                unfold Hid; rw [unhide HN]; exact own_kept (unhide HOK2) ((Kept.refl [] _).alloc _) (by simp)
              have HB1 : Hid (w.heap.size ≤ ((W.setCell ⟨b, 1, none⟩ (.int .i64 ((i : Int) + 1))).alloc (.cells #[.int .u8 0] 5)).heap.size) := ((unhide HKW).alloc _).size
              simp only [List.length_cons] at hnT
              have HSX0 : Hid (Sees ((W.setCell ⟨b, 1, none⟩ (.int .i64 ((i : Int) + 1))).alloc (.cells #[.int .u8 0] 5)) (.slice (some ⟨W.heap.size, 0, none⟩) 1 1) [0]) := by
                have h := sees_one (W.setCell ⟨b, 1, none⟩ (.int .i64 ((i : Int) + 1))) 0 (by omega)
                rw [show (W.setCell ⟨b, 1, none⟩ (.int .i64 ((i : Int) + 1))).heap.size = W.heap.size by simp [World.setCell]] at h
                exact h
              go_wp2_with (first | (at_builtin; refine wpList_append_sees _ rfl _ _ 24 rfl w.heap.size 5 i0 (.int .u8 0) Try.underlying24 (unhide HI).1 (unhide HI).2.1 (unhide HI).2.2.1 (unhide HI).2.2.2 rfl _ acc rfl (unhide HO1) _ [0] rfl (unhide HSX0) (unhide HX63) (unhide HB1) ?_))
              intro v2 w2 ho2 hg2 hat2
              have ho2' : w2.ownsRow w.heap.size 5 1 v2 (n' + 1) (u8s (acc ++ [0])) := by
                have h := ho2
                have hl : (acc ++ [0]).length = n' + 1 := by rw [List.length_append, unhide HN]; rfl
                first | exact h | (rw [hl] at h; exact h) | (simp [unhide HN] at h; exact h)
              clear ho2
              have ho2 := ho2'
              obtain ⟨a2, c2', rfl⟩ := own_len ho2
              have hk2 : Kept (Value.slice a' n' c').ownBlock.toList _ w2 := (Kept.refl _ _).grown hg2 (fun k hk => Or.inl (by simp [hk]))
              have HR2 : Hid (Rdg w2 b V bs (.ok cur)) := ((unhide HRW).kept ((Kept.refl [] _).alloc _) (by simp)).kept hk2 (fun y hy => by have := ((unhide HOK2).lt y (by simpa using hy)).1; omega)
              have HK2 : Hid (Kept [b] w w2) := ((unhide HKW).alloc _).grown hg2 (fun k hk => Or.inr ((unhide HOK2).lt k hk).1)
              have HO2 := hide ho2
              clear ho2 ho2' hg2 hat2 hk2
              go_wp2
              exact ⟨⟨acc ++ [0], cur, a2, n' + 1, c2', rfl, by rw [List.length_append, unhide HN]; rfl, by omega, unhide HACC2, unhide HR2, unhide HTK, unhide HO2, unhide HK2⟩, by simp; omega⟩
          · rw [takeT_end y cur hy255] at HTK
            have HTK2 : Hid (takeT t = some (acc, y :: cur)) := by unfold Hid; rw [unhide HTK]; simp
            have t7 : ((y : Int) != 255) = true := by simp; omega
            go_region
            all_goals
              go_wp2_with fail
              go_ret
              exact ⟨a', n', c', acc, .ok (y :: cur), rfl, unhide HN, unhide HACC, own_kept (unhide HOK) (F := []) ((Kept.refl [] w1).drew) (by simp), (unhide HR1).kept (F := []) ((Kept.refl [] w1).drew) (by simp), by rw [unhide HTK2]; exact ⟨rfl, rfl⟩, (unhide HK1).drew⟩
      · rw [takeT_byte x cur hx0, map_acc] at HTK
        have t1 : ((x : Int) == 0) = false := by simp; omega
        go_wp2_with (first
          | (go_at_call 41; refine (unhide HNX).mono ?_; rintro e w1 ⟨rfl, hr1, hk1⟩; have c2 := hr1.f0.1; have HR1 := hide hr1; have HK1 := hide ((unhide HK).trans hk1 (fun y hy => Or.inl hy)); have HOK := hide (own_kept (unhide HOW) hk1 (fun k hk hm => by have := ((unhide HOW).lt k hk).1; simp at hm; omega)); have HO1 : Hid ((w1.alloc (.cells #[.int .u8 (x : Int)] 5)).ownsRow w.heap.size 5 1 (.slice a' n' c') acc.length (u8s acc)) := (by unfold Hid; rw [unhide HN]; exact own_kept (unhide HOK) ((Kept.refl [] w1).alloc _) (by simp)); have HB1 : Hid (w.heap.size ≤ (w1.alloc (.cells #[.int .u8 (x : Int)] 5)).heap.size) := ((unhide HK1).alloc _).size; clear hr1 hk1 HNX)
          | (at_builtin; refine wpList_append_sees _ rfl _ _ 24 rfl w.heap.size 5 i0 (.int .u8 0) Try.underlying24 (unhide HI).1 (unhide HI).2.1 (unhide HI).2.2.1 (unhide HI).2.2.2 rfl _ acc rfl (unhide HO1) _ [x] rfl (unhide HSX _) (unhide HX63) (unhide HB1) ?_))
        have HOK2 := HOK
        intro v2 w2 ho2 hg2 hat2
        have ho2' : w2.ownsRow w.heap.size 5 1 v2 (n' + 1) (u8s (acc ++ [x])) := by
          have h := ho2
          have hl : (acc ++ [x]).length = n' + 1 := by rw [List.length_append, unhide HN]; rfl
          first | exact h | (rw [hl] at h; exact h) | (simp [unhide HN] at h; exact h)
        clear ho2
        have ho2 := ho2'
        obtain ⟨a2, c2', rfl⟩ := own_len ho2
        have hk2 : Kept (Value.slice a' n' c').ownBlock.toList _ w2 := (Kept.refl _ _).grown hg2 (fun k hk => Or.inl (by simp [hk]))
        have HR2 : Hid (Rdg w2 b V bs (.ok cur)) := ((unhide HR1).kept ((Kept.refl [] _).alloc _) (by simp)).kept hk2 (fun y hy => by have := ((unhide HOK2).lt y (by simpa using hy)).1; omega)
        have HK2 : Hid (Kept [b] w w2) := ((unhide HK1).alloc _).grown hg2 (fun k hk => Or.inr ((unhide HOK2).lt k hk).1)
        have HO2 := hide ho2
        clear ho2 ho2' hg2 hat2 hk2
        go_wp2
        exact ⟨⟨acc ++ [x], cur, a2, n' + 1, c2', rfl, by rw [List.length_append, unhide HN]; rfl, by omega, unhide HACC2, unhide HR2, unhide HTK, unhide HO2, unhide HK2⟩, by simp; omega⟩
end Go.Proofs.Ytigmofbammofbaa
