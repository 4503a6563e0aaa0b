/- Words and texts laid behind bytes. -/
import Derived.Test.YtigmofbammofbabKLay
namespace Go.Proofs.Ytigmofbammofbab
open Go.RowKit

/-- from (w, v) to (w', v'): v' is the call's own row of the bytes bs', and nothing else has changed but v's block -/
structure LayS (B : Nat) (w : World) (v : Value) (w' : World) (v' : Value) (bs' : List Nat) : Prop where
  own : w'.ownsRow B 5 1 v' bs'.length (u8s bs')
  kept : Kept v.ownBlock.toList w w'
  place : ∀ k, v'.ownBlock = some k → v.ownBlock = some k ∨ w.heap.size ≤ k
theorem LayS.refl {B : Nat} {w : World} {v : Value} {bs : List Nat} (h : w.ownsRow B 5 1 v bs.length (u8s bs)) : LayS B w v w v bs := ⟨h, Kept.refl _ _, fun _ hk => Or.inl hk⟩
theorem LayS.trans {B : Nat} {w w1 w2 : World} {v v1 v2 : Value} {bs1 bs2 : List Nat} (h : LayS B w v w1 v1 bs1) (k : LayS B w1 v1 w2 v2 bs2) : LayS B w v w2 v2 bs2 := by
  refine ⟨k.own, h.kept.trans k.kept (fun x hx => ?_), fun x hx => ?_⟩
  · have hx' : v1.ownBlock = some x := by simpa using hx
    rcases h.place x hx' with h1 | h1
    · exact Or.inl (by simp [h1])
    · exact Or.inr h1
  · rcases k.place x hx with h1 | h1
    · exact h.place x h1
    · exact Or.inr (Nat.le_trans h.kept.size h1)
theorem LayS.alloc {B : Nat} {w w' : World} {v v' : Value} {bs' : List Nat} (h : LayS B w v w' v' bs') (o : Obj) : LayS B w v (w'.alloc o) v' bs' :=
  ⟨own_kept h.own ((Kept.refl [] _).alloc o) (by simp), h.kept.alloc o, h.place⟩
theorem LayS.grow {B : Nat} {w w' w2 : World} {v v' v2 : Value} {bs' bs2 : List Nat} (h : LayS B w v w' v' bs') (h2 : w2.ownsRow B 5 1 v2 bs2.length (u8s bs2)) (hg : w'.grownBy w2 v'.ownBlock) (hl : v2.ownBlock = v'.ownBlock ∨ v2.ownBlock = some w'.heap.size) : LayS B w v w2 v2 bs2 := by
  refine ⟨h2, h.kept.grown hg (fun k hk => ?_), fun k hk => ?_⟩
  · rcases h.place k hk with h1 | h1
    · exact Or.inl (by simp [h1])
    · exact Or.inr h1
  · rcases hl with hl | hl
    · exact h.place k (hl ▸ hk)
    · rw [hl] at hk
      have : w'.heap.size = k := by simpa using hk
      exact Or.inr (by rw [← this]; exact h.kept.size)
theorem LayS.base {B : Nat} {w w' : World} {v v' : Value} {bs' : List Nat} (h : LayS B w v w' v' bs') (hB : B ≤ w.heap.size) : B ≤ w'.heap.size := Nat.le_trans hB h.kept.size
theorem LayS.hb {B : Nat} {w w' : World} {v v' : Value} {bs' : List Nat} (h : LayS B w v w' v' bs') (hB : B ≤ w.heap.size) : Hid (B ≤ w'.heap.size) := h.base hB
/-- 'append(p, x...)' of bytes, p laid so far -/
theorem wpList_append_lay (w : World) {ops : Array Oper} {rest : List Oper} {o : Oper} {a : Act} {Q : Exit → Act → World → Prop} (hgd : o.guard = none) (s x : Operand)
    (ho : o.op = .call { callee := .builtin .append, args := #[s, x], argTypes := #[25, 25] })
    {B : Nat} {w0 : World} {v0 v : Value} {xs : List Nat} (hs : a.eval s = v) (hls : Hid (LayS B w0 v0 w v xs)) {xv : Value} {ys : List Nat} (hxv : a.eval x = xv) (hx : Hid (Sees w xv ys))
    (h63 : Hid (xs.length + ys.length ≤ 140737488355328)) (hB : Hid (B ≤ w.heap.size)) (N : Nat) (XS : List Nat) (hXS : Hid (xs ++ ys = XS)) (hN : Hid (XS.length = N))
    (h : ∀ a' cap' w', Hid (LayS B w0 v0 w' (.slice a' N cap') XS) → wpList Try.prog ops Q rest (a.put o.dst (.slice a' N cap')) w') :
    wpList Try.prog ops Q (o :: rest) a w := by
  obtain ⟨i0, hi, hz0, hz1, hz2⟩ := info_parts info5p
  refine wpList_append_sees w hgd s x 25 ho B 5 i0 (.int .u8 0) Try.underlying25 hi hz0 hz1 hz2 rfl v xs hs hls.own xv ys hxv hx h63 hB ?_
  intro v' w' h1 h2 h3
  obtain ⟨a', c', rfl⟩ := own_len h1
  have h4 := LayS.grow hls h1 h2 h3
  rw [show (xs ++ ys).length = N by rw [unhide hXS]; exact hN] at h4 ⊢
  rw [unhide hXS] at h4
  exact h a' c' w' h4
theorem be8_take (m k : Nat) (hk : k < 8) : (be8 m).take (k + 1) = (be8 m).take k ++ [m / 2 ^ (56 - 8 * k) % 256] := by
  obtain h | h | h | h | h | h | h | h : k = 0 ∨ k = 1 ∨ k = 2 ∨ k = 3 ∨ k = 4 ∨ k = 5 ∨ k = 6 ∨ k = 7 := by omega
  all_goals (subst h; simp [be8])
theorem sees_one (w : World) (x : Nat) (hx : x < 256) : Sees (w.alloc (.cells #[.int .u8 (x : Int)] 5)) (.slice (some ⟨w.heap.size, 0, none⟩) 1 1) [x] :=
  Sees.of_blk (n := 1) rfl (Blk.new w _ 5) (by simpa using hx) 1 (by omega) (by omega)

set_option maxRecDepth 100000 in
set_option maxHeartbeats 2000000 in
theorem layWord_any {B : Nat} {w : World} {a : Option Addr} {n cap : Nat} {bs : List Nat} (ho : w.ownsRow B 5 1 (.slice a n cap) n (u8s bs)) (hn : bs.length = n) (hB : B ≤ w.heap.size) (hl : n + 8 ≤ 140737488355328) (m : Nat) :
    Calls Try.prog 40 #[.slice a n cap, .int .u64 (m : Int)] w fun e w' => ∃ a' cap', e = .returned (.slice a' (n + 8) cap') ∧ LayS B w (.slice a n cap) w' (.slice a' (n + 8) cap') (bs ++ be8 m) := by
  have HO := hide ho
  have HN := hide hn
  clear ho hn
  go_enter Try.func40, Try.ntmps40
  go_wp2_with fail
  go_loopw [0, 6] (fun p i wr => ∃ (k : Nat) (a' : Option Addr) (cap' : Nat), k ≤ 8 ∧ i = .int .i64 k ∧ p = .slice a' (n + k) cap' ∧ LayS B w (.slice a n cap) wr (.slice a' (n + k) cap') (bs ++ (be8 m).take k)) (fun _ i _ => 8 - (intOf i).toNat)
  case atStart => exact ⟨0, a, cap, by omega, rfl, rfl, LayS.refl (by
      have := unhide HO
      simp only [List.take_zero, List.append_nil]
      rw [unhide HN]; exact this)⟩
  case round =>
    obtain ⟨k, a', cap', hk, rfl, rfl, hls⟩ := hrel
    have HLS := hide hls
    clear hls
    by_cases hk8 : k < 8
    · have t1 : (k : Int) < 8 := by omega
      have HBT := hide (be8_take m k hk8)
      obtain ⟨q, hq0⟩ : ∃ q, q = m / 2 ^ (56 - 8 * k) % 256 := ⟨_, rfl⟩
      have hq : (m : Int) / 2 ^ (56 - 8 * k) % 256 = (q : Int) := by rw [hq0]; push_cast; rfl
      have hq1 : q < 256 := by rw [hq0]; omega
      rw [← hq0] at HBT
      clear hq0
      have HX : Hid ((bs ++ (be8 m).take k).length = n + k) := by unfold Hid; rw [List.length_append, unhide HN, List.length_take, be8_length]; omega
      have HX1 : Hid (bs ++ (be8 m).take k ++ [q] = bs ++ (be8 m).take (k + 1)) := by unfold Hid; rw [unhide HBT, List.append_assoc]
      have HX2 : Hid ((bs ++ (be8 m).take (k + 1)).length = n + (k + 1)) := by unfold Hid; rw [← unhide HX1, List.length_append, unhide HX]; rfl
      have HX3 : Hid ((bs ++ (be8 m).take k).length + [q].length ≤ 140737488355328) := by unfold Hid; rw [unhide HX]; simp; omega
      have HLA := hide ((unhide HLS).alloc (.cells #[.int .u8 (q : Int)] 5))
      have HS1 := hide (sees_one wr q hq1)
      go_wp2_with (at_builtin; refine wpList_append_lay _ rfl _ _ rfl rfl HLA rfl HS1 HX3 ((unhide HLA).hb hB) (n + (k + 1)) _ HX1 HX2 ?_)
      intro a2 c2 w2 HL2
      go_wp2
      exact ⟨⟨k + 1, a2, c2, by omega, by simp, rfl, unhide HL2⟩, by simp [intOf]; omega⟩
    · obtain rfl : k = 8 := by omega
      go_wp2
      go_ret
      exact ⟨a', cap', rfl, unhide HLS⟩

set_option maxRecDepth 100000 in
set_option maxHeartbeats 2000000 in
theorem layText_any {S : Nat → Prop} {B : Nat} {w : World} {a : Option Addr} {n cap : Nat} {bs : List Nat} (ho : w.ownsRow B 5 1 (.slice a n cap) n (u8s bs)) (hn : bs.length = n) (hB : B ≤ w.heap.size) {tv : Value} {text : List Nat} (ht : SeesIn S w tv text) (hS : ∀ k, (Value.slice a n cap).ownBlock = some k → ¬ S k) (hl : n + 2 * text.length + 1 ≤ 140737488355328) :
    Calls Try.prog 43 #[.slice a n cap, tv] w fun e w' => ∃ a' n' cap', e = .returned (.slice a' n' cap') ∧ n' = (bs ++ (esc text ++ [0])).length ∧ LayS B w (.slice a n cap) w' (.slice a' n' cap') (bs ++ (esc text ++ [0])) := by
  have HO := hide ho
  have HN := hide hn
  have HT := hide ht
  have HSS := hide hS
  obtain ⟨⟨ta, tc, rfl, h1, h2, h3, h4⟩, -⟩ := ht
  have H3 := hide h3
  have hml : text.length ≤ 9223372036854775807 := by unfold maxLen at h2; omega
  clear ho hn hS h3 h4
  generalize hL : text.length = L at *
  have HL := hide hL
  clear hL
  go_enter Try.func43, Try.ntmps43
  go_wp2_with fail
  go_loopw [0, 9] (fun p i wr => ∃ (k : Nat) (a' : Option Addr) (n' cap' : Nat), k ≤ L ∧ i = .int .i64 k ∧ p = .slice a' n' cap' ∧ n' = (bs ++ esc (text.take k)).length ∧ LayS B w (.slice a n cap) wr (.slice a' n' cap') (bs ++ esc (text.take k))) (fun _ i _ => L - (intOf i).toNat)
  case atStart => exact ⟨0, a, n, cap, by omega, rfl, rfl, by simp [esc]; exact (unhide HN).symm, LayS.refl (by
      have := unhide HO
      simp only [List.take_zero, esc, List.append_nil]
      rw [unhide HN]; exact this)⟩
  case round =>
    obtain ⟨k, a', n', cap', hk, rfl, rfl, hn', hls⟩ := hrel
    have HLS := hide hls
    have hnb : n' ≤ n + 2 * k := by
      rw [hn', List.length_append, unhide HN]
      have := esc_length (text.take k)
      rw [List.length_take] at this
      omega
    have HN' := hide hn'
    clear hls hn'
    by_cases hkl : k < L
    · have hs1 := ((unhide HT).kept (unhide HLS).kept (fun x hx => unhide HSS x (by simpa using hx))).1
      obtain ⟨ta', tc', hv, -, -, -, h4⟩ := hs1
      have hv1 : ta' = ta := by cases hv; rfl
      subst hv1
      obtain ⟨b, off, hpa, hc⟩ := at_sees (k := k) (unhide HL) h4 hkl
      subst hpa
      clear hv h4
      have hx := getD_lt (unhide H3) (show k < text.length by rw [unhide HL]; exact hkl)
      have HE : Hid (esc (text.take (k + 1)) = esc (text.take k) ++ esc [text.getD k 0]) := by
        unfold Hid
        rw [← esc_append, List.take_add_one, List.getD, List.getElem?_eq_getElem (show k < text.length by rw [unhide HL]; exact hkl)]; rfl
      generalize text.getD k 0 = x at *
      have HLA := hide ((unhide HLS).alloc (.cells #[.int .u8 (x : Int)] 5))
      have HS1 := hide (sees_one wr x hx)
      have HY1 : Hid ((bs ++ esc (text.take k)).length + [x].length ≤ 140737488355328) := by unfold Hid; rw [← unhide HN']; simp; omega
      have HY2 : Hid ((bs ++ esc (text.take k) ++ [x]).length = n' + 1) := by unfold Hid; rw [List.length_append, ← unhide HN']; rfl
      have t1 : (k : Int) < (L : Int) := by omega
      by_cases hx0 : x = 0
      · have hE2 : bs ++ esc (text.take k) ++ [x] ++ [255] = bs ++ esc (text.take (k + 1)) := by rw [unhide HE, hx0]; simp [esc]
        have t2 : ((x : Int) == 0) = true := by rw [hx0]; rfl
        clear hx0
        have HE2 := hide hE2
        have HX3 : Hid ((bs ++ esc (text.take (k + 1))).length = n' + 2) := by unfold Hid; rw [← hE2, List.length_append, unhide HY2]; rfl
        have HY3 : Hid ((bs ++ esc (text.take k) ++ [x]).length + [255].length ≤ 140737488355328) := by unfold Hid; rw [unhide HY2]; simp; omega
        clear hE2
        obtain ⟨X1, hX1⟩ : ∃ X1, bs ++ esc (text.take k) ++ [x] = X1 := ⟨_, rfl⟩
        have HX1 := hide hX1
        rw [hX1] at HE2 HY3 HY2
        clear hX1
        go_wp2_with (at_builtin; refine wpList_append_lay _ rfl (.tmp 13) _ rfl rfl HLA rfl HS1 HY1 ((unhide HLA).hb hB) (n' + 1) X1 HX1 HY2 ?_)
        intro a2 c2 w2 HL2
        have HLA2 := hide ((unhide HL2).alloc (.cells #[.int .u8 255] 5))
        have HS2 : Hid (Sees (w2.alloc (.cells #[.int .u8 255] 5)) (.slice (some ⟨w2.heap.size, 0, none⟩) 1 1) [255]) := sees_one w2 255 (by omega)
        go_wp2_with (at_builtin; refine wpList_append_lay _ rfl _ _ rfl rfl HLA2 rfl HS2 HY3 ((unhide HLA2).hb hB) (n' + 2) _ HE2 HX3 ?_)
        intro a3 c3 w3 HL3
        go_wp2
        exact ⟨⟨k + 1, a3, n' + 2, c3, by omega, by simp, rfl, (unhide HX3).symm, unhide HL3⟩, by simp [intOf]; omega⟩
      · have hE2 : bs ++ esc (text.take k) ++ [x] = bs ++ esc (text.take (k + 1)) := by rw [unhide HE]; simp [esc, hx0]
        have HE2 := hide hE2
        rw [hE2] at HY2
        have t2 : ((x : Int) = 0) = False := by simp; omega
        clear hE2
        go_wp2_with (at_builtin; refine wpList_append_lay _ rfl (.tmp 13) _ rfl rfl HLA rfl HS1 HY1 ((unhide HLA).hb hB) (n' + 1) _ HE2 HY2 ?_)
        intro a2 c2 w2 HL2
        go_wp2
        exact ⟨⟨k + 1, a2, n' + 1, c2, by omega, by simp, rfl, (unhide HY2).symm, unhide HL2⟩, by simp [intOf]; omega⟩
    · obtain rfl : k = L := by omega
      have hfull : text.take k = text := by rw [← unhide HL, List.take_length]
      rw [hfull] at HLS HN'
      have t1 : ((k : Int) < (k : Int)) = False := by simp
      have HLA := hide ((unhide HLS).alloc (.cells #[.int .u8 0] 5))
      have HS1 : Hid (Sees (wr.alloc (.cells #[.int .u8 0] 5)) (.slice (some ⟨wr.heap.size, 0, none⟩) 1 1) [0]) := sees_one wr 0 (by omega)
      have HY1 : Hid ((bs ++ esc text).length + [0].length ≤ 140737488355328) := by unfold Hid; rw [← unhide HN']; simp; omega
      have HY2 : Hid ((bs ++ (esc text ++ [0])).length = n' + 1) := by unfold Hid; rw [← List.append_assoc, List.length_append, ← unhide HN']; rfl
      have HY3 : Hid (bs ++ esc text ++ [0] = bs ++ (esc text ++ [0])) := List.append_assoc ..
      go_wp2_with (at_builtin; refine wpList_append_lay _ rfl _ _ rfl rfl HLA rfl HS1 HY1 ((unhide HLA).hb hB) (n' + 1) _ HY3 HY2 ?_)
      intro a2 c2 w2 HL2
      go_wp2
      go_ret
      exact ⟨a2, _, c2, rfl, (unhide HY2).symm, unhide HL2⟩
end Go.Proofs.Ytigmofbammofbab
