/- Texts laid one behind the other: PVa PVb PVc PVd. -/
import Derived.Test.YtfhfkpgfnlmfhaaGreatDoorPkBI
import Derived.Test.YtfhfkpgfnlmfhaaGreatDoorPkT
import Derived.Test.YtfhfkpgfnlmfhaaGreatDoorPkO
/- The document's writer: its state in memory, and its small calls. -/
namespace Go.Proofs.YtfhfkpgfnlmfhaaGreatDoor
open Go.RowKit

/-- In w there is a writer at block b, in the state s; F: the blocks of its bytes and its starts. -/
structure Vr (w : World) (b : Nat) (s : WS) (v sv : Value) : Prop where
  blk : Blk w b #[.int .i64 (s.room : Int), v, sv, .int .i64 (s.fault : Int)] 88
  own : w.ownsRow 0 5 1 v s.bs.length (u8s s.bs)
  sown : w.ownsRow 0 3 1 sv s.sts.length (i64s s.sts)
  n1 : v.ownBlock ≠ some b
  n2 : sv.ownBlock ≠ some b
  n3 : ∀ k, v.ownBlock = some k → sv.ownBlock ≠ some k
  broom : s.room < 9223372036854775808
  bbs : s.bs.length ≤ 70368744177664
  bsts : s.sts.length ≤ 16
  bf : s.fault < 1000

theorem Vr.kept {F : List Nat} {w w' : World} {b : Nat} {s : WS} {v sv : Value} (h : Vr w b s v sv) (k : Kept F w w') (hd : ∀ x, x ∈ foot b v sv → x ∉ F) : Vr w' b s v sv :=
  ⟨h.blk.kept k (hd b (by simp [foot])), own_kept h.own k (fun x hx => hd x (by simp [foot, hx])), own_kept h.sown k (fun x hx => hd x (by simp [foot, hx])), h.n1, h.n2, h.n3, h.broom, h.bbs, h.bsts, h.bf⟩
theorem Vr.alloc {w : World} {b : Nat} {s : WS} {v sv : Value} (h : Vr w b s v sv) (o : Obj) : Vr (w.alloc o) b s v sv := h.kept ((Kept.refl [] w).alloc o) (by simp)

theorem Vr.grow {w w1 : World} {b : Nat} {s : WS} {v sv v' : Value} (h : Vr w b s v sv) (ys : List Nat)
    (hown : w1.ownsRow 0 5 1 v' (s.bs ++ ys).length (u8s (s.bs ++ ys))) (hg : w.grownBy w1 v.ownBlock) (hat : v'.ownBlock = v.ownBlock ∨ v'.ownBlock = some w.heap.size)
    (hl : s.bs.length + ys.length ≤ 70368744177664) :
    Vr (w1.setCell ⟨b, 1, none⟩ v') b { s with bs := s.bs ++ ys } v' sv ∧ Kept (foot b v sv) w (w1.setCell ⟨b, 1, none⟩ v') ∧ ∀ x, x ∈ foot b v' sv → x ∈ foot b v sv ∨ w.heap.size ≤ x := by
  have hb := h.blk.lt
  have k1 : Kept (foot b v sv) w w1 := (Kept.refl _ _).grown hg (fun k hk => Or.inl (by simp [foot, hk]))
  have k2 : Kept (foot b v sv) w (w1.setCell ⟨b, 1, none⟩ v') := k1.setCell (Or.inl (by simp [foot])) v'
  have n1' : v'.ownBlock ≠ some b := by
    rcases hat with e | e <;> rw [e]
    · exact h.n1
    · simp; omega
  have n3' : ∀ k, v'.ownBlock = some k → sv.ownBlock ≠ some k := by
    intro k hk hs
    rcases hat with e | e
    · exact h.n3 k (by rw [← e]; exact hk) hs
    · rw [e] at hk; simp at hk; subst hk
      have := (h.sown.lt _ hs).2; omega
  refine ⟨⟨?_, ?_, ?_, n1', h.n2, n3', h.broom, by simpa using hl, h.bsts, h.bf⟩, k2, ?_⟩
  · have b1 : Blk w1 b #[.int .i64 (s.room : Int), v, sv, .int .i64 (s.fault : Int)] 88 := by
      have := hg.block b hb (fun e => h.n1 e.symm)
      exact this.trans h.blk
    have := b1.set 1 v'
    simpa using this
  · exact own_kept hown ((Kept.refl [b] _).setCell (Or.inl (by simp)) v') (fun k hk => by simp; intro e; exact n1' (by rw [hk, e]))
  · have s1 : w1.ownsRow 0 3 1 sv s.sts.length (i64s s.sts) := by
      refine own_kept h.sown ((Kept.refl v.ownBlock.toList _).grown hg (fun k hk => Or.inl (by simp [hk]))) (fun k hk => ?_)
      simp; intro e; exact h.n3 k e hk
    exact own_kept s1 ((Kept.refl [b] _).setCell (Or.inl (by simp)) v') (fun k hk => by simp; intro e; exact h.n2 (by rw [hk, e]))
  · intro x hx
    simp [foot] at hx ⊢
    rcases hx with hx | hx | hx
    · exact Or.inl (Or.inl hx)
    · rcases hat with e | e
      · exact Or.inl (Or.inr (Or.inl (by rw [← e]; exact hx)))
      · rw [e] at hx; simp at hx; right; omega
    · exact Or.inl (Or.inr (Or.inr hx))

theorem Vr.starts {w w1 : World} {b : Nat} {s : WS} {v sv sv' : Value} (h : Vr w b s v sv) (ts : List Nat)
    (hown : w1.ownsRow 0 3 1 sv' ts.length (i64s ts)) (hk : Kept sv.ownBlock.toList w w1) (hat : sv'.ownBlock = sv.ownBlock ∨ ∀ x, sv'.ownBlock = some x → w.heap.size ≤ x)
    (hl : ts.length ≤ 16) :
    Vr (w1.setCell ⟨b, 2, none⟩ sv') b { s with sts := ts } v sv' ∧ Kept (foot b v sv) w (w1.setCell ⟨b, 2, none⟩ sv') ∧ ∀ x, x ∈ foot b v sv' → x ∈ foot b v sv ∨ w.heap.size ≤ x := by
  have hb := h.blk.lt
  have k2 : Kept (foot b v sv) w (w1.setCell ⟨b, 2, none⟩ sv') := (hk.mono (fun x hx => Or.inl (by simp [foot]; simp at hx; simp [hx]))).setCell (Or.inl (by simp [foot])) sv'
  have n2' : sv'.ownBlock ≠ some b := by
    rcases hat with e | e
    · rw [e]; exact h.n2
    · intro hx; have := e b hx; omega
  have n3' : ∀ k, v.ownBlock = some k → sv'.ownBlock ≠ some k := by
    intro k hk' hs
    rcases hat with e | e
    · exact h.n3 k hk' (by rw [← e]; exact hs)
    · have := e k hs; have := (h.own.lt k hk').2; omega
  refine ⟨⟨?_, ?_, ?_, h.n1, n2', n3', h.broom, h.bbs, hl, h.bf⟩, k2, ?_⟩
  · have b1 : Blk w1 b #[.int .i64 (s.room : Int), v, sv, .int .i64 (s.fault : Int)] 88 := h.blk.kept hk (by simp; exact h.n2)
    simpa using b1.set 2 sv'
  · have o1 := own_kept h.own hk (fun k hk' => by simp; exact h.n3 k hk')
    exact own_kept o1 ((Kept.refl [b] _).setCell (Or.inl (by simp)) sv') (fun k hk' => by simp; intro e; exact h.n1 (by rw [hk', e]))
  · exact own_kept hown ((Kept.refl [b] _).setCell (Or.inl (by simp)) sv') (fun k hk' => by simp; intro e; exact n2' (by rw [hk', e]))
  · intro x hx
    simp [foot] at hx ⊢
    rcases hx with hx | hx | hx
    · exact Or.inl (Or.inl hx)
    · exact Or.inl (Or.inr (Or.inl hx))
    · rcases hat with e | e
      · exact Or.inl (Or.inr (Or.inr (by rw [← e]; exact hx)))
      · exact Or.inr (e x hx)

theorem Vr.bytes {w w1 : World} {b : Nat} {s : WS} {v sv v' : Value} (h : Vr w b s v sv) (bs' : List Nat)
    (hown : w1.ownsRow 0 5 1 v' bs'.length (u8s bs')) (hk : Kept v.ownBlock.toList w w1) (hat : v'.ownBlock = v.ownBlock ∨ ∀ x, v'.ownBlock = some x → w.heap.size ≤ x)
    (hl : bs'.length ≤ 70368744177664) :
    Vr (w1.setCell ⟨b, 1, none⟩ v') b { s with bs := bs' } v' sv ∧ Kept (foot b v sv) w (w1.setCell ⟨b, 1, none⟩ v') ∧ ∀ x, x ∈ foot b v' sv → x ∈ foot b v sv ∨ w.heap.size ≤ x := by
  have hb := h.blk.lt
  have k2 : Kept (foot b v sv) w (w1.setCell ⟨b, 1, none⟩ v') := (hk.mono (fun x hx => Or.inl (by simp [foot]; simp at hx; simp [hx]))).setCell (Or.inl (by simp [foot])) v'
  have n1' : v'.ownBlock ≠ some b := by
    rcases hat with e | e
    · rw [e]; exact h.n1
    · intro hx; have := e b hx; omega
  have n3' : ∀ k, v'.ownBlock = some k → sv.ownBlock ≠ some k := by
    intro k hk' hs
    rcases hat with e | e
    · exact h.n3 k (by rw [← e]; exact hk') hs
    · have := e k hk'; have := (h.sown.lt k hs).2; omega
  refine ⟨⟨?_, ?_, ?_, n1', h.n2, n3', h.broom, hl, h.bsts, h.bf⟩, k2, ?_⟩
  · have b1 : Blk w1 b #[.int .i64 (s.room : Int), v, sv, .int .i64 (s.fault : Int)] 88 := h.blk.kept hk (by simp; exact h.n1)
    simpa using b1.set 1 v'
  · exact own_kept hown ((Kept.refl [b] _).setCell (Or.inl (by simp)) v') (fun k hk' => by simp; intro e; exact n1' (by rw [hk', e]))
  · have o1 := own_kept h.sown hk (fun k hk' => by simp; exact fun e => h.n3 k e hk')
    exact own_kept o1 ((Kept.refl [b] _).setCell (Or.inl (by simp)) v') (fun k hk' => by simp; intro e; exact h.n2 (by rw [hk', e]))
  · intro x hx
    simp [foot] at hx ⊢
    rcases hx with hx | hx | hx
    · exact Or.inl (Or.inl hx)
    · rcases hat with e | e
      · exact Or.inl (Or.inr (Or.inl (by rw [← e]; exact hx)))
      · exact Or.inr (e x hx)
    · exact Or.inl (Or.inr (Or.inr hx))


theorem vfoot_lt {w : World} {b : Nat} {s : WS} {v sv : Value} (h : Vr w b s v sv) : ∀ x, x ∈ foot b v sv → x < w.heap.size := by
  intro x hx
  simp [foot] at hx
  rcases hx with rfl | hx | hx
  · exact h.blk.lt
  · exact (h.own.lt _ hx).2
  · exact (h.sown.lt _ hx).2


theorem Vr.fail {w : World} {c : Nat} {s : WS} {v sv : Value} (h : Vr w c s v sv) (f : Nat) (hf : f < 1000) :
    Vr (w.setCell ⟨c, 3, none⟩ (.int .i64 (f : Int))) c { s with fault := f } v sv ∧ Kept [c] w (w.setCell ⟨c, 3, none⟩ (.int .i64 (f : Int))) := by
  have kk : Kept [c] w (w.setCell ⟨c, 3, none⟩ (.int .i64 (f : Int))) := (Kept.refl _ _).setCell (Or.inl (by simp)) _
  refine ⟨⟨by simpa using h.blk.set 3 (.int .i64 (f : Int)), own_kept h.own kk (fun k hk => ?_), own_kept h.sown kk (fun k hk => ?_), h.n1, h.n2, h.n3, h.broom, h.bbs, h.bsts, hf⟩, kk⟩
  · simp; intro e; exact h.n1 (by rw [hk, e])
  · simp; intro e; exact h.n2 (by rw [hk, e])

set_option maxRecDepth 100000 in
set_option maxHeartbeats 400000 in
theorem vdead_no {w : World} {c : Nat} {s : WS} {v sv : Value} (h : Vr w c s v sv) (hf : s.fault = 0) :
    Calls Tryz.prog 77 #[.pointer (some ⟨c, 0, none⟩)] w fun e w' => e = .returned (.bool false) ∧ w = w' := by
  obtain ⟨c0, c1, c2, c3⟩ := blk4 h.blk
  rw [hf] at c3; clear hf h
  go_enter Tryz.func77, Tryz.ntmps77
  go_wp2
  go_ret
  exact ⟨rfl, rfl⟩
set_option maxRecDepth 100000 in
set_option maxHeartbeats 400000 in
theorem vdead_yes {w : World} {c : Nat} {s : WS} {v sv : Value} (h : Vr w c s v sv) (hf : s.fault ≠ 0) :
    Calls Tryz.prog 77 #[.pointer (some ⟨c, 0, none⟩)] w fun e w' => e = .returned (.bool true) ∧ w = w' := by
  obtain ⟨c0, c1, c2, c3⟩ := blk4 h.blk
  have hn : ((s.fault : Int) != 0) = true := by rw [bne_iff_ne]; omega
  clear hf h
  go_enter Tryz.func77, Tryz.ntmps77
  go_wp2
  go_ret
  exact ⟨rfl, rfl⟩
set_option maxRecDepth 100000 in
set_option maxHeartbeats 400000 in
theorem vdead_nil (w : World) : Calls Tryz.prog 77 #[.pointer none] w fun e w' => e = .returned (.bool true) ∧ w = w' := by
  go_enter Tryz.func77, Tryz.ntmps77
  go_wp2
  go_ret
  exact ⟨rfl, rfl⟩

set_option maxRecDepth 100000 in
set_option maxHeartbeats 400000 in
theorem vform_any (n : Nat) (w : World) (hn : n < 18446744073709551616) :
    Calls Tryz.prog 56 #[.int .u64 n] w fun e w' => ∃ a cap, e = .returned (.slice a (form n).length cap) ∧ w'.ownsRow w.heap.size 5 1 (.slice a (form n).length cap) (form n).length (u8s (form n)) ∧ Kept [] w w' := by
  obtain ⟨i0, hi, hz0, hz1, hz2⟩ := info_parts Tryz.info5
  have HI := hide (⟨hi, hz0, hz1, hz2⟩ : _ ∧ _ ∧ _ ∧ _)
  have hlen := form_le10 n hn
  clear hi hz0 hz1 hz2
  go_enter Tryz.func56, Tryz.ntmps56
  go_wp2
  go_loopw [0, 3] (fun m v wr => ∃ (x : Nat) (pre : List Nat), m = .int .u64 x ∧ x ≤ n ∧ Hid (form n = pre ++ form x) ∧ Hid (wr.ownsRow w.heap.size 5 1 v pre.length (u8s pre) ∧ Kept [] w wr)) (fun m _ _ => (intOf m).toNat)
  case atStart => exact ⟨n, [], rfl, Nat.le_refl _, hide rfl, hide ⟨World.ownsRow_nil _ _ _ _, Kept.refl _ _⟩⟩
  case round =>
    obtain ⟨x, pre, rfl, hx, HP, HO⟩ := hrel
    have hpl : pre.length ≤ 10 := by have := congrArg List.length (unhide HP); simp at this; omega
    have HS := hide (unhide HO).2.size
    obtain ⟨va, vc, hv⟩ := own_len (unhide HO).1
    subst hv
    by_cases hb : x < 128
    · have t1 : ((128 : Int) ≤ (x : Int)) = False := by simp; omega
      have hw1 : IntKind.u8.wrap (x : Int) = (x : Int) := by rw [IntKind.wrap_u8]; omega
      have HF : Hid (form n = pre ++ [x]) := by unfold Hid; rw [unhide HP, form_small hb]
      go_wp2_with (at_builtin; refine wpList_append_sees _ rfl _ _ 22 rfl w.heap.size 5 i0 (.int .u8 0) Tryz.underlying22 (unhide HI).1 (unhide HI).2.1 (unhide HI).2.2.1 (unhide HI).2.2.2 rfl _ pre rfl ((unhide HO).1.alloc _) _ [x] rfl (news_one _ _) ?c1 ?c2 ?_)
      case c1 => simp; omega
      case c2 => have := unhide HS; simp; omega
      intro v' w1 hown1 hg hat
      obtain ⟨a2, d2, rfl⟩ := own_len hown1
      have HO1 := hide hown1
      have HG := hide hg
      clear hown1 hg hat
      go_wp2
      go_ret
      have e := unhide HF
      refine ⟨a2, d2, ?_, ?_, ?_⟩
      · rw [e]; first | rfl | simp
      · rw [e]; first | exact unhide HO1 | simpa using unhide HO1
      · exact ((unhide HO).2.alloc _).grown (unhide HG) (fun q hq => Or.inr ((unhide HO).1.lt q hq).1)
    · have t1 : ((128 : Int) ≤ (x : Int)) = True := by simp; omega
      have HF : Hid (form n = (pre ++ [x % 128 + 128]) ++ form (x / 128)) := by unfold Hid; rw [unhide HP, form_big (by omega)]; simp
      have hw1 : IntKind.u8.wrap ((x : Int) % 128) = (x : Int) % 128 := by rw [IntKind.wrap_u8]; omega
      have hw2 : IntKind.u8.wrap ((x : Int) % 128 + 128) = ((x % 128 + 128 : Nat) : Int) := by rw [IntKind.wrap_u8]; omega
      go_wp2_with (at_builtin; refine wpList_append_sees _ rfl _ _ 22 rfl w.heap.size 5 i0 (.int .u8 0) Tryz.underlying22 (unhide HI).1 (unhide HI).2.1 (unhide HI).2.2.1 (unhide HI).2.2.2 rfl _ pre rfl ((unhide HO).1.alloc _) _ [x % 128 + 128] rfl (news_one _ _) ?c1 ?c2 ?_)
      case c1 => simp; omega
      case c2 => have := unhide HS; simp; omega
      intro v' w1 hown1 hg hat
      have HO1 := hide hown1
      have HG := hide hg
      clear hown1 hg hat
      go_wp2
      refine ⟨⟨x / 128, pre ++ [x % 128 + 128], by simp, by omega, hide (unhide HF), hide ⟨?_, ?_⟩⟩, by simp [intOf]; omega⟩
      · first | exact unhide HO1 | simpa using unhide HO1
      · exact ((unhide HO).2.alloc _).grown (unhide HG) (fun q hq => Or.inr ((unhide HO).1.lt q hq).1)

set_option maxRecDepth 100000 in
set_option maxHeartbeats 400000 in
theorem vdigits_any (n size : Nat) (w : World) (hn : n < 18446744073709551616) (hs : size ≤ 8) :
    Calls Tryz.prog 57 #[.int .u64 n, .int .i64 size] w fun e w' => ∃ a cap, e = .returned (.slice a size cap) ∧ w'.ownsRow w.heap.size 5 1 (.slice a size cap) size (u8s (le n size)) ∧ Kept [] w w' := by
  obtain ⟨i0, hi, hz0, hz1, hz2⟩ := info_parts Tryz.info5
  have HI := hide (⟨hi, hz0, hz1, hz2⟩ : _ ∧ _ ∧ _ ∧ _)
  clear hi hz0 hz1 hz2
  go_enter Tryz.func57, Tryz.ntmps57
  go_wp2
  go_loopw [0, 5, 6] (fun m v i wr => ∃ (k x : Nat) (a : Option Addr) (cap : Nat), k ≤ size ∧ i = .int .i64 (k : Int) ∧ m = .int .u64 (x : Int) ∧ v = .slice a k cap ∧ Hid (x = n / 256 ^ k) ∧ Hid (wr.ownsRow w.heap.size 5 1 (.slice a k cap) k (u8s (le n k)) ∧ Kept [] w wr)) (fun _ _ i _ => size - (intOf i).toNat)
  case atStart => exact ⟨0, n, none, 0, by omega, rfl, rfl, rfl, hide (by simp), hide ⟨World.ownsRow_nil _ _ _ _, Kept.refl _ _⟩⟩
  case round =>
    obtain ⟨k, x, a, cap, hk, rfl, rfl, rfl, HX, HO⟩ := hrel
    by_cases hlt : k < size
    · have hx64 : x < 18446744073709551616 := by rw [unhide HX]; exact Nat.lt_of_le_of_lt (Nat.div_le_self _ _) hn
      have hle : (le n k).length = k := le_len n k
      have HLE := hide hle
      have HL2 : Hid (le n (k + 1) = le n k ++ [x % 256]) := by unfold Hid; rw [unhide HX]; rfl
      have HX2 : Hid (x / 256 = n / 256 ^ (k + 1)) := by unfold Hid; rw [unhide HX, Nat.div_div_eq_div_mul, Nat.pow_succ]
      have hw1 : IntKind.u8.wrap ((x : Int) % 256) = ((x % 256 : Nat) : Int) := by rw [IntKind.wrap_u8]; omega
      have HO2 : Hid ((wr.alloc (.cells #[.int .u8 ((x % 256 : Nat) : Int)] 5)).ownsRow w.heap.size 5 1 (.slice a k cap) (le n k).length (u8s (le n k))) := by unfold Hid; rw [hle]; exact (unhide HO).1.alloc _
      have HS := hide (unhide HO).2.size
      clear hle
      go_wp2_with (at_builtin; refine wpList_append_sees _ rfl _ _ 22 rfl w.heap.size 5 i0 (.int .u8 0) Tryz.underlying22 (unhide HI).1 (unhide HI).2.1 (unhide HI).2.2.1 (unhide HI).2.2.2 rfl _ (le n k) rfl (unhide HO2) _ [x % 256] rfl (news_one _ _) ?c1 ?c2 ?_)
      case c1 => rw [unhide HLE]; simp; omega
      case c2 => have := unhide HS; simp; omega
      intro v' w1 hown1 hg hat
      obtain ⟨a2, d2, rfl⟩ := own_len hown1
      have hl2 : (le n k ++ [x % 256]).length = k + 1 := by rw [List.length_append, unhide HLE]; rfl
      first | rw [hl2] at hown1 ⊢ | (rw [unhide HLE] at hown1 ⊢)
      have HO1 := hide hown1
      have HG := hide hg
      clear hown1 hg hat hl2
      go_wp2
      refine ⟨⟨k + 1, x / 256, a2, d2, by omega, by go_num, by simp, rfl, HX2, hide ⟨?_, ?_⟩⟩, by simp [intOf]; omega⟩
      · rw [unhide HL2]; exact unhide HO1
      · exact ((unhide HO).2.alloc _).grown (unhide HG) (fun q hq => Or.inr ((unhide HO).1.lt q hq).1)
    · obtain rfl : k = size := by omega
      go_wp2
      go_ret
      exact ⟨a, cap, rfl, (unhide HO).1, (unhide HO).2⟩
end Go.Proofs.YtfhfkpgfnlmfhaaGreatDoor

/- The document's writer: a piece is laid down. -/
namespace Go.Proofs.YtfhfkpgfnlmfhaaGreatDoor
open Go.RowKit

/-- In w the document's writer at block c is in the state s (behind a fault whatever its bytes are); F: its blocks. -/
def Vs (w : World) (c : Nat) (F : List Nat) (s : WS) : Prop := ∃ s0 v sv, Vr w c s0 v sv ∧ F = foot c v sv ∧ s0.fault = s.fault ∧ (s.fault = 0 → s0 = s)
def VsP (w : World) (c : Nat) (F : List Nat) (s' : WS) (w' : World) : Prop := ∃ F', Vs w' c F' s' ∧ Kept F w w' ∧ ∀ x ∈ F', x ∈ F ∨ w.heap.size ≤ x
theorem Vs.lt {w : World} {c : Nat} {F : List Nat} {s : WS} (h : Vs w c F s) : ∀ x ∈ F, x < w.heap.size := by
  obtain ⟨s0, v, sv, h1, rfl, _⟩ := h; exact vfoot_lt h1
theorem Vs.kept {G : List Nat} {w w' : World} {c : Nat} {F : List Nat} {s : WS} (h : Vs w c F s) (k : Kept G w w') (hF : ∀ x ∈ F, x ∉ G) : Vs w' c F s := by
  obtain ⟨s0, v, sv, h1, rfl, h2⟩ := h; exact ⟨s0, v, sv, h1.kept k hF, rfl, h2⟩
theorem VsP.same {w w' : World} {c : Nat} {F : List Nat} {s : WS} (h : Vs w c F s) (k : Kept [] w w') : VsP w c F s w' := ⟨F, h.kept k (by simp), k.mono (by simp), fun _ hx => Or.inl hx⟩
theorem VsP.from {w W w' : World} {c : Nat} {F : List Nat} {s' : WS} (k : Kept [] w W) (h : VsP W c F s' w') : VsP w c F s' w' := by
  obtain ⟨F', h1, h2, h3⟩ := h
  refine ⟨F', h1, (k.mono (by simp)).trans h2 (fun x hx => Or.inl hx), fun x hx => ?_⟩
  rcases h3 x hx with h | h
  · exact Or.inl h
  · right; have := k.size; omega
theorem VsP.err {w w' : World} {c : Nat} {v sv : Value} {s0 : WS} {f : Nat} (hf : f ≠ 0) (h : Vr w' c { s0 with fault := f } v sv) (k : Kept [c] w w') : VsP w c (foot c v sv) (failWS f) w' :=
  ⟨foot c v sv, ⟨_, v, sv, h, rfl, rfl, fun h0 => absurd h0 hf⟩, k.mono (fun x hx => Or.inl (by simp at hx; subst hx; simp [foot])), fun _ hx => Or.inl hx⟩
theorem Vs.open {w : World} {c : Nat} {F : List Nat} {s : WS} (h : Vs w c F s) (hf : s.fault = 0) : ∃ v sv, Vr w c s v sv ∧ F = foot c v sv := by
  obtain ⟨s0, v, sv, h1, h2, _, h4⟩ := h
  obtain rfl := h4 hf
  exact ⟨v, sv, h1, h2⟩
theorem Vs.dead {w : World} {c : Nat} {F : List Nat} {s : WS} (h : Vs w c F s) (hf : s.fault ≠ 0) :
    Calls Tryz.prog 77 #[.pointer (some ⟨c, 0, none⟩)] w fun e w' => e = .returned (.bool true) ∧ w = w' := by
  obtain ⟨s0, v, sv, h1, _, h3, _⟩ := h
  exact vdead_yes h1 (by rw [h3]; exact hf)

set_option maxRecDepth 100000 in
set_option maxHeartbeats 1000000 in
theorem vlay_any {w : World} {c : Nat} {F : List Nat} {s : WS} (h : Vs w c F s) (ref : Bool) (pv : Value) (ps : List Nat) (hp : Far w pv ps F) (hl : s.bs.length + ps.length ≤ 70368744177664) :
    Calls Tryz.prog 55 #[.pointer (some ⟨c, 0, none⟩), .bool ref, pv] w fun e w' => e = .returned (.tuple #[]) ∧ VsP w c F (if ref then wFail s 2 else wLay s ps) w' := by
  by_cases hf : s.fault = 0
  · obtain ⟨v, sv, h1, rfl⟩ := h.open hf
    have HD := hide (vdead_no h1 hf)
    have HH := hide h1
    obtain ⟨c0, c1, c2, c3⟩ := blk4 h1.blk
    have f3 := h1.blk.frozen 3
    rw [hf] at c3
    cases ref with
    | true =>
      have hr : (if true = true then wFail s 2 else wLay s ps) = failWS 2 := by rw [if_pos rfl]; unfold wFail; rw [if_neg (by omega)]
      rw [hr]
      clear h h1 hp hl hf hr
      go_enter Tryz.func55, Tryz.ntmps55
      go_wp2_with (first | (go_at_call 77; refine (unhide HD).mono ?_; rintro e w1 ⟨rfl, rfl⟩))
      refine bodyPost_ret (results_none rfl _ _ _) rfl ?_
      obtain ⟨q1, q2⟩ := (unhide HH).fail 2 (by omega)
      exact ⟨rfl, VsP.err (by omega) q1 q2⟩
    | false =>
      have hr : (if false = true then wFail s 2 else wLay s ps) = wLay s ps := by simp
      rw [hr]
      clear hr
      have HP := hide hp
      obtain ⟨pa, pc, rfl⟩ := wide_len (hp.wide (Kept.refl _ _))
      obtain ⟨va, vc, rfl⟩ := own_len h1.own
      have hbb := h1.bbs
      have hrm := h1.broom
      obtain ⟨n, hn⟩ : ∃ n, ps.length = n := ⟨_, rfl⟩
      obtain ⟨B, hB⟩ : ∃ B, s.bs.length = B := ⟨_, rfl⟩
      obtain ⟨R, hR⟩ : ∃ R, s.room = R := ⟨_, rfl⟩
      have HN := hide hn
      have HB := hide hB
      have HRM := hide hR
      rw [hn, hB] at hl
      rw [hB] at c1 hbb
      rw [hR] at c0 hrm
      by_cases hroom : B + n ≤ R
      · have HWL : Hid (wLay s ps = { s with bs := s.bs ++ ps }) := by unfold Hid wLay; rw [if_neg (by omega), if_pos (by omega)]
        have t1 : ((R : Int) - (B : Int) < (n : Int)) = False := by simp; omega
        have HF0 := hide hf
        rw [hn]
        clear h h1 hp hf hB hR hn
        go_enter Tryz.func55, Tryz.ntmps55
        go_wp2_with (first | (go_at_call 77; refine (unhide HD).mono ?_; rintro e w1 ⟨rfl, rfl⟩))
        go_quiet (fail)
        go_wp2
        go_loopw [6] (fun i wr => ∃ (k : Nat) (a : Option Addr) (cap : Nat), k ≤ n ∧ i = .int .i64 (k : Int) ∧ Hid (Vr wr c { s with bs := s.bs ++ ps.take k } (.slice a (B + k) cap) sv ∧ Kept (foot c (.slice va B vc) sv) w wr ∧ ∀ x, x ∈ foot c (.slice a (B + k) cap) sv → x ∈ foot c (.slice va B vc) sv ∨ w.heap.size ≤ x)) (fun i _ => n - (intOf i).toNat)
        case atStart =>
          refine ⟨0, va, vc, by omega, rfl, hide ⟨?_, ?_, fun x hx => Or.inl hx⟩⟩
          · have h2 := (unhide HH)
            rw [unhide HB] at h2
            simpa using h2.kept ((Kept.refl [] w).drewN _) (by simp)
          · exact (Kept.refl _ _).drewN _
        case round =>
          obtain ⟨k, a, cap, hk, rfl, HR⟩ := hrel
          obtain ⟨hv, hkp, hft⟩ := unhide HR
          by_cases hlt : k < n
          · have hi : k < ps.length := by rw [unhide HN]; exact hlt
            have hWd := (unhide HP).wide (w' := wr) (by rw [unhide HB]; exact hkp)
            rw [unhide HN] at hWd
            obtain ⟨xb, xo, hpa, cx⟩ := hWd.at k hi
            subst hpa
            obtain ⟨e0, e1, e2, e3⟩ := blk4 hv.blk
            have hbk : s.bs.length + k = B + k := by rw [unhide HB]
            have hlen : (s.bs ++ ps.take k).length = B + k := by rw [List.length_append, unhide HB, List.length_take]; omega
            have hown := hv.own
            rw [show ({ s with bs := s.bs ++ ps.take k } : WS).bs.length = B + k from hlen] at hown
            obtain ⟨a2, d2, w2, hap, ho2, hk2, hat2⟩ := app_byteK hown hlen (ps.getD k 0) (by omega) (Nat.zero_le _) 22
            have HT : Hid ((s.bs ++ ps.take k) ++ [ps.getD k 0] = s.bs ++ ps.take (k + 1)) := by unfold Hid; rw [List.append_assoc, take_snoc ps k hi]
            generalize ps.getD k 0 = y at *
            have HAP := hide hap
            have HAP2 : Hid ((Builtin.append_ #[22, 22] 22 #[.slice a (B + k) cap, .slice (some ⟨wr.heap.size, 0, none⟩) 1 1]).run Tryz.prog (wr.drew.alloc (.cells #[.int .u8 (y : Int)] 5)) = .ok (.slice a2 (B + k + 1) d2) w2) := hap
            have hcA : (wr.alloc (.cells #[.int .u8 (y : Int)] 5)).cell? ⟨c, 1, none⟩ = some (.slice a (B + k) cap) := (blk4 (hv.blk.alloc _)).2.1
            have hb2 := hv.blk.kept hk2 (fun hm => hv.n1 (Option.mem_toList.1 hm))
            have g1 : w2.cell? ⟨c, 1, none⟩ = some (.slice a (B + k) cap) := (blk4 hb2).2.1
            have f1 := hb2.frozen 1
            have hl2 : (s.bs ++ ps.take (k + 1)).length = B + k + 1 := by rw [← unhide HT, List.length_append, hlen]; rfl
            have hfin := Vr.bytes hv (s.bs ++ ps.take (k + 1)) (w1 := w2) (v' := .slice a2 (B + k + 1) d2) (by rw [hl2, ← unhide HT]; exact ho2) hk2 hat2 (by rw [hl2]; omega)
            have HFIN := hide hfin
            have HKP := hide hkp
            have HFT := hide hft
            have hw7 : IntKind.i64.wrap ((k : Int) + 1) = (k : Int) + 1 := by rw [IntKind.wrap_i64]; omega
            have hm63 : n ≤ 9223372036854775807 := by omega
            have hBk : B + k + 1 ≤ 70368744177664 := by omega
            clear hap ho2 hk2 hat2 hlen hown hbk hb2 hl2 hfin hv hkp hft HR hi hWd c0 c1 c2 c3 f3
            go_upto_region 8 with fail
            go_region_law (first | (refine step_append_runE (by rfl) _ _ 22 22 (by rfl) _ _ (by rfl) (by rfl) (unhide HAP) ?_) | (refine step_append_runE (by rfl) _ _ 22 22 (by rfl) _ _ (by rfl) (by rfl) (unhide HAP2) ?_))
            all_goals
              clear e0 e1 e2 e3 cx HAP HAP2 hcA g1 f1
              go_wp2
              obtain ⟨q1, q2, q3⟩ := unhide HFIN
              refine ⟨⟨k + 1, a2, d2, by omega, by go_num, hide ⟨q1, (unhide HKP).trans q2 (fun x hx => unhide HFT x hx), fun x hx => ?_⟩⟩, by simp [intOf]; omega⟩
              rcases q3 x hx with h4 | h4
              · exact unhide HFT x h4
              · right; have := (unhide HKP).size; omega
          · obtain rfl : k = n := by omega
            clear hv hkp hft c0 c1 c2 c3 f3
            go_wp2
            go_end0
            obtain ⟨hv, hkp, hft⟩ := unhide HR
            have e : ps.take k = ps := List.take_of_length_le (by rw [unhide HN]; exact Nat.le_refl _)
            rw [e] at hv
            rw [unhide HWL]
            refine ⟨rfl, foot c (.slice a (B + k) cap) sv, ⟨_, _, _, hv, rfl, rfl, fun _ => rfl⟩, ?_, fun x hx => ?_⟩
            · rw [unhide HB]; exact hkp
            · rw [unhide HB]; exact hft x hx
      · have HWL : Hid (wLay s ps = failWS 13) := by unfold Hid wLay; rw [if_neg (by omega), if_neg (by omega)]
        have t1 : ((R : Int) - (B : Int) < (n : Int)) = True := by simp; omega
        rw [hn]
        clear h h1 hp hf hB hR hn
        go_enter Tryz.func55, Tryz.ntmps55
        go_wp2_with (first | (go_at_call 77; refine (unhide HD).mono ?_; rintro e w1 ⟨rfl, rfl⟩))
        go_quiet (fail)
        go_wp2
        refine bodyPost_ret (results_none rfl _ _ _) rfl ?_
        obtain ⟨q1, q2⟩ := ((unhide HH).kept ((Kept.refl [] w).drewN _) (by simp)).fail 13 (by omega)
        rw [unhide HWL]
        exact ⟨rfl, VsP.err (by omega) q1 ((((Kept.refl [] w).drewN _).mono (by simp)).trans q2 (fun y hy => Or.inl hy))⟩
  · have HD := hide (h.dead hf)
    have HH := hide h
    have hr : (if ref then wFail s 2 else wLay s ps) = s := by
      cases ref
      · simp [wLay, hf]
      · simp [wFail, hf]
    rw [hr]
    obtain ⟨pa, pc, rfl⟩ := wide_len (hp.wide (Kept.refl _ _))
    clear hr h hf hp
    go_enter Tryz.func55, Tryz.ntmps55
    go_wp2_with (first | (go_at_call 77; refine (unhide HD).mono ?_; rintro e w1 ⟨rfl, rfl⟩))
    refine bodyPost_ret (results_none rfl _ _ _) rfl ?_
    exact ⟨rfl, VsP.same (unhide HH) (Kept.refl _ _)⟩
end Go.Proofs.YtfhfkpgfnlmfhaaGreatDoor

/- The document's writer: what lays a piece down. -/
namespace Go.Proofs.YtfhfkpgfnlmfhaaGreatDoor
open Go.RowKit

/-- What is new lies apart. -/
theorem far_new {w w1 : World} {v : Value} {bs F : List Nat} (hF : ∀ x ∈ F, x < w.heap.size) (h : Sees w1 v bs) (hn : ∀ k, v.ownBlock = some k → w.heap.size ≤ k) : Far w1 v bs F :=
  Or.inl ⟨h, fun k hk hm => by have := hF k hm; have := hn k hk; omega⟩
theorem far_own {w w1 : World} {a : Option Addr} {n cap : Nat} {bs F : List Nat} (hF : ∀ x ∈ F, x < w.heap.size) (hn : bs.length = n) (h : w1.ownsRow w.heap.size 5 1 (.slice a n cap) n (u8s bs)) : Far w1 (.slice a n cap) bs F :=
  far_new hF (sees_own hn h) (fun k hk => (h.lt k hk).1)
theorem le_be8 (m : Nat) (h : m < 18446744073709551616) : (le m 8).reverse = be8 m := by
  simp only [le, be8]
  simp
  omega

set_option maxRecDepth 100000 in
set_option maxHeartbeats 1000000 in
theorem vbyte_s {w : World} {c : Nat} {F : List Nat} {s : WS} (h : Vs w c F s) (n : Int) (hl : s.bs.length ≤ 1000000000000) :
    Calls Tryz.prog 33 #[.pointer (some ⟨c, 0, none⟩), .int .i64 n] w fun e w' => e = .returned (.tuple #[]) ∧ VsP w c F (if n < 0 ∨ 255 < n then wFail s 2 else wLay s [n.toNat]) w' := by
  have HK : Hid (Kept [] w (w.alloc (.cells #[.int .u8 (IntKind.u8.wrap n)] 5))) := (Kept.refl [] w).alloc _
  have hu8 : IntKind.u8.wrap n = ((IntKind.u8.wrap n).toNat : Int) := by rw [IntKind.wrap_u8]; omega
  obtain ⟨y, hy⟩ : ∃ y : Nat, (IntKind.u8.wrap n).toNat = y := ⟨_, rfl⟩
  rw [hy] at hu8
  have hyn : ¬ (n < 0 ∨ 255 < n) → y = n.toNat := by rw [← hy, IntKind.wrap_u8]; omega
  rw [hu8] at HK
  have HV := hide (h.kept (unhide HK) (by simp))
  have HFAR : Hid (Far (w.alloc (.cells #[.int .u8 (y : Int)] 5)) (.slice (some ⟨w.heap.size, 0, none⟩) 1 1) [y] F) := far_new h.lt (news_one w y) (fun k hk => by have e0 : (some w.heap.size : Option Nat) = some k := hk; simp at e0; omega)
  have HBL : Hid (s.bs.length + [y].length ≤ 70368744177664) := by unfold Hid; simp; omega
  have HYN := hide hyn
  clear h hl hy hyn
  by_cases ha : n < 0 ∨ 255 < n
  · rw [if_pos ha]
    by_cases hs1 : n < 0
    · have b1 : decide (n < 0) = true := by simpa using hs1
      clear ha hs1
      go_enter Tryz.func33, Tryz.ntmps33
      go_wp2_with (first | (go_at_call 55; refine (vlay_any (unhide HV) true _ _ (unhide HFAR) (unhide HBL)).mono ?_; rintro e w2 ⟨rfl, hp⟩; have HP := hide hp; clear hp))
      go_end0
      exact ⟨rfl, (unhide HP).from (unhide HK)⟩
    · have b1 : decide (n < 0) = false := by simpa using hs1
      have b2 : decide (255 < n) = true := by simp; omega
      clear ha hs1
      go_enter Tryz.func33, Tryz.ntmps33
      go_wp2_with (first | (go_at_call 55; refine (vlay_any (unhide HV) true _ _ (unhide HFAR) (unhide HBL)).mono ?_; rintro e w2 ⟨rfl, hp⟩; have HP := hide hp; clear hp))
      go_end0
      exact ⟨rfl, (unhide HP).from (unhide HK)⟩
  · rw [if_neg ha, ← unhide HYN ha]
    have b1 : decide (n < 0) = false := by simp; omega
    have b2 : decide (255 < n) = false := by simp; omega
    clear ha
    go_enter Tryz.func33, Tryz.ntmps33
    go_wp2_with (first | (go_at_call 55; refine (vlay_any (unhide HV) false _ _ (unhide HFAR) (unhide HBL)).mono ?_; rintro e w2 ⟨rfl, hp⟩; have HP := hide hp; clear hp))
    go_end0
    exact ⟨rfl, (unhide HP).from (unhide HK)⟩

set_option maxRecDepth 100000 in
set_option maxHeartbeats 1000000 in
theorem vfixed_s {w : World} {c : Nat} {F : List Nat} {s : WS} (h : Vs w c F s) (n : Nat) (size : Int) (hn : n < 18446744073709551616) (hl : s.bs.length ≤ 1000000000000) :
    Calls Tryz.prog 37 #[.pointer (some ⟨c, 0, none⟩), .int .u64 n, .int .i64 size] w fun e w' => e = .returned (.tuple #[]) ∧ VsP w c F (if size < 1 ∨ 8 < size then wFail s 2 else wLay s (le n size.toNat)) w' := by
  by_cases ha : size < 1 ∨ 8 < size
  · rw [if_pos ha]
    have HV := hide h
    have HFAR : Hid (Far w (.slice none 0 0) [] F) := Or.inl ⟨Or.inl ⟨rfl, rfl⟩, fun k hk => by cases hk⟩
    have HBL : Hid (s.bs.length + ([] : List Nat).length ≤ 70368744177664) := by unfold Hid; simp; omega
    clear h hl hn
    by_cases hs1 : size < 1
    · have b1 : decide (size < 1) = true := by simpa using hs1
      clear ha hs1
      go_enter Tryz.func37, Tryz.ntmps37
      go_wp2_with (first | (go_at_call 55; refine (vlay_any (unhide HV) true _ _ (unhide HFAR) (unhide HBL)).mono ?_; rintro e w2 ⟨rfl, hp⟩; have HP := hide hp; clear hp))
      refine bodyPost_ret (results_none rfl _ _ _) rfl ?_
      exact ⟨rfl, unhide HP⟩
    · have b1 : decide (size < 1) = false := by simpa using hs1
      have b2 : decide (8 < size) = true := by simp; omega
      clear ha hs1
      go_enter Tryz.func37, Tryz.ntmps37
      go_wp2_with (first | (go_at_call 55; refine (vlay_any (unhide HV) true _ _ (unhide HFAR) (unhide HBL)).mono ?_; rintro e w2 ⟨rfl, hp⟩; have HP := hide hp; clear hp))
      refine bodyPost_ret (results_none rfl _ _ _) rfl ?_
      exact ⟨rfl, unhide HP⟩
  · rw [if_neg ha]
    obtain ⟨m, rfl⟩ := Int.eq_ofNat_of_zero_le (show 0 ≤ size by omega)
    have b1 : decide ((m : Int) < 1) = false := by simp; omega
    have b2 : decide (8 < (m : Int)) = false := by simp; omega
    have HC := hide (vdigits_any n m w hn (by omega))
    have HV := hide h
    have HLT := hide h.lt
    have HBL : Hid (s.bs.length + (le n m).length ≤ 70368744177664) := by unfold Hid; rw [le_len]; omega
    have HLE := hide (le_len n m)
    show Calls _ _ _ _ fun e w' => e = .returned (.tuple #[]) ∧ VsP w c F (wLay s (le n m)) w'
    clear h hl hn ha
    go_enter Tryz.func37, Tryz.ntmps37
    go_wp2_with (first | (go_at_call 57; refine (unhide HC).mono ?_; rintro e w1 ⟨a1, c1, rfl, ho, hk⟩; have HFAR := hide (far_own (unhide HLT) (unhide HLE) ho); have HV1 := hide ((unhide HV).kept hk (by simp)); have HK := hide hk; clear ho hk HC) | (go_at_call 55; refine (vlay_any (unhide HV1) false _ _ (unhide HFAR) (unhide HBL)).mono ?_; rintro e w2 ⟨rfl, hp⟩; have HP := hide hp; clear hp))
    go_end0
    exact ⟨rfl, (unhide HP).from (unhide HK)⟩

set_option maxRecDepth 100000 in
set_option maxHeartbeats 1000000 in
theorem vnum_s {w : World} {c : Nat} {F : List Nat} {s : WS} (h : Vs w c F s) (n : Nat) (hn : n < 18446744073709551616) (hl : s.bs.length ≤ 1000000000000) :
    Calls Tryz.prog 34 #[.pointer (some ⟨c, 0, none⟩), .int .u64 n] w fun e w' => e = .returned (.tuple #[]) ∧ VsP w c F (wLay s (form n)) w' := by
  have HC := hide (vform_any n w hn)
  have HV := hide h
  have HLT := hide h.lt
  have HBL : Hid (s.bs.length + (form n).length ≤ 70368744177664) := by unfold Hid; have := form_le10 n hn; omega
  clear h hl hn
  go_enter Tryz.func34, Tryz.ntmps34
  go_wp2_with (first | (go_at_call 56; refine (unhide HC).mono ?_; rintro e w1 ⟨a1, c1, rfl, ho, hk⟩; have HFAR := hide (far_own (unhide HLT) rfl ho); have HV1 := hide ((unhide HV).kept hk (by simp)); have HK := hide hk; clear ho hk HC) | (go_at_call 55; refine (vlay_any (unhide HV1) false _ _ (unhide HFAR) (unhide HBL)).mono ?_; rintro e w2 ⟨rfl, hp⟩; have HP := hide hp; clear hp))
  go_end0
  exact ⟨rfl, (unhide HP).from (unhide HK)⟩

set_option maxRecDepth 100000 in
set_option maxHeartbeats 1000000 in
theorem vtext_s {w : World} {c : Nat} {F : List Nat} {s : WS} (h : Vs w c F s) (pv : Value) (ps : List Nat) (hp : Far w pv ps F) (hl : s.bs.length + ps.length ≤ 35184372088832) :
    Calls Tryz.prog 36 #[.pointer (some ⟨c, 0, none⟩), pv] w fun e w' => e = .returned (.tuple #[]) ∧ VsP w c F (wLay s (form ps.length ++ ps)) w' := by
  obtain ⟨i0, hi, hz0, hz1, hz2⟩ := info_parts Tryz.info5
  have HI := hide (⟨hi, hz0, hz1, hz2⟩ : _ ∧ _ ∧ _ ∧ _)
  obtain ⟨pa, pc, rfl⟩ := wide_len (hp.wide (Kept.refl _ _))
  have HPF := hide hp
  obtain ⟨n, hn⟩ : ∃ n, ps.length = n := ⟨_, rfl⟩
  have HN := hide hn
  rw [hn] at hl HPF ⊢
  have hn64 : n < 18446744073709551616 := by omega
  have hf10 := form_le10 n hn64
  have HC := hide (vform_any n w hn64)
  have HV := hide h
  have HLT := hide h.lt
  obtain ⟨FL, hFL⟩ : ∃ FL, (form n).length = FL := ⟨_, rfl⟩
  have HFL := hide hFL
  rw [hFL] at HC hf10
  have HHL := hide hl
  have hn63 : n ≤ 9223372036854775807 := by omega
  have hwn : IntKind.u64.wrap (n : Int) = (n : Int) := by rw [IntKind.wrap_u64]; omega
  clear h hp hi hz0 hz1 hz2 hn hFL
  go_enter Tryz.func36, Tryz.ntmps36
  go_wp2_with (first | (go_at_call 56; refine (unhide HC).mono ?_; rintro e w1 ⟨a1, c1, rfl, ho, hk⟩; have HO := hide ho; have HK := hide hk; clear ho hk HC))
  go_loopw [4, 5] (fun v i wr => ∃ (k : Nat) (a : Option Addr) (cap : Nat), k ≤ n ∧ i = .int .i64 (k : Int) ∧ v = .slice a (FL + k) cap ∧ Hid (wr.ownsRow w.heap.size 5 1 (.slice a (FL + k) cap) (FL + k) (u8s (form n ++ ps.take k)) ∧ Kept [] w wr)) (fun _ i _ => n - (intOf i).toNat)
  case atStart => exact ⟨0, a1, c1, by omega, rfl, rfl, hide ⟨by simpa using unhide HO, unhide HK⟩⟩
  case round =>
    obtain ⟨k, a, cap, hk, rfl, rfl, HR⟩ := hrel
    by_cases hlt : k < n
    · have hi : k < ps.length := by rw [unhide HN]; exact hlt
      have hW := (unhide HPF).keep (unhide HR).2
      have hWd := hW.wide (Kept.refl _ _)
      obtain ⟨xb, xo, hpa, cx⟩ := hWd.at k hi
      subst hpa
      have hlen : (form n ++ ps.take k).length = FL + k := by rw [List.length_append, unhide HFL, List.length_take]; omega
      have HT : Hid ((form n ++ ps.take k) ++ [ps.getD k 0] = form n ++ ps.take (k + 1)) := by unfold Hid; rw [List.append_assoc, take_snoc ps k hi]
      generalize ps.getD k 0 = y at *
      have HLN := hide hlen
      have HO2 : Hid ((wr.alloc (.cells #[.int .u8 (y : Int)] 5)).ownsRow w.heap.size 5 1 (.slice a (FL + k) cap) (form n ++ ps.take k).length (u8s (form n ++ ps.take k))) := by unfold Hid; rw [hlen]; exact (unhide HR).1.alloc _
      have HS := hide (unhide HR).2.size
      have hFk : FL + k + 1 ≤ 35184372088843 := by omega
      clear hlen hi hW hWd
      go_wp2_with (at_builtin; refine wpList_append_sees _ rfl _ _ 22 rfl w.heap.size 5 i0 (.int .u8 0) Tryz.underlying22 (unhide HI).1 (unhide HI).2.1 (unhide HI).2.2.1 (unhide HI).2.2.2 rfl _ (form n ++ ps.take k) rfl (unhide HO2) _ [y] rfl (news_one _ _) ?c1 ?c2 ?_)
      case c1 => rw [unhide HLN]; simp; omega
      case c2 => have := unhide HS; simp; omega
      intro v' w2 hown1 hg hat
      have hl2 : ((form n ++ ps.take k) ++ [y]).length = FL + k + 1 := by rw [List.length_append, unhide HLN]; rfl
      have hown2 : w2.ownsRow w.heap.size 5 1 v' (FL + k + 1) (u8s (form n ++ ps.take k ++ [y])) := by rw [← hl2]; simpa using hown1
      obtain ⟨a2, d2, rfl⟩ := own_len hown2
      have HO1 := hide hown2
      have HG := hide hg
      clear hown1 hown2 hg hat hl2
      go_wp2
      refine ⟨⟨k + 1, a2, d2, by omega, by go_num, rfl, hide ⟨?_, ?_⟩⟩, by simp [intOf]; omega⟩
      · rw [← unhide HT]; exact unhide HO1
      · exact ((unhide HR).2.alloc _).grown (unhide HG) (fun q hq => Or.inr ((unhide HR).1.lt q hq).1)
    · obtain rfl : k = n := by omega
      have e : ps.take k = ps := List.take_of_length_le (by rw [unhide HN]; exact Nat.le_refl _)
      have hlen : (form k ++ ps).length = FL + k := by rw [List.length_append, unhide HFL, unhide HN]
      rw [e] at HR
      have HFAR := hide (far_own (unhide HLT) hlen (unhide HR).1)
      have HV1 := hide ((unhide HV).kept (unhide HR).2 (by simp))
      have HBL : Hid (s.bs.length + (form k ++ ps).length ≤ 70368744177664) := by unfold Hid; rw [hlen]; have := unhide HHL; omega
      clear e hlen
      go_wp2_with (first | (go_at_call 55; refine (vlay_any (unhide HV1) false _ _ (unhide HFAR) (unhide HBL)).mono ?_; rintro e w2 ⟨rfl, hp⟩; have HP := hide hp; clear hp))
      go_end0
      exact ⟨rfl, (unhide HP).from (unhide HR).2⟩

end Go.Proofs.YtfhfkpgfnlmfhaaGreatDoor

/- The document's writer: frames, what is told, what is made. -/
namespace Go.Proofs.YtfhfkpgfnlmfhaaGreatDoor
open Go.RowKit

/-- What a writer tells. -/
def wLen (s : WS) : Nat := if s.fault ≠ 0 then 0 else s.bs.length
def wDone (s : WS) : List Nat × Nat := if s.fault ≠ 0 then ([], s.fault) else if s.sts ≠ [] then ([], 12) else (s.bs, 0)

/-- Bytes and an error that a call answers: new memory. -/
def NewD (w : World) (r : List Nat × Nat) (e : Ending) (w' : World) : Prop := ∃ a cap, e = .returned (.tuple #[.slice a r.1.length cap, .int .i64 (r.2 : Int)]) ∧ w'.ownsRow w.heap.size 5 1 (.slice a r.1.length cap) r.1.length (u8s r.1)
theorem NewD.nil (w w' : World) (c : Nat) : NewD w ([], c) (.returned (.tuple #[.slice none 0 0, .int .i64 (c : Int)])) w' := ⟨none, 0, rfl, rfl, Or.inl ⟨rfl, rfl⟩⟩

set_option maxRecDepth 100000 in
set_option maxHeartbeats 1000000 in
theorem vdone_s {w : World} {c : Nat} {F : List Nat} {s : WS} (h : Vs w c F s) :
    Calls Tryz.prog 38 #[.pointer (some ⟨c, 0, none⟩)] w fun e w' => NewD w (wDone s) e w' ∧ Kept [] w w' := by
  by_cases hf : s.fault = 0
  · obtain ⟨v, sv, h1, rfl⟩ := h.open hf
    have HH := hide h1
    obtain ⟨c0, c1, c2, c3⟩ := blk4 h1.blk
    obtain ⟨sa, sc, rfl⟩ := own_len h1.sown
    obtain ⟨va, vc, rfl⟩ := own_len h1.own
    rw [hf] at c3
    have hst := h1.bsts
    by_cases hz : s.sts = []
    · have hr : wDone s = (s.bs, 0) := by unfold wDone; rw [if_neg (by omega), if_neg (by simpa using hz)]
      rw [hr]
      have hz0 : s.sts.length = 0 := by rw [hz]; rfl
      rw [hz0] at c2
      obtain ⟨i0, hi, hz0', hz1, hz2⟩ := info_parts Tryz.info5
      have HI := hide (⟨hi, hz0', hz1, hz2⟩ : _ ∧ _ ∧ _ ∧ _)
      obtain ⟨B, hB⟩ : ∃ B, s.bs.length = B := ⟨_, rfl⟩
      have HB := hide hB
      have hbb := h1.bbs
      rw [hB] at c1 hbb
      have HSEE := hide (Sees.of_own h1.own)
      clear h h1 hf hr hz hz0 hst hi hz0' hz1 hz2 hB
      go_enter Tryz.func38, Tryz.ntmps38
      go_wp2
      go_loopw [4, 5] (fun v i wr => ∃ (k : Nat) (a : Option Addr) (cap : Nat), k ≤ B ∧ i = .int .i64 (k : Int) ∧ v = .slice a k cap ∧ Hid (wr.ownsRow w.heap.size 5 1 (.slice a k cap) k (u8s (s.bs.take k)) ∧ Kept [] w wr)) (fun _ i _ => B - (intOf i).toNat)
      case atStart => exact ⟨0, none, 0, by omega, rfl, rfl, hide ⟨World.ownsRow_nil _ _ _ _, Kept.refl _ _⟩⟩
      case round =>
        obtain ⟨k, a, cap, hk, rfl, rfl, HR⟩ := hrel
        obtain ⟨e0, e1, e2, e3⟩ := blk4 ((unhide HH).kept (unhide HR).2 (by simp)).blk
        rw [unhide HB] at e1
        by_cases hlt : k < B
        · have hik : k < s.bs.length := by rw [unhide HB]; exact hlt
          obtain ⟨xb, xo, xc, hv, hx1, hx2, cx⟩ := ((unhide HSEE).kept (unhide HR).2 (by simp)).spot hik
          rw [unhide HB] at hv hx1
          cases hv
          have hlen : (s.bs.take k).length = k := by rw [List.length_take]; omega
          have HT := hide (take_snoc s.bs k hik)
          generalize s.bs.getD k 0 = y at *
          have HLN := hide hlen
          have HO2 : Hid ((wr.alloc (.cells #[.int .u8 (y : Int)] 5)).ownsRow w.heap.size 5 1 (.slice a k cap) (s.bs.take k).length (u8s (s.bs.take k))) := by unfold Hid; rw [hlen]; exact (unhide HR).1.alloc _
          have HS := hide (unhide HR).2.size
          have hB63 : B ≤ 9223372036854775807 := by omega
          clear hlen hik hx1 hx2 c0 c1 c2 c3
          go_wp2_with (at_builtin; refine wpList_append_sees _ rfl _ _ 22 rfl w.heap.size 5 i0 (.int .u8 0) Tryz.underlying22 (unhide HI).1 (unhide HI).2.1 (unhide HI).2.2.1 (unhide HI).2.2.2 rfl _ (s.bs.take k) rfl (unhide HO2) _ [y] rfl (news_one _ _) ?c1 ?c2 ?_)
          case c1 => rw [unhide HLN]; simp; omega
          case c2 => have := unhide HS; simp; omega
          intro v' w2 hown1 hg hat
          have hl2 : (s.bs.take k ++ [y]).length = k + 1 := by rw [List.length_append, unhide HLN]; rfl
          have hown2 : w2.ownsRow w.heap.size 5 1 v' (k + 1) (u8s (s.bs.take k ++ [y])) := by
            have h3 := hown1
            rw [← hl2]
            first | exact h3 | simpa using h3
          obtain ⟨a2, d2, rfl⟩ := own_len hown2
          have HO1 := hide hown2
          have HG := hide hg
          clear hown1 hown2 hg hat hl2
          go_wp2
          refine ⟨⟨k + 1, a2, d2, by omega, by go_num, rfl, hide ⟨?_, ?_⟩⟩, by simp [intOf]; omega⟩
          · rw [← unhide HT]; exact unhide HO1
          · exact ((unhide HR).2.alloc _).grown (unhide HG) (fun q hq => Or.inr ((unhide HR).1.lt q hq).1)
        · obtain rfl : k = B := by omega
          clear c0 c1 c2 c3
          go_wp2
          go_ret2
          have e : s.bs.take k = s.bs := List.take_of_length_le (by rw [unhide HB]; exact Nat.le_refl _)
          have ho := (unhide HR).1
          rw [e] at ho
          refine ⟨⟨a, cap, ?_, ?_⟩, (unhide HR).2⟩
          · simp only [unhide HB]; rfl
          · simp only [unhide HB]; exact ho
    · have hr : wDone s = ([], 12) := by unfold wDone; rw [if_neg (by omega), if_pos (by simpa using hz)]
      rw [hr]
      have hp := List.length_pos_iff.2 hz
      obtain ⟨EL, hEL⟩ : ∃ EL, s.sts.length = EL := ⟨_, rfl⟩
      rw [hEL] at c2 hp
      have t1 : ((0 : Int) < (EL : Int)) = True := by simp; omega
      clear h h1 hf hr hz hst hEL
      go_enter Tryz.func38, Tryz.ntmps38
      go_wp2
      go_ret2
      exact ⟨NewD.nil _ _ _, Kept.refl _ _⟩
  · obtain ⟨s0, v, sv, h1, rfl, h3, _⟩ := h
    have hr : wDone s = ([], s.fault) := by unfold wDone; rw [if_pos hf]
    rw [hr]
    obtain ⟨c0, c1, c2, c3⟩ := blk4 h1.blk
    rw [h3] at c3
    have t1 : ((s.fault : Int) != 0) = true := by rw [bne_iff_ne]; omega
    generalize s.fault = fa at *
    clear hr hf h1 h3
    go_enter Tryz.func38, Tryz.ntmps38
    go_wp2
    go_region
    all_goals (go_wp2; go_ret2; exact ⟨NewD.nil _ _ _, ((Kept.refl [] w).drew)⟩)

set_option maxRecDepth 100000 in
set_option maxHeartbeats 400000 in
theorem vnew_any (room : Int) (w : World) (hr : room ≤ 9223372036854775807) :
    Calls Tryz.prog 32 #[.int .i64 room] w fun e w' => ∃ c, e = .returned (.pointer (some ⟨c, 0, none⟩)) ∧ Vs w' c [c] (newWS room.toNat) ∧ w.heap.size ≤ c ∧ Kept [] w w' := by
  have fin : ∀ R : Nat, R < 9223372036854775808 → Vs (w.alloc (.cells #[.int .i64 (R : Int), .slice none 0 0, .slice none 0 0, .int .i64 0] 88)) w.heap.size [w.heap.size] (newWS R) := by
    intro R hR
    refine ⟨newWS R, .slice none 0 0, .slice none 0 0, ⟨?_, World.ownsRow_nil _ _ _ _, World.ownsRow_nil _ _ _ _, ?_, ?_, ?_, hR, by simp [newWS], by simp [newWS], by simp [newWS]⟩, rfl, rfl, fun _ => rfl⟩
    · exact Blk.new w _ _
    · intro e; cases e
    · intro e; cases e
    · intro k e; cases e
  have HF := hide fin
  clear fin
  by_cases h0 : room < 0
  · have t1 : (room < 0) = True := by simpa using h0
    have e : room.toNat = 0 := by omega
    rw [e]
    clear h0 hr
    go_enter Tryz.func32, Tryz.ntmps32
    go_wp2
    go_ret
    exact ⟨w.heap.size, rfl, unhide HF 0 (by omega), Nat.le_refl _, (Kept.refl [] w).alloc _⟩
  · obtain ⟨R, rfl⟩ := Int.eq_ofNat_of_zero_le (show 0 ≤ room by omega)
    have t1 : ((R : Int) < 0) = False := by simp
    show Calls _ _ _ _ fun e w' => ∃ c, e = .returned (.pointer (some ⟨c, 0, none⟩)) ∧ Vs w' c [c] (newWS R) ∧ w.heap.size ≤ c ∧ Kept [] w w'
    have hR9 : R < 9223372036854775808 := by omega
    clear h0 hr
    go_enter Tryz.func32, Tryz.ntmps32
    go_wp2
    go_ret
    exact ⟨w.heap.size, rfl, unhide HF R hR9, Nat.le_refl _, (Kept.refl [] w).alloc _⟩
end Go.Proofs.YtfhfkpgfnlmfhaaGreatDoor
