/- Writers on both sides: the document's, none at all, the law's step, the script, what came in. -/
import Derived.Test.YtiabhgkndejigaaPS
import Derived.Test.YtiabhgkndejigaaPMa
import Derived.Test.YtiabhgkndejigaaWclose
import Derived.Test.YtiabhgkndejigaaPMb
namespace Go.Proofs.Ytiabhgkndejigaa
open Go.RowKit

/-- In w there is a writer at block b in the state s; F: its blocks. -/
def Ws (w : World) (b : Nat) (F : List Nat) (s : WS) : Prop := ∃ v sv, Wr w b s v sv ∧ F = foot b v sv
def WsP (w : World) (b : Nat) (F : List Nat) (s' : WS) (w' : World) : Prop := ∃ F', Ws w' b F' s' ∧ Kept F w w' ∧ ∀ x ∈ F', x ∈ F ∨ w.heap.size ≤ x

theorem WsP.of {w w' : World} {b : Nat} {v sv : Value} {s' : WS} (h : WPost w b v sv s' w') : WsP w b (foot b v sv) s' w' := by
  obtain ⟨v', sv', h1, h2, h3⟩ := h
  exact ⟨_, ⟨v', sv', h1, rfl⟩, h2, h3⟩
theorem Ws.lt {w : World} {b : Nat} {F : List Nat} {s : WS} (h : Ws w b F s) : ∀ x ∈ F, x < w.heap.size := by
  obtain ⟨v, sv, h1, rfl⟩ := h; exact foot_lt h1
theorem Ws.mem {w : World} {b : Nat} {F : List Nat} {s : WS} (h : Ws w b F s) : b ∈ F := by
  obtain ⟨v, sv, h1, rfl⟩ := h; simp [foot]
theorem Ws.kept {G : List Nat} {w w' : World} {b : Nat} {F : List Nat} {s : WS} (h : Ws w b F s) (k : Kept G w w') (hF : ∀ x ∈ F, x ∉ G) : Ws w' b F s := by
  obtain ⟨v, sv, h1, rfl⟩ := h; exact ⟨v, sv, h1.kept k hF, rfl⟩
theorem WsP.from {w W w' : World} {b : Nat} {F : List Nat} {s' : WS} (k : Kept [] w W) (h : WsP W b F s' w') : WsP w b F s' w' := by
  obtain ⟨F', h1, h2, h3⟩ := h
  refine ⟨F', h1, (k.mono (by simp)).trans h2 (fun x hx => Or.inl hx), fun x hx => ?_⟩
  rcases h3 x hx with h | h
  · exact Or.inl h
  · right; have := k.size; omega

theorem wdone_okS {w : World} {b : Nat} {F : List Nat} {s : WS} (h : Ws w b F s) (hf : s.fault = 0) (hs : s.sts = []) :
    Calls Try.prog 13 #[.pointer (some ⟨b, 0, none⟩)] w fun e w' => ∃ a cap, e = .returned (.tuple #[.slice a s.bs.length cap, .int .i64 0]) ∧ w'.ownsRow w.heap.size 5 1 (.slice a s.bs.length cap) s.bs.length (u8s s.bs) ∧ Kept [] w w' := by
  obtain ⟨v, sv, h1, rfl⟩ := h
  exact wdone_ok h1 hf hs
theorem wdone_faultS {w : World} {b : Nat} {F : List Nat} {s : WS} (h : Ws w b F s) (hf : s.fault ≠ 0) :
    Calls Try.prog 13 #[.pointer (some ⟨b, 0, none⟩)] w fun e w' => e = .returned (.tuple #[.slice none 0 0, .int .i64 (s.fault : Int)]) ∧ ∃ m, w' = w.drewN m := by
  obtain ⟨v, sv, h1, rfl⟩ := h
  exact wdone_fault h1 hf

set_option maxRecDepth 100000 in
set_option maxHeartbeats 400000 in
theorem wlen_fault {w : World} {b : Nat} {F : List Nat} {s : WS} (h : Ws w b F s) (hf : s.fault ≠ 0) :
    Calls Try.prog 27 #[.pointer (some ⟨b, 0, none⟩)] w fun e w' => e = .returned (.int .i64 0) ∧ w = w' := by
  obtain ⟨v, sv, h1, rfl⟩ := h
  have HH := hide h1
  clear h1
  go_enter Try.func27, Try.ntmps27
  go_wp2_with (first | (go_at_call 81; refine (fails_yes (unhide HH) hf).mono ?_; rintro e w' ⟨rfl, rfl⟩))
  go_ret
  exact ⟨rfl, rfl⟩

theorem tlay_s {w : World} {b : Nat} {F : List Nat} {s : WS} (h : Ws w b F s) (t : Th) (ok : t.ok) (hS : Far w t.pv t.p F) (hl : s.bs.length ≤ 1000000000000) (hp : t.p.length ≤ 1000000000000) (hst : ∀ x ∈ s.sts, x ≤ s.bs.length) :
    Calls Try.prog 91 #[t.val, .pointer (some ⟨b, 0, none⟩)] w fun e w' => e = .returned (.tuple #[]) ∧ WsP w b F (t.lay s) w' := by
  obtain ⟨v, sv, h1, rfl⟩ := h
  refine (tlay_any h1 t ok hS hl hp hst).mono ?_
  rintro e w' ⟨rfl, hp⟩
  exact ⟨rfl, WsP.of hp⟩
theorem wopen_s {w : World} {b : Nat} {F : List Nat} {s : WS} (h : Ws w b F s) :
    Calls Try.prog 51 #[.pointer (some ⟨b, 0, none⟩)] w fun e w' => e = .returned (.tuple #[]) ∧ WsP w b F (wOpen s) w' := by
  obtain ⟨v, sv, h1, rfl⟩ := h
  refine (wopen_any h1).mono ?_
  rintro e w' ⟨rfl, hp⟩
  exact ⟨rfl, WsP.of hp⟩
theorem wclose_s {w : World} {b : Nat} {F : List Nat} {s : WS} (h : Ws w b F s) (hst : ∀ x ∈ s.sts, x ≤ s.bs.length) (hl : s.bs.length ≤ 1000000000000) :
    Calls Try.prog 53 #[.pointer (some ⟨b, 0, none⟩)] w fun e w' => e = .returned (.tuple #[]) ∧ WsP w b F (wClose s) w' := by
  obtain ⟨v, sv, h1, rfl⟩ := h
  refine (wclose_any h1 hst hl).mono ?_
  rintro e w' ⟨rfl, hp⟩
  exact ⟨rfl, WsP.of hp⟩
theorem wbyte_outS {w : World} {b : Nat} {F : List Nat} {s : WS} (h : Ws w b F s) (n : Int) (hn : n < 0 ∨ 255 < n) :
    Calls Try.prog 39 #[.pointer (some ⟨b, 0, none⟩), .int .i64 n] w fun e w' => e = .returned (.tuple #[]) ∧ WsP w b F (wFail s 2) w' := by
  obtain ⟨v, sv, h1, rfl⟩ := h
  refine (wbyte_out h1 n hn).mono ?_
  rintro e w' ⟨rfl, hp⟩
  exact ⟨rfl, WsP.of hp⟩
theorem wfixed_outS {w : World} {b : Nat} {F : List Nat} {s : WS} (h : Ws w b F s) (n : Nat) (size : Int) (hn : size < 1 ∨ 8 < size) :
    Calls Try.prog 41 #[.pointer (some ⟨b, 0, none⟩), .int .u64 n, .int .i64 size] w fun e w' => e = .returned (.tuple #[]) ∧ WsP w b F (wFail s 2) w' := by
  obtain ⟨v, sv, h1, rfl⟩ := h
  refine (wfixed_out h1 n size hn).mono ?_
  rintro e w' ⟨rfl, hp⟩
  exact ⟨rfl, WsP.of hp⟩
theorem wraw_s {w : World} {b : Nat} {F : List Nat} {s : WS} (h : Ws w b F s) (pv : Value) (ps : List Nat) (hp : Far w pv ps F) (hl : s.bs.length + ps.length ≤ 70368744177664) :
    Calls Try.prog 47 #[.pointer (some ⟨b, 0, none⟩), pv] w fun e w' => e = .returned (.tuple #[]) ∧ WsP w b F (wLay s ps) w' := by
  obtain ⟨v, sv, h1, rfl⟩ := h
  refine (wraw_anyE h1 pv ps hp hl).mono ?_
  rintro e w' ⟨rfl, hp⟩
  exact ⟨rfl, WsP.of hp⟩
theorem new_s (room : Nat) (w : World) (hr : room < 9223372036854775808) :
    Calls Try.prog 9 #[.int .i64 room] w fun e w' => ∃ b, e = .returned (.pointer (some ⟨b, 0, none⟩)) ∧ Ws w' b [b] (newWS room) ∧ w.heap.size ≤ b ∧ Kept [] w w' := by
  refine (new_any room w hr).mono ?_
  rintro e w' ⟨b, rfl, h2, h1, h3⟩
  exact ⟨b, rfl, ⟨nilS, nilS, h1, rfl⟩, h2, h3⟩
end Go.Proofs.Ytiabhgkndejigaa

namespace Go.Proofs.Ytiabhgkndejigaa
open Go.RowKit

/-- In w there is a writer at block b, in the state s; F: the blocks of its bytes and its starts. -/
structure Vr (w : World) (b : Nat) (s : WS) (v sv : Value) : Prop where
  blk : Blk w b #[.int .i64 (s.room : Int), v, sv, .int .i64 (s.fault : Int)] 79
  own : w.ownsRow 0 5 1 v s.bs.length (u8s s.bs)
  sown : w.ownsRow 0 3 1 sv s.sts.length (i64s s.sts)
  n1 : v.ownBlock ≠ some b
  n2 : sv.ownBlock ≠ some b
  n3 : ∀ k, v.ownBlock = some k → sv.ownBlock ≠ some k
  broom : s.room < 9223372036854775808
  bbs : s.bs.length ≤ 70368744177664
  bsts : s.sts.length ≤ 16
  bf : s.fault < 1000

theorem Vr.kept {F : List Nat} {w w' : World} {b : Nat} {s : WS} {v sv : Value} (h : Vr w b s v sv) (k : Kept F w w') (hd : ∀ x, x ∈ foot b v sv → x ∉ F) : Vr w' b s v sv :=
  ⟨h.blk.kept k (hd b (by simp [foot])), own_kept h.own k (fun x hx => hd x (by simp [foot, hx])), own_kept h.sown k (fun x hx => hd x (by simp [foot, hx])), h.n1, h.n2, h.n3, h.broom, h.bbs, h.bsts, h.bf⟩
theorem Vr.alloc {w : World} {b : Nat} {s : WS} {v sv : Value} (h : Vr w b s v sv) (o : Obj) : Vr (w.alloc o) b s v sv := h.kept ((Kept.refl [] w).alloc o) (by simp)

theorem Vr.grow {w w1 : World} {b : Nat} {s : WS} {v sv v' : Value} (h : Vr w b s v sv) (ys : List Nat)
    (hown : w1.ownsRow 0 5 1 v' (s.bs ++ ys).length (u8s (s.bs ++ ys))) (hg : w.grownBy w1 v.ownBlock) (hat : v'.ownBlock = v.ownBlock ∨ v'.ownBlock = some w.heap.size)
    (hl : s.bs.length + ys.length ≤ 70368744177664) :
    Vr (w1.setCell ⟨b, 1, none⟩ v') b { s with bs := s.bs ++ ys } v' sv ∧ Kept (foot b v sv) w (w1.setCell ⟨b, 1, none⟩ v') ∧ ∀ x, x ∈ foot b v' sv → x ∈ foot b v sv ∨ w.heap.size ≤ x := by
  have hb := h.blk.lt
  have k1 : Kept (foot b v sv) w w1 := (Kept.refl _ _).grown hg (fun k hk => Or.inl (by simp [foot, hk]))
  have k2 : Kept (foot b v sv) w (w1.setCell ⟨b, 1, none⟩ v') := k1.setCell (Or.inl (by simp [foot])) v'
  have n1' : v'.ownBlock ≠ some b := by
    rcases hat with e | e <;> rw [e]
    · exact h.n1
    · simp; omega
  have n3' : ∀ k, v'.ownBlock = some k → sv.ownBlock ≠ some k := by
    intro k hk hs
    rcases hat with e | e
    · exact h.n3 k (by rw [← e]; exact hk) hs
    · rw [e] at hk; simp at hk; subst hk
      have := (h.sown.lt _ hs).2; omega
  refine ⟨⟨?_, ?_, ?_, n1', h.n2, n3', h.broom, by simpa using hl, h.bsts, h.bf⟩, k2, ?_⟩
  · have b1 : Blk w1 b #[.int .i64 (s.room : Int), v, sv, .int .i64 (s.fault : Int)] 79 := by
      have := hg.block b hb (fun e => h.n1 e.symm)
      exact this.trans h.blk
    have := b1.set 1 v'
    simpa using this
  · exact own_kept hown ((Kept.refl [b] _).setCell (Or.inl (by simp)) v') (fun k hk => by simp; intro e; exact n1' (by rw [hk, e]))
  · have s1 : w1.ownsRow 0 3 1 sv s.sts.length (i64s s.sts) := by
      refine own_kept h.sown ((Kept.refl v.ownBlock.toList _).grown hg (fun k hk => Or.inl (by simp [hk]))) (fun k hk => ?_)
      simp; intro e; exact h.n3 k e hk
    exact own_kept s1 ((Kept.refl [b] _).setCell (Or.inl (by simp)) v') (fun k hk => by simp; intro e; exact h.n2 (by rw [hk, e]))
  · intro x hx
    simp [foot] at hx ⊢
    rcases hx with hx | hx | hx
    · exact Or.inl (Or.inl hx)
    · rcases hat with e | e
      · exact Or.inl (Or.inr (Or.inl (by rw [← e]; exact hx)))
      · rw [e] at hx; simp at hx; right; omega
    · exact Or.inl (Or.inr (Or.inr hx))

theorem Vr.starts {w w1 : World} {b : Nat} {s : WS} {v sv sv' : Value} (h : Vr w b s v sv) (ts : List Nat)
    (hown : w1.ownsRow 0 3 1 sv' ts.length (i64s ts)) (hk : Kept sv.ownBlock.toList w w1) (hat : sv'.ownBlock = sv.ownBlock ∨ ∀ x, sv'.ownBlock = some x → w.heap.size ≤ x)
    (hl : ts.length ≤ 16) :
    Vr (w1.setCell ⟨b, 2, none⟩ sv') b { s with sts := ts } v sv' ∧ Kept (foot b v sv) w (w1.setCell ⟨b, 2, none⟩ sv') ∧ ∀ x, x ∈ foot b v sv' → x ∈ foot b v sv ∨ w.heap.size ≤ x := by
  have hb := h.blk.lt
  have k2 : Kept (foot b v sv) w (w1.setCell ⟨b, 2, none⟩ sv') := (hk.mono (fun x hx => Or.inl (by simp [foot]; simp at hx; simp [hx]))).setCell (Or.inl (by simp [foot])) sv'
  have n2' : sv'.ownBlock ≠ some b := by
    rcases hat with e | e
    · rw [e]; exact h.n2
    · intro hx; have := e b hx; omega
  have n3' : ∀ k, v.ownBlock = some k → sv'.ownBlock ≠ some k := by
    intro k hk' hs
    rcases hat with e | e
    · exact h.n3 k hk' (by rw [← e]; exact hs)
    · have := e k hs; have := (h.own.lt k hk').2; omega
  refine ⟨⟨?_, ?_, ?_, h.n1, n2', n3', h.broom, h.bbs, hl, h.bf⟩, k2, ?_⟩
  · have b1 : Blk w1 b #[.int .i64 (s.room : Int), v, sv, .int .i64 (s.fault : Int)] 79 := h.blk.kept hk (by simp; exact h.n2)
    simpa using b1.set 2 sv'
  · have o1 := own_kept h.own hk (fun k hk' => by simp; exact h.n3 k hk')
    exact own_kept o1 ((Kept.refl [b] _).setCell (Or.inl (by simp)) sv') (fun k hk' => by simp; intro e; exact h.n1 (by rw [hk', e]))
  · exact own_kept hown ((Kept.refl [b] _).setCell (Or.inl (by simp)) sv') (fun k hk' => by simp; intro e; exact n2' (by rw [hk', e]))
  · intro x hx
    simp [foot] at hx ⊢
    rcases hx with hx | hx | hx
    · exact Or.inl (Or.inl hx)
    · exact Or.inl (Or.inr (Or.inl hx))
    · rcases hat with e | e
      · exact Or.inl (Or.inr (Or.inr (by rw [← e]; exact hx)))
      · exact Or.inr (e x hx)

theorem Vr.bytes {w w1 : World} {b : Nat} {s : WS} {v sv v' : Value} (h : Vr w b s v sv) (bs' : List Nat)
    (hown : w1.ownsRow 0 5 1 v' bs'.length (u8s bs')) (hk : Kept v.ownBlock.toList w w1) (hat : v'.ownBlock = v.ownBlock ∨ ∀ x, v'.ownBlock = some x → w.heap.size ≤ x)
    (hl : bs'.length ≤ 70368744177664) :
    Vr (w1.setCell ⟨b, 1, none⟩ v') b { s with bs := bs' } v' sv ∧ Kept (foot b v sv) w (w1.setCell ⟨b, 1, none⟩ v') ∧ ∀ x, x ∈ foot b v' sv → x ∈ foot b v sv ∨ w.heap.size ≤ x := by
  have hb := h.blk.lt
  have k2 : Kept (foot b v sv) w (w1.setCell ⟨b, 1, none⟩ v') := (hk.mono (fun x hx => Or.inl (by simp [foot]; simp at hx; simp [hx]))).setCell (Or.inl (by simp [foot])) v'
  have n1' : v'.ownBlock ≠ some b := by
    rcases hat with e | e
    · rw [e]; exact h.n1
    · intro hx; have := e b hx; omega
  have n3' : ∀ k, v'.ownBlock = some k → sv.ownBlock ≠ some k := by
    intro k hk' hs
    rcases hat with e | e
    · exact h.n3 k (by rw [← e]; exact hk') hs
    · have := e k hk'; have := (h.sown.lt k hs).2; omega
  refine ⟨⟨?_, ?_, ?_, n1', h.n2, n3', h.broom, hl, h.bsts, h.bf⟩, k2, ?_⟩
  · have b1 : Blk w1 b #[.int .i64 (s.room : Int), v, sv, .int .i64 (s.fault : Int)] 79 := h.blk.kept hk (by simp; exact h.n1)
    simpa using b1.set 1 v'
  · exact own_kept hown ((Kept.refl [b] _).setCell (Or.inl (by simp)) v') (fun k hk' => by simp; intro e; exact n1' (by rw [hk', e]))
  · have o1 := own_kept h.sown hk (fun k hk' => by simp; exact fun e => h.n3 k e hk')
    exact own_kept o1 ((Kept.refl [b] _).setCell (Or.inl (by simp)) v') (fun k hk' => by simp; intro e; exact h.n2 (by rw [hk', e]))
  · intro x hx
    simp [foot] at hx ⊢
    rcases hx with hx | hx | hx
    · exact Or.inl (Or.inl hx)
    · rcases hat with e | e
      · exact Or.inl (Or.inr (Or.inl (by rw [← e]; exact hx)))
      · exact Or.inr (e x hx)
    · exact Or.inl (Or.inr (Or.inr hx))


theorem vfoot_lt {w : World} {b : Nat} {s : WS} {v sv : Value} (h : Vr w b s v sv) : ∀ x, x ∈ foot b v sv → x < w.heap.size := by
  intro x hx
  simp [foot] at hx
  rcases hx with rfl | hx | hx
  · exact h.blk.lt
  · exact (h.own.lt _ hx).2
  · exact (h.sown.lt _ hx).2


theorem Vr.fail {w : World} {c : Nat} {s : WS} {v sv : Value} (h : Vr w c s v sv) (f : Nat) (hf : f < 1000) :
    Vr (w.setCell ⟨c, 3, none⟩ (.int .i64 (f : Int))) c { s with fault := f } v sv ∧ Kept [c] w (w.setCell ⟨c, 3, none⟩ (.int .i64 (f : Int))) := by
  have kk : Kept [c] w (w.setCell ⟨c, 3, none⟩ (.int .i64 (f : Int))) := (Kept.refl _ _).setCell (Or.inl (by simp)) _
  refine ⟨⟨by simpa using h.blk.set 3 (.int .i64 (f : Int)), own_kept h.own kk (fun k hk => ?_), own_kept h.sown kk (fun k hk => ?_), h.n1, h.n2, h.n3, h.broom, h.bbs, h.bsts, hf⟩, kk⟩
  · simp; intro e; exact h.n1 (by rw [hk, e])
  · simp; intro e; exact h.n2 (by rw [hk, e])

set_option maxRecDepth 100000 in
set_option maxHeartbeats 400000 in
theorem vdead_no {w : World} {c : Nat} {s : WS} {v sv : Value} (h : Vr w c s v sv) (hf : s.fault = 0) :
    Calls Try.prog 102 #[.pointer (some ⟨c, 0, none⟩)] w fun e w' => e = .returned (.bool false) ∧ w = w' := by
  obtain ⟨c0, c1, c2, c3⟩ := blk4 h.blk
  rw [hf] at c3; clear hf h
  go_enter Try.func102, Try.ntmps102
  go_wp2
  go_ret
  exact ⟨rfl, rfl⟩
set_option maxRecDepth 100000 in
set_option maxHeartbeats 400000 in
theorem vdead_yes {w : World} {c : Nat} {s : WS} {v sv : Value} (h : Vr w c s v sv) (hf : s.fault ≠ 0) :
    Calls Try.prog 102 #[.pointer (some ⟨c, 0, none⟩)] w fun e w' => e = .returned (.bool true) ∧ w = w' := by
  obtain ⟨c0, c1, c2, c3⟩ := blk4 h.blk
  have hn : ((s.fault : Int) != 0) = true := by rw [bne_iff_ne]; omega
  clear hf h
  go_enter Try.func102, Try.ntmps102
  go_wp2
  go_ret
  exact ⟨rfl, rfl⟩
set_option maxRecDepth 100000 in
set_option maxHeartbeats 400000 in
theorem vdead_nil (w : World) : Calls Try.prog 102 #[.pointer none] w fun e w' => e = .returned (.bool true) ∧ w = w' := by
  go_enter Try.func102, Try.ntmps102
  go_wp2
  go_ret
  exact ⟨rfl, rfl⟩

set_option maxRecDepth 100000 in
set_option maxHeartbeats 400000 in
theorem vform_any (n : Nat) (w : World) (hn : n < 18446744073709551616) :
    Calls Try.prog 98 #[.int .u64 n] w fun e w' => ∃ a cap, e = .returned (.slice a (form n).length cap) ∧ w'.ownsRow w.heap.size 5 1 (.slice a (form n).length cap) (form n).length (u8s (form n)) ∧ Kept [] w w' := by
  obtain ⟨i0, hi, hz0, hz1, hz2⟩ := info_parts Try.info5
  have HI := hide (⟨hi, hz0, hz1, hz2⟩ : _ ∧ _ ∧ _ ∧ _)
  have hlen := form_le10 n hn
  clear hi hz0 hz1 hz2
  go_enter Try.func98, Try.ntmps98
  go_wp2
  go_loopw [0, 3] (fun m v wr => ∃ (x : Nat) (pre : List Nat), m = .int .u64 x ∧ x ≤ n ∧ Hid (form n = pre ++ form x) ∧ Hid (wr.ownsRow w.heap.size 5 1 v pre.length (u8s pre) ∧ Kept [] w wr)) (fun m _ _ => (intOf m).toNat)
  case atStart => exact ⟨n, [], rfl, Nat.le_refl _, hide rfl, hide ⟨World.ownsRow_nil _ _ _ _, Kept.refl _ _⟩⟩
  case round =>
    obtain ⟨x, pre, rfl, hx, HP, HO⟩ := hrel
    have hpl : pre.length ≤ 10 := by have := congrArg List.length (unhide HP); simp at this; omega
    have HS := hide (unhide HO).2.size
    obtain ⟨va, vc, hv⟩ := own_len (unhide HO).1
    subst hv
    by_cases hb : x < 128
    · have t1 : ((128 : Int) ≤ (x : Int)) = False := by simp; omega
      have hw1 : IntKind.u8.wrap (x : Int) = (x : Int) := by rw [IntKind.wrap_u8]; omega
      have HF : Hid (form n = pre ++ [x]) := by unfold Hid; rw [unhide HP, form_small hb]
      go_wp2_with (at_builtin; refine wpList_append_sees _ rfl _ _ 25 rfl w.heap.size 5 i0 (.int .u8 0) Try.underlying25 (unhide HI).1 (unhide HI).2.1 (unhide HI).2.2.1 (unhide HI).2.2.2 rfl _ pre rfl ((unhide HO).1.alloc _) _ [x] rfl (news_one _ _) ?c1 ?c2 ?_)
      case c1 => simp; omega
      case c2 => have := unhide HS; simp; omega
      intro v' w1 hown1 hg hat
      obtain ⟨a2, d2, rfl⟩ := own_len hown1
      have HO1 := hide hown1
      have HG := hide hg
      clear hown1 hg hat
      go_wp2
      go_ret
      have e := unhide HF
      refine ⟨a2, d2, ?_, ?_, ?_⟩
      · rw [e]; first | rfl | simp
      · rw [e]; first | exact unhide HO1 | simpa using unhide HO1
      · exact ((unhide HO).2.alloc _).grown (unhide HG) (fun q hq => Or.inr ((unhide HO).1.lt q hq).1)
    · have t1 : ((128 : Int) ≤ (x : Int)) = True := by simp; omega
      have HF : Hid (form n = (pre ++ [x % 128 + 128]) ++ form (x / 128)) := by unfold Hid; rw [unhide HP, form_big (by omega)]; simp
      have hw1 : IntKind.u8.wrap ((x : Int) % 128) = (x : Int) % 128 := by rw [IntKind.wrap_u8]; omega
      have hw2 : IntKind.u8.wrap ((x : Int) % 128 + 128) = ((x % 128 + 128 : Nat) : Int) := by rw [IntKind.wrap_u8]; omega
      go_wp2_with (at_builtin; refine wpList_append_sees _ rfl _ _ 25 rfl w.heap.size 5 i0 (.int .u8 0) Try.underlying25 (unhide HI).1 (unhide HI).2.1 (unhide HI).2.2.1 (unhide HI).2.2.2 rfl _ pre rfl ((unhide HO).1.alloc _) _ [x % 128 + 128] rfl (news_one _ _) ?c1 ?c2 ?_)
      case c1 => simp; omega
      case c2 => have := unhide HS; simp; omega
      intro v' w1 hown1 hg hat
      have HO1 := hide hown1
      have HG := hide hg
      clear hown1 hg hat
      go_wp2
      refine ⟨⟨x / 128, pre ++ [x % 128 + 128], by simp, by omega, hide (unhide HF), hide ⟨?_, ?_⟩⟩, by simp [intOf]; omega⟩
      · first | exact unhide HO1 | simpa using unhide HO1
      · exact ((unhide HO).2.alloc _).grown (unhide HG) (fun q hq => Or.inr ((unhide HO).1.lt q hq).1)

set_option maxRecDepth 100000 in
set_option maxHeartbeats 400000 in
theorem vfold_any (i : Int) (w : World) (h1 : -9223372036854775808 ≤ i) (h2 : i ≤ 9223372036854775807) :
    Calls Try.prog 99 #[.int .i64 i] w fun e w' => e = .returned (.int .u64 (fold i : Nat)) ∧ w = w' := by
  by_cases h0 : 0 ≤ i
  · have HU : Hid (((fold i : Nat) : Int) = 2 * i) := by unfold Hid fold; split <;> omega
    have t1 : (0 ≤ i) = True := by simpa using h0
    have hw1 : IntKind.u64.wrap i = i := by rw [IntKind.wrap_u64]; omega
    have hw2 : IntKind.u64.wrap (2 * i) = 2 * i := by rw [IntKind.wrap_u64]; omega
    clear h0
    go_enter Try.func99, Try.ntmps99
    go_wp2
    go_ret
    exact ⟨by rw [unhide HU]; rfl, rfl⟩
  · have HU : Hid (((fold i : Nat) : Int) = 2 * (-(i + 1)) + 1) := by unfold Hid fold; split <;> omega
    have t1 : (0 ≤ i) = False := by simpa using h0
    have hw0 : IntKind.i64.wrap (i + 1) = i + 1 := by rw [IntKind.wrap_i64]; omega
    have hw1 : IntKind.u64.wrap (-(i + 1)) = -(i + 1) := by rw [IntKind.wrap_u64]; omega
    have hw4 : IntKind.i64.wrap (-(i + 1)) = -(i + 1) := by rw [IntKind.wrap_i64]; omega
    have hw2 : IntKind.u64.wrap (2 * (-(i + 1))) = 2 * (-(i + 1)) := by rw [IntKind.wrap_u64]; omega
    have hw3 : IntKind.u64.wrap (2 * (-(i + 1)) + 1) = 2 * (-(i + 1)) + 1 := by rw [IntKind.wrap_u64]; omega
    clear h0
    go_enter Try.func99, Try.ntmps99
    go_wp2
    go_ret
    exact ⟨by rw [unhide HU]; rfl, rfl⟩

set_option maxRecDepth 100000 in
set_option maxHeartbeats 400000 in
theorem vdigits_any (n size : Nat) (w : World) (hn : n < 18446744073709551616) (hs : size ≤ 8) :
    Calls Try.prog 96 #[.int .u64 n, .int .i64 size] w fun e w' => ∃ a cap, e = .returned (.slice a size cap) ∧ w'.ownsRow w.heap.size 5 1 (.slice a size cap) size (u8s (le n size)) ∧ Kept [] w w' := by
  obtain ⟨i0, hi, hz0, hz1, hz2⟩ := info_parts Try.info5
  have HI := hide (⟨hi, hz0, hz1, hz2⟩ : _ ∧ _ ∧ _ ∧ _)
  clear hi hz0 hz1 hz2
  go_enter Try.func96, Try.ntmps96
  go_wp2
  go_loopw [0, 5, 6] (fun m v i wr => ∃ (k x : Nat) (a : Option Addr) (cap : Nat), k ≤ size ∧ i = .int .i64 (k : Int) ∧ m = .int .u64 (x : Int) ∧ v = .slice a k cap ∧ Hid (x = n / 256 ^ k) ∧ Hid (wr.ownsRow w.heap.size 5 1 (.slice a k cap) k (u8s (le n k)) ∧ Kept [] w wr)) (fun _ _ i _ => size - (intOf i).toNat)
  case atStart => exact ⟨0, n, none, 0, by omega, rfl, rfl, rfl, hide (by simp), hide ⟨World.ownsRow_nil _ _ _ _, Kept.refl _ _⟩⟩
  case round =>
    obtain ⟨k, x, a, cap, hk, rfl, rfl, rfl, HX, HO⟩ := hrel
    by_cases hlt : k < size
    · have hx64 : x < 18446744073709551616 := by rw [unhide HX]; exact Nat.lt_of_le_of_lt (Nat.div_le_self _ _) hn
      have hle : (le n k).length = k := le_len n k
      have HLE := hide hle
      have HL2 : Hid (le n (k + 1) = le n k ++ [x % 256]) := by unfold Hid; rw [unhide HX]; rfl
      have HX2 : Hid (x / 256 = n / 256 ^ (k + 1)) := by unfold Hid; rw [unhide HX, Nat.div_div_eq_div_mul, Nat.pow_succ]
      have hw1 : IntKind.u8.wrap ((x : Int) % 256) = ((x % 256 : Nat) : Int) := by rw [IntKind.wrap_u8]; omega
      have HO2 : Hid ((wr.alloc (.cells #[.int .u8 ((x % 256 : Nat) : Int)] 5)).ownsRow w.heap.size 5 1 (.slice a k cap) (le n k).length (u8s (le n k))) := by unfold Hid; rw [hle]; exact (unhide HO).1.alloc _
      have HS := hide (unhide HO).2.size
      clear hle
      go_wp2_with (at_builtin; refine wpList_append_sees _ rfl _ _ 25 rfl w.heap.size 5 i0 (.int .u8 0) Try.underlying25 (unhide HI).1 (unhide HI).2.1 (unhide HI).2.2.1 (unhide HI).2.2.2 rfl _ (le n k) rfl (unhide HO2) _ [x % 256] rfl (news_one _ _) ?c1 ?c2 ?_)
      case c1 => rw [unhide HLE]; simp; omega
      case c2 => have := unhide HS; simp; omega
      intro v' w1 hown1 hg hat
      obtain ⟨a2, d2, rfl⟩ := own_len hown1
      have hl2 : (le n k ++ [x % 256]).length = k + 1 := by rw [List.length_append, unhide HLE]; rfl
      first | rw [hl2] at hown1 ⊢ | (rw [unhide HLE] at hown1 ⊢)
      have HO1 := hide hown1
      have HG := hide hg
      clear hown1 hg hat hl2
      go_wp2
      refine ⟨⟨k + 1, x / 256, a2, d2, by omega, by go_num, by simp, rfl, HX2, hide ⟨?_, ?_⟩⟩, by simp [intOf]; omega⟩
      · rw [unhide HL2]; exact unhide HO1
      · exact ((unhide HO).2.alloc _).grown (unhide HG) (fun q hq => Or.inr ((unhide HO).1.lt q hq).1)
    · obtain rfl : k = size := by omega
      go_wp2
      go_ret
      exact ⟨a, cap, rfl, (unhide HO).1, (unhide HO).2⟩
end Go.Proofs.Ytiabhgkndejigaa

namespace Go.Proofs.Ytiabhgkndejigaa
open Go.RowKit

/-- In w the document's writer at block c is in the state s (behind a fault whatever its bytes are); F: its blocks. -/
def Vs (w : World) (c : Nat) (F : List Nat) (s : WS) : Prop := ∃ s0 v sv, Vr w c s0 v sv ∧ F = foot c v sv ∧ s0.fault = s.fault ∧ (s.fault = 0 → s0 = s)
def VsP (w : World) (c : Nat) (F : List Nat) (s' : WS) (w' : World) : Prop := ∃ F', Vs w' c F' s' ∧ Kept F w w' ∧ ∀ x ∈ F', x ∈ F ∨ w.heap.size ≤ x
theorem Vs.lt {w : World} {c : Nat} {F : List Nat} {s : WS} (h : Vs w c F s) : ∀ x ∈ F, x < w.heap.size := by
  obtain ⟨s0, v, sv, h1, rfl, _⟩ := h; exact vfoot_lt h1
theorem Vs.kept {G : List Nat} {w w' : World} {c : Nat} {F : List Nat} {s : WS} (h : Vs w c F s) (k : Kept G w w') (hF : ∀ x ∈ F, x ∉ G) : Vs w' c F s := by
  obtain ⟨s0, v, sv, h1, rfl, h2⟩ := h; exact ⟨s0, v, sv, h1.kept k hF, rfl, h2⟩
theorem VsP.same {w w' : World} {c : Nat} {F : List Nat} {s : WS} (h : Vs w c F s) (k : Kept [] w w') : VsP w c F s w' := ⟨F, h.kept k (by simp), k.mono (by simp), fun _ hx => Or.inl hx⟩
theorem VsP.from {w W w' : World} {c : Nat} {F : List Nat} {s' : WS} (k : Kept [] w W) (h : VsP W c F s' w') : VsP w c F s' w' := by
  obtain ⟨F', h1, h2, h3⟩ := h
  refine ⟨F', h1, (k.mono (by simp)).trans h2 (fun x hx => Or.inl hx), fun x hx => ?_⟩
  rcases h3 x hx with h | h
  · exact Or.inl h
  · right; have := k.size; omega
theorem VsP.err {w w' : World} {c : Nat} {v sv : Value} {s0 : WS} {f : Nat} (hf : f ≠ 0) (h : Vr w' c { s0 with fault := f } v sv) (k : Kept [c] w w') : VsP w c (foot c v sv) (failWS f) w' :=
  ⟨foot c v sv, ⟨_, v, sv, h, rfl, rfl, fun h0 => absurd h0 hf⟩, k.mono (fun x hx => Or.inl (by simp at hx; subst hx; simp [foot])), fun _ hx => Or.inl hx⟩
theorem Vs.open {w : World} {c : Nat} {F : List Nat} {s : WS} (h : Vs w c F s) (hf : s.fault = 0) : ∃ v sv, Vr w c s v sv ∧ F = foot c v sv := by
  obtain ⟨s0, v, sv, h1, h2, _, h4⟩ := h
  obtain rfl := h4 hf
  exact ⟨v, sv, h1, h2⟩
theorem Vs.dead {w : World} {c : Nat} {F : List Nat} {s : WS} (h : Vs w c F s) (hf : s.fault ≠ 0) :
    Calls Try.prog 102 #[.pointer (some ⟨c, 0, none⟩)] w fun e w' => e = .returned (.bool true) ∧ w = w' := by
  obtain ⟨s0, v, sv, h1, _, h3, _⟩ := h
  exact vdead_yes h1 (by rw [h3]; exact hf)

set_option maxRecDepth 100000 in
set_option maxHeartbeats 1000000 in
theorem vlay_any {w : World} {c : Nat} {F : List Nat} {s : WS} (h : Vs w c F s) (ref : Bool) (pv : Value) (ps : List Nat) (hp : Far w pv ps F) (hl : s.bs.length + ps.length ≤ 70368744177664) :
    Calls Try.prog 93 #[.pointer (some ⟨c, 0, none⟩), .bool ref, pv] w fun e w' => e = .returned (.tuple #[]) ∧ VsP w c F (if ref then wFail s 2 else wLay s ps) w' := by
  by_cases hf : s.fault = 0
  · obtain ⟨v, sv, h1, rfl⟩ := h.open hf
    have HD := hide (vdead_no h1 hf)
    have HH := hide h1
    obtain ⟨c0, c1, c2, c3⟩ := blk4 h1.blk
    have f3 := h1.blk.frozen 3
    rw [hf] at c3
    cases ref with
    | true =>
      have hr : (if true = true then wFail s 2 else wLay s ps) = failWS 2 := by rw [if_pos rfl]; unfold wFail; rw [if_neg (by omega)]
      rw [hr]
      clear h h1 hp hl hf hr
      go_enter Try.func93, Try.ntmps93
      go_wp2_with (first | (go_at_call 102; refine (unhide HD).mono ?_; rintro e w1 ⟨rfl, rfl⟩))
      refine bodyPost_ret (results_none rfl _ _ _) rfl ?_
      obtain ⟨q1, q2⟩ := (unhide HH).fail 2 (by omega)
      exact ⟨rfl, VsP.err (by omega) q1 q2⟩
    | false =>
      have hr : (if false = true then wFail s 2 else wLay s ps) = wLay s ps := by simp
      rw [hr]
      clear hr
      have HP := hide hp
      obtain ⟨pa, pc, rfl⟩ := wide_len (hp.wide (Kept.refl _ _))
      obtain ⟨va, vc, rfl⟩ := own_len h1.own
      have hbb := h1.bbs
      have hrm := h1.broom
      obtain ⟨n, hn⟩ : ∃ n, ps.length = n := ⟨_, rfl⟩
      obtain ⟨B, hB⟩ : ∃ B, s.bs.length = B := ⟨_, rfl⟩
      obtain ⟨R, hR⟩ : ∃ R, s.room = R := ⟨_, rfl⟩
      have HN := hide hn
      have HB := hide hB
      have HRM := hide hR
      rw [hn, hB] at hl
      rw [hB] at c1 hbb
      rw [hR] at c0 hrm
      by_cases hroom : B + n ≤ R
      · have HWL : Hid (wLay s ps = { s with bs := s.bs ++ ps }) := by unfold Hid wLay; rw [if_neg (by omega), if_pos (by omega)]
        have t1 : ((R : Int) - (B : Int) < (n : Int)) = False := by simp; omega
        have HF0 := hide hf
        rw [hn]
        clear h h1 hp hf hB hR hn
        go_enter Try.func93, Try.ntmps93
        go_wp2_with (first | (go_at_call 102; refine (unhide HD).mono ?_; rintro e w1 ⟨rfl, rfl⟩))
        go_quiet (fail)
        go_wp2
        go_loopw [6] (fun i wr => ∃ (k : Nat) (a : Option Addr) (cap : Nat), k ≤ n ∧ i = .int .i64 (k : Int) ∧ Hid (Vr wr c { s with bs := s.bs ++ ps.take k } (.slice a (B + k) cap) sv ∧ Kept (foot c (.slice va B vc) sv) w wr ∧ ∀ x, x ∈ foot c (.slice a (B + k) cap) sv → x ∈ foot c (.slice va B vc) sv ∨ w.heap.size ≤ x)) (fun i _ => n - (intOf i).toNat)
        case atStart =>
          refine ⟨0, va, vc, by omega, rfl, hide ⟨?_, ?_, fun x hx => Or.inl hx⟩⟩
          · have h2 := (unhide HH)
            rw [unhide HB] at h2
            simpa using h2.kept ((Kept.refl [] w).drewN _) (by simp)
          · exact (Kept.refl _ _).drewN _
        case round =>
          obtain ⟨k, a, cap, hk, rfl, HR⟩ := hrel
          obtain ⟨hv, hkp, hft⟩ := unhide HR
          by_cases hlt : k < n
          · have hi : k < ps.length := by rw [unhide HN]; exact hlt
            have hWd := (unhide HP).wide (w' := wr) (by rw [unhide HB]; exact hkp)
            rw [unhide HN] at hWd
            obtain ⟨xb, xo, hpa, cx⟩ := hWd.at k hi
            subst hpa
            obtain ⟨e0, e1, e2, e3⟩ := blk4 hv.blk
            have hbk : s.bs.length + k = B + k := by rw [unhide HB]
            have hlen : (s.bs ++ ps.take k).length = B + k := by rw [List.length_append, unhide HB, List.length_take]; omega
            have hown := hv.own
            rw [show ({ s with bs := s.bs ++ ps.take k } : WS).bs.length = B + k from hlen] at hown
            obtain ⟨a2, d2, w2, hap, ho2, hk2, hat2⟩ := app_byteK hown hlen (ps.getD k 0) (by omega) (Nat.zero_le _) 25
            have HT : Hid ((s.bs ++ ps.take k) ++ [ps.getD k 0] = s.bs ++ ps.take (k + 1)) := by unfold Hid; rw [List.append_assoc, take_snoc ps k hi]
            generalize ps.getD k 0 = y at *
            have HAP := hide hap
            have HAP2 : Hid ((Builtin.append_ #[25, 25] 25 #[.slice a (B + k) cap, .slice (some ⟨wr.heap.size, 0, none⟩) 1 1]).run Try.prog (wr.drew.alloc (.cells #[.int .u8 (y : Int)] 5)) = .ok (.slice a2 (B + k + 1) d2) w2) := hap
            have hcA : (wr.alloc (.cells #[.int .u8 (y : Int)] 5)).cell? ⟨c, 1, none⟩ = some (.slice a (B + k) cap) := (blk4 (hv.blk.alloc _)).2.1
            have hb2 := hv.blk.kept hk2 (fun hm => hv.n1 (Option.mem_toList.1 hm))
            have g1 : w2.cell? ⟨c, 1, none⟩ = some (.slice a (B + k) cap) := (blk4 hb2).2.1
            have f1 := hb2.frozen 1
            have hl2 : (s.bs ++ ps.take (k + 1)).length = B + k + 1 := by rw [← unhide HT, List.length_append, hlen]; rfl
            have hfin := Vr.bytes hv (s.bs ++ ps.take (k + 1)) (w1 := w2) (v' := .slice a2 (B + k + 1) d2) (by rw [hl2, ← unhide HT]; exact ho2) hk2 hat2 (by rw [hl2]; omega)
            have HFIN := hide hfin
            have HKP := hide hkp
            have HFT := hide hft
            have hw7 : IntKind.i64.wrap ((k : Int) + 1) = (k : Int) + 1 := by rw [IntKind.wrap_i64]; omega
            have hm63 : n ≤ 9223372036854775807 := by omega
            have hBk : B + k + 1 ≤ 70368744177664 := by omega
            clear hap ho2 hk2 hat2 hlen hown hbk hb2 hl2 hfin hv hkp hft HR hi hWd c0 c1 c2 c3 f3
            go_upto_region 8 with fail
            go_region_law (first | (refine step_append_runE (by rfl) _ _ 25 25 (by rfl) _ _ (by rfl) (by rfl) (unhide HAP) ?_) | (refine step_append_runE (by rfl) _ _ 25 25 (by rfl) _ _ (by rfl) (by rfl) (unhide HAP2) ?_))
            all_goals
              clear e0 e1 e2 e3 cx HAP HAP2 hcA g1 f1
              go_wp2
              obtain ⟨q1, q2, q3⟩ := unhide HFIN
              refine ⟨⟨k + 1, a2, d2, by omega, by go_num, hide ⟨q1, (unhide HKP).trans q2 (fun x hx => unhide HFT x hx), fun x hx => ?_⟩⟩, by simp [intOf]; omega⟩
              rcases q3 x hx with h4 | h4
              · exact unhide HFT x h4
              · right; have := (unhide HKP).size; omega
          · obtain rfl : k = n := by omega
            clear hv hkp hft c0 c1 c2 c3 f3
            go_wp2
            go_end0
            obtain ⟨hv, hkp, hft⟩ := unhide HR
            have e : ps.take k = ps := List.take_of_length_le (by rw [unhide HN]; exact Nat.le_refl _)
            rw [e] at hv
            rw [unhide HWL]
            refine ⟨rfl, foot c (.slice a (B + k) cap) sv, ⟨_, _, _, hv, rfl, rfl, fun _ => rfl⟩, ?_, fun x hx => ?_⟩
            · rw [unhide HB]; exact hkp
            · rw [unhide HB]; exact hft x hx
      · have HWL : Hid (wLay s ps = failWS 13) := by unfold Hid wLay; rw [if_neg (by omega), if_neg (by omega)]
        have t1 : ((R : Int) - (B : Int) < (n : Int)) = True := by simp; omega
        rw [hn]
        clear h h1 hp hf hB hR hn
        go_enter Try.func93, Try.ntmps93
        go_wp2_with (first | (go_at_call 102; refine (unhide HD).mono ?_; rintro e w1 ⟨rfl, rfl⟩))
        go_quiet (fail)
        go_wp2
        refine bodyPost_ret (results_none rfl _ _ _) rfl ?_
        obtain ⟨q1, q2⟩ := ((unhide HH).kept ((Kept.refl [] w).drewN _) (by simp)).fail 13 (by omega)
        rw [unhide HWL]
        exact ⟨rfl, VsP.err (by omega) q1 ((((Kept.refl [] w).drewN _).mono (by simp)).trans q2 (fun y hy => Or.inl hy))⟩
  · have HD := hide (h.dead hf)
    have HH := hide h
    have hr : (if ref then wFail s 2 else wLay s ps) = s := by
      cases ref
      · simp [wLay, hf]
      · simp [wFail, hf]
    rw [hr]
    obtain ⟨pa, pc, rfl⟩ := wide_len (hp.wide (Kept.refl _ _))
    clear hr h hf hp
    go_enter Try.func93, Try.ntmps93
    go_wp2_with (first | (go_at_call 102; refine (unhide HD).mono ?_; rintro e w1 ⟨rfl, rfl⟩))
    refine bodyPost_ret (results_none rfl _ _ _) rfl ?_
    exact ⟨rfl, VsP.same (unhide HH) (Kept.refl _ _)⟩
end Go.Proofs.Ytiabhgkndejigaa

namespace Go.Proofs.Ytiabhgkndejigaa
open Go.RowKit

/-- What is new lies apart. -/
theorem far_new {w w1 : World} {v : Value} {bs F : List Nat} (hF : ∀ x ∈ F, x < w.heap.size) (h : Sees w1 v bs) (hn : ∀ k, v.ownBlock = some k → w.heap.size ≤ k) : Far w1 v bs F :=
  Or.inl ⟨h, fun k hk hm => by have := hF k hm; have := hn k hk; omega⟩
theorem far_own {w w1 : World} {a : Option Addr} {n cap : Nat} {bs F : List Nat} (hF : ∀ x ∈ F, x < w.heap.size) (hn : bs.length = n) (h : w1.ownsRow w.heap.size 5 1 (.slice a n cap) n (u8s bs)) : Far w1 (.slice a n cap) bs F :=
  far_new hF (sees_own hn h) (fun k hk => (h.lt k hk).1)
theorem le_be8 (m : Nat) (h : m < 18446744073709551616) : (le m 8).reverse = be8 m := by
  simp only [le, be8]
  simp
  omega

set_option maxRecDepth 100000 in
set_option maxHeartbeats 1000000 in
theorem vbyte_s {w : World} {c : Nat} {F : List Nat} {s : WS} (h : Vs w c F s) (n : Int) (hl : s.bs.length ≤ 1000000000000) :
    Calls Try.prog 38 #[.pointer (some ⟨c, 0, none⟩), .int .i64 n] w fun e w' => e = .returned (.tuple #[]) ∧ VsP w c F (if n < 0 ∨ 255 < n then wFail s 2 else wLay s [n.toNat]) w' := by
  have HK : Hid (Kept [] w (w.alloc (.cells #[.int .u8 (IntKind.u8.wrap n)] 5))) := (Kept.refl [] w).alloc _
  have hu8 : IntKind.u8.wrap n = ((IntKind.u8.wrap n).toNat : Int) := by rw [IntKind.wrap_u8]; omega
  obtain ⟨y, hy⟩ : ∃ y : Nat, (IntKind.u8.wrap n).toNat = y := ⟨_, rfl⟩
  rw [hy] at hu8
  have hyn : ¬ (n < 0 ∨ 255 < n) → y = n.toNat := by rw [← hy, IntKind.wrap_u8]; omega
  rw [hu8] at HK
  have HV := hide (h.kept (unhide HK) (by simp))
  have HFAR : Hid (Far (w.alloc (.cells #[.int .u8 (y : Int)] 5)) (.slice (some ⟨w.heap.size, 0, none⟩) 1 1) [y] F) := far_new h.lt (news_one w y) (fun k hk => by have e0 : (some w.heap.size : Option Nat) = some k := hk; simp at e0; omega)
  have HBL : Hid (s.bs.length + [y].length ≤ 70368744177664) := by unfold Hid; simp; omega
  have HYN := hide hyn
  clear h hl hy hyn
  by_cases ha : n < 0 ∨ 255 < n
  · rw [if_pos ha]
    by_cases hs1 : n < 0
    · have b1 : decide (n < 0) = true := by simpa using hs1
      clear ha hs1
      go_enter Try.func38, Try.ntmps38
      go_wp2_with (first | (go_at_call 93; refine (vlay_any (unhide HV) true _ _ (unhide HFAR) (unhide HBL)).mono ?_; rintro e w2 ⟨rfl, hp⟩; have HP := hide hp; clear hp))
      go_end0
      exact ⟨rfl, (unhide HP).from (unhide HK)⟩
    · have b1 : decide (n < 0) = false := by simpa using hs1
      have b2 : decide (255 < n) = true := by simp; omega
      clear ha hs1
      go_enter Try.func38, Try.ntmps38
      go_wp2_with (first | (go_at_call 93; refine (vlay_any (unhide HV) true _ _ (unhide HFAR) (unhide HBL)).mono ?_; rintro e w2 ⟨rfl, hp⟩; have HP := hide hp; clear hp))
      go_end0
      exact ⟨rfl, (unhide HP).from (unhide HK)⟩
  · rw [if_neg ha, ← unhide HYN ha]
    have b1 : decide (n < 0) = false := by simp; omega
    have b2 : decide (255 < n) = false := by simp; omega
    clear ha
    go_enter Try.func38, Try.ntmps38
    go_wp2_with (first | (go_at_call 93; refine (vlay_any (unhide HV) false _ _ (unhide HFAR) (unhide HBL)).mono ?_; rintro e w2 ⟨rfl, hp⟩; have HP := hide hp; clear hp))
    go_end0
    exact ⟨rfl, (unhide HP).from (unhide HK)⟩

set_option maxRecDepth 100000 in
set_option maxHeartbeats 1000000 in
theorem vfixed_s {w : World} {c : Nat} {F : List Nat} {s : WS} (h : Vs w c F s) (n : Nat) (size : Int) (hn : n < 18446744073709551616) (hl : s.bs.length ≤ 1000000000000) :
    Calls Try.prog 40 #[.pointer (some ⟨c, 0, none⟩), .int .u64 n, .int .i64 size] w fun e w' => e = .returned (.tuple #[]) ∧ VsP w c F (if size < 1 ∨ 8 < size then wFail s 2 else wLay s (le n size.toNat)) w' := by
  by_cases ha : size < 1 ∨ 8 < size
  · rw [if_pos ha]
    have HV := hide h
    have HFAR : Hid (Far w (.slice none 0 0) [] F) := Or.inl ⟨Or.inl ⟨rfl, rfl⟩, fun k hk => by cases hk⟩
    have HBL : Hid (s.bs.length + ([] : List Nat).length ≤ 70368744177664) := by unfold Hid; simp; omega
    clear h hl hn
    by_cases hs1 : size < 1
    · have b1 : decide (size < 1) = true := by simpa using hs1
      clear ha hs1
      go_enter Try.func40, Try.ntmps40
      go_wp2_with (first | (go_at_call 93; refine (vlay_any (unhide HV) true _ _ (unhide HFAR) (unhide HBL)).mono ?_; rintro e w2 ⟨rfl, hp⟩; have HP := hide hp; clear hp))
      refine bodyPost_ret (results_none rfl _ _ _) rfl ?_
      exact ⟨rfl, unhide HP⟩
    · have b1 : decide (size < 1) = false := by simpa using hs1
      have b2 : decide (8 < size) = true := by simp; omega
      clear ha hs1
      go_enter Try.func40, Try.ntmps40
      go_wp2_with (first | (go_at_call 93; refine (vlay_any (unhide HV) true _ _ (unhide HFAR) (unhide HBL)).mono ?_; rintro e w2 ⟨rfl, hp⟩; have HP := hide hp; clear hp))
      refine bodyPost_ret (results_none rfl _ _ _) rfl ?_
      exact ⟨rfl, unhide HP⟩
  · rw [if_neg ha]
    obtain ⟨m, rfl⟩ := Int.eq_ofNat_of_zero_le (show 0 ≤ size by omega)
    have b1 : decide ((m : Int) < 1) = false := by simp; omega
    have b2 : decide (8 < (m : Int)) = false := by simp; omega
    have HC := hide (vdigits_any n m w hn (by omega))
    have HV := hide h
    have HLT := hide h.lt
    have HBL : Hid (s.bs.length + (le n m).length ≤ 70368744177664) := by unfold Hid; rw [le_len]; omega
    have HLE := hide (le_len n m)
    show Calls _ _ _ _ fun e w' => e = .returned (.tuple #[]) ∧ VsP w c F (wLay s (le n m)) w'
    clear h hl hn ha
    go_enter Try.func40, Try.ntmps40
    go_wp2_with (first | (go_at_call 96; refine (unhide HC).mono ?_; rintro e w1 ⟨a1, c1, rfl, ho, hk⟩; have HFAR := hide (far_own (unhide HLT) (unhide HLE) ho); have HV1 := hide ((unhide HV).kept hk (by simp)); have HK := hide hk; clear ho hk HC) | (go_at_call 93; refine (vlay_any (unhide HV1) false _ _ (unhide HFAR) (unhide HBL)).mono ?_; rintro e w2 ⟨rfl, hp⟩; have HP := hide hp; clear hp))
    go_end0
    exact ⟨rfl, (unhide HP).from (unhide HK)⟩

set_option maxRecDepth 100000 in
set_option maxHeartbeats 1000000 in
theorem vnum_s {w : World} {c : Nat} {F : List Nat} {s : WS} (h : Vs w c F s) (n : Nat) (hn : n < 18446744073709551616) (hl : s.bs.length ≤ 1000000000000) :
    Calls Try.prog 42 #[.pointer (some ⟨c, 0, none⟩), .int .u64 n] w fun e w' => e = .returned (.tuple #[]) ∧ VsP w c F (wLay s (form n)) w' := by
  have HC := hide (vform_any n w hn)
  have HV := hide h
  have HLT := hide h.lt
  have HBL : Hid (s.bs.length + (form n).length ≤ 70368744177664) := by unfold Hid; have := form_le10 n hn; omega
  clear h hl hn
  go_enter Try.func42, Try.ntmps42
  go_wp2_with (first | (go_at_call 98; refine (unhide HC).mono ?_; rintro e w1 ⟨a1, c1, rfl, ho, hk⟩; have HFAR := hide (far_own (unhide HLT) rfl ho); have HV1 := hide ((unhide HV).kept hk (by simp)); have HK := hide hk; clear ho hk HC) | (go_at_call 93; refine (vlay_any (unhide HV1) false _ _ (unhide HFAR) (unhide HBL)).mono ?_; rintro e w2 ⟨rfl, hp⟩; have HP := hide hp; clear hp))
  go_end0
  exact ⟨rfl, (unhide HP).from (unhide HK)⟩

set_option maxRecDepth 100000 in
set_option maxHeartbeats 1000000 in
theorem vint_s {w : World} {c : Nat} {F : List Nat} {s : WS} (h : Vs w c F s) (i : Int) (h1 : -9223372036854775808 ≤ i) (h2 : i ≤ 9223372036854775807) (hl : s.bs.length ≤ 1000000000000) :
    Calls Try.prog 44 #[.pointer (some ⟨c, 0, none⟩), .int .i64 i] w fun e w' => e = .returned (.tuple #[]) ∧ VsP w c F (wLay s (form (fold i))) w' := by
  have hn := fold_lt i h1 h2
  have HO := hide (vfold_any i w h1 h2)
  have HC := hide (vform_any (fold i) w hn)
  have HV := hide h
  have HLT := hide h.lt
  have HBL : Hid (s.bs.length + (form (fold i)).length ≤ 70368744177664) := by unfold Hid; have := form_le10 (fold i) hn; omega
  clear h hl hn h1 h2
  generalize fold i = fi at *
  go_enter Try.func44, Try.ntmps44
  go_wp2_with (first | (go_at_call 99; refine (unhide HO).mono ?_; rintro e w0 ⟨rfl, rfl⟩; clear HO) | (go_at_call 98; refine (unhide HC).mono ?_; rintro e w1 ⟨a1, c1, rfl, ho, hk⟩; have HFAR := hide (far_own (unhide HLT) rfl ho); have HV1 := hide ((unhide HV).kept hk (by simp)); have HK := hide hk; clear ho hk HC) | (go_at_call 93; refine (vlay_any (unhide HV1) false _ _ (unhide HFAR) (unhide HBL)).mono ?_; rintro e w2 ⟨rfl, hp⟩; have HP := hide hp; clear hp))
  go_end0
  exact ⟨rfl, (unhide HP).from (unhide HK)⟩

set_option maxRecDepth 100000 in
set_option maxHeartbeats 1000000 in
theorem vreal_s {w : World} {c : Nat} {F : List Nat} {s : WS} (h : Vs w c F s) (n : Nat) (hn : n < 18446744073709551616) (hl : s.bs.length ≤ 1000000000000) :
    Calls Try.prog 45 #[.pointer (some ⟨c, 0, none⟩), .int .u64 n] w fun e w' => e = .returned (.tuple #[]) ∧ VsP w c F (wLay s (be8 (canon n))) w' := by
  have hcn : canon n < 18446744073709551616 := by unfold canon oneNaN; split <;> omega
  have HO := hide (qclean_any n hn w)
  have HC := hide (vdigits_any (canon n) 8 w hcn (by omega))
  have HLB := hide (le_be8 (canon n) hcn)
  have HV := hide h
  have HLT := hide h.lt
  have HLE := hide (le_len (canon n) 8)
  generalize canon n = cn at *
  have HBL : Hid (s.bs.length + (be8 cn).length ≤ 70368744177664) := by unfold Hid; rw [show (be8 cn).length = 8 from rfl]; omega
  clear h hl hn hcn
  go_enter Try.func45, Try.ntmps45
  go_wp2_with (first | (go_at_call 101; refine (unhide HO).mono ?_; rintro e w0 ⟨rfl, rfl⟩; clear HO) | (go_at_call 96; refine (unhide HC).mono ?_; rintro e w1 ⟨a1, c1, rfl, ho, hk⟩; have HS1 := hide (sees_own (unhide HLE) ho); have HK := hide hk; clear ho hk HC) | (go_at_call 100; refine (qturned_any (unhide HS1) (by rw [unhide HLE]; omega)).mono ?_; rintro e w3 ⟨a3, c3, rfl, ho, hk⟩; rw [unhide HLB] at ho; rw [unhide HLE] at ho ⊢; have HK3 := hide ((unhide HK).trans hk (by simp)); have HFAR := hide (far_own (w := w) (unhide HLT) (show (be8 cn).length = 8 from rfl) (own_base ho (fun q hq => by have := (ho.lt q hq).1; have := (unhide HK).size; omega))); have HV1 := hide ((unhide HV).kept (unhide HK3) (by simp)); clear ho hk) | (go_at_call 93; refine (vlay_any (unhide HV1) false _ _ (unhide HFAR) (unhide HBL)).mono ?_; rintro e w2 ⟨rfl, hp⟩; have HP := hide hp; clear hp))
  go_end0
  exact ⟨rfl, (unhide HP).from (unhide HK3)⟩

set_option maxRecDepth 100000 in
set_option maxHeartbeats 1000000 in
theorem vraw_s {w : World} {c : Nat} {F : List Nat} {s : WS} (h : Vs w c F s) (pv : Value) (ps : List Nat) (hp : Far w pv ps F) (hl : s.bs.length + ps.length ≤ 70368744177664) :
    Calls Try.prog 46 #[.pointer (some ⟨c, 0, none⟩), pv] w fun e w' => e = .returned (.tuple #[]) ∧ VsP w c F (wLay s ps) w' := by
  have HC := hide (vlay_any h false pv ps hp hl)
  clear h hp hl
  go_enter Try.func46, Try.ntmps46
  go_wp2_with (first | (go_at_call 93; refine (unhide HC).mono ?_; rintro e w2 ⟨rfl, hp⟩; have HP := hide hp; clear hp HC))
  go_end0
  exact ⟨rfl, unhide HP⟩

set_option maxRecDepth 100000 in
set_option maxHeartbeats 1000000 in
theorem vtext_s {w : World} {c : Nat} {F : List Nat} {s : WS} (h : Vs w c F s) (pv : Value) (ps : List Nat) (hp : Far w pv ps F) (hl : s.bs.length + ps.length ≤ 35184372088832) :
    Calls Try.prog 48 #[.pointer (some ⟨c, 0, none⟩), pv] w fun e w' => e = .returned (.tuple #[]) ∧ VsP w c F (wLay s (form ps.length ++ ps)) w' := by
  obtain ⟨i0, hi, hz0, hz1, hz2⟩ := info_parts Try.info5
  have HI := hide (⟨hi, hz0, hz1, hz2⟩ : _ ∧ _ ∧ _ ∧ _)
  obtain ⟨pa, pc, rfl⟩ := wide_len (hp.wide (Kept.refl _ _))
  have HPF := hide hp
  obtain ⟨n, hn⟩ : ∃ n, ps.length = n := ⟨_, rfl⟩
  have HN := hide hn
  rw [hn] at hl HPF ⊢
  have hn64 : n < 18446744073709551616 := by omega
  have hf10 := form_le10 n hn64
  have HC := hide (vform_any n w hn64)
  have HV := hide h
  have HLT := hide h.lt
  obtain ⟨FL, hFL⟩ : ∃ FL, (form n).length = FL := ⟨_, rfl⟩
  have HFL := hide hFL
  rw [hFL] at HC hf10
  have HHL := hide hl
  have hn63 : n ≤ 9223372036854775807 := by omega
  have hwn : IntKind.u64.wrap (n : Int) = (n : Int) := by rw [IntKind.wrap_u64]; omega
  clear h hp hi hz0 hz1 hz2 hn hFL
  go_enter Try.func48, Try.ntmps48
  go_wp2_with (first | (go_at_call 98; refine (unhide HC).mono ?_; rintro e w1 ⟨a1, c1, rfl, ho, hk⟩; have HO := hide ho; have HK := hide hk; clear ho hk HC))
  go_loopw [4, 5] (fun v i wr => ∃ (k : Nat) (a : Option Addr) (cap : Nat), k ≤ n ∧ i = .int .i64 (k : Int) ∧ v = .slice a (FL + k) cap ∧ Hid (wr.ownsRow w.heap.size 5 1 (.slice a (FL + k) cap) (FL + k) (u8s (form n ++ ps.take k)) ∧ Kept [] w wr)) (fun _ i _ => n - (intOf i).toNat)
  case atStart => exact ⟨0, a1, c1, by omega, rfl, rfl, hide ⟨by simpa using unhide HO, unhide HK⟩⟩
  case round =>
    obtain ⟨k, a, cap, hk, rfl, rfl, HR⟩ := hrel
    by_cases hlt : k < n
    · have hi : k < ps.length := by rw [unhide HN]; exact hlt
      have hW := (unhide HPF).keep (unhide HR).2
      have hWd := hW.wide (Kept.refl _ _)
      obtain ⟨xb, xo, hpa, cx⟩ := hWd.at k hi
      subst hpa
      have hlen : (form n ++ ps.take k).length = FL + k := by rw [List.length_append, unhide HFL, List.length_take]; omega
      have HT : Hid ((form n ++ ps.take k) ++ [ps.getD k 0] = form n ++ ps.take (k + 1)) := by unfold Hid; rw [List.append_assoc, take_snoc ps k hi]
      generalize ps.getD k 0 = y at *
      have HLN := hide hlen
      have HO2 : Hid ((wr.alloc (.cells #[.int .u8 (y : Int)] 5)).ownsRow w.heap.size 5 1 (.slice a (FL + k) cap) (form n ++ ps.take k).length (u8s (form n ++ ps.take k))) := by unfold Hid; rw [hlen]; exact (unhide HR).1.alloc _
      have HS := hide (unhide HR).2.size
      have hFk : FL + k + 1 ≤ 35184372088843 := by omega
      clear hlen hi hW hWd
      go_wp2_with (at_builtin; refine wpList_append_sees _ rfl _ _ 25 rfl w.heap.size 5 i0 (.int .u8 0) Try.underlying25 (unhide HI).1 (unhide HI).2.1 (unhide HI).2.2.1 (unhide HI).2.2.2 rfl _ (form n ++ ps.take k) rfl (unhide HO2) _ [y] rfl (news_one _ _) ?c1 ?c2 ?_)
      case c1 => rw [unhide HLN]; simp; omega
      case c2 => have := unhide HS; simp; omega
      intro v' w2 hown1 hg hat
      have hl2 : ((form n ++ ps.take k) ++ [y]).length = FL + k + 1 := by rw [List.length_append, unhide HLN]; rfl
      have hown2 : w2.ownsRow w.heap.size 5 1 v' (FL + k + 1) (u8s (form n ++ ps.take k ++ [y])) := by rw [← hl2]; simpa using hown1
      obtain ⟨a2, d2, rfl⟩ := own_len hown2
      have HO1 := hide hown2
      have HG := hide hg
      clear hown1 hown2 hg hat hl2
      go_wp2
      refine ⟨⟨k + 1, a2, d2, by omega, by go_num, rfl, hide ⟨?_, ?_⟩⟩, by simp [intOf]; omega⟩
      · rw [← unhide HT]; exact unhide HO1
      · exact ((unhide HR).2.alloc _).grown (unhide HG) (fun q hq => Or.inr ((unhide HR).1.lt q hq).1)
    · obtain rfl : k = n := by omega
      have e : ps.take k = ps := List.take_of_length_le (by rw [unhide HN]; exact Nat.le_refl _)
      have hlen : (form k ++ ps).length = FL + k := by rw [List.length_append, unhide HFL, unhide HN]
      rw [e] at HR
      have HFAR := hide (far_own (unhide HLT) hlen (unhide HR).1)
      have HV1 := hide ((unhide HV).kept (unhide HR).2 (by simp))
      have HBL : Hid (s.bs.length + (form k ++ ps).length ≤ 70368744177664) := by unfold Hid; rw [hlen]; have := unhide HHL; omega
      clear e hlen
      go_wp2_with (first | (go_at_call 93; refine (vlay_any (unhide HV1) false _ _ (unhide HFAR) (unhide HBL)).mono ?_; rintro e w2 ⟨rfl, hp⟩; have HP := hide hp; clear hp))
      go_end0
      exact ⟨rfl, (unhide HP).from (unhide HR).2⟩

end Go.Proofs.Ytiabhgkndejigaa

namespace Go.Proofs.Ytiabhgkndejigaa
open Go.RowKit

set_option maxRecDepth 100000 in
set_option maxHeartbeats 1000000 in
theorem vopen_s {w : World} {c : Nat} {F : List Nat} {s : WS} (h : Vs w c F s) :
    Calls Try.prog 50 #[.pointer (some ⟨c, 0, none⟩)] w fun e w' => e = .returned (.tuple #[]) ∧ VsP w c F (wOpen s) w' := by
  by_cases hf : s.fault = 0
  · obtain ⟨v, sv, h1, rfl⟩ := h.open hf
    have HD := hide (vdead_no h1 hf)
    have HH := hide h1
    obtain ⟨c0, c1, c2, c3⟩ := blk4 h1.blk
    obtain ⟨sa, sc, rfl⟩ := own_len h1.sown
    obtain ⟨va, vc, rfl⟩ := own_len h1.own
    have hst := h1.bsts
    have hbb := h1.bbs
    have f3 := h1.blk.frozen 3
    by_cases h16 : s.sts.length = 16
    · have hr : wOpen s = failWS 11 := by unfold wOpen; rw [if_neg (by omega), if_pos h16]
      rw [hr]
      rw [h16] at c2
      clear h h1 hr hf h16 hst hbb
      go_enter Try.func50, Try.ntmps50
      go_wp2_with (first | (go_at_call 102; refine (unhide HD).mono ?_; rintro e w1 ⟨rfl, rfl⟩))
      refine bodyPost_ret (results_none rfl _ _ _) rfl ?_
      obtain ⟨q1, q2⟩ := (unhide HH).fail 11 (by omega)
      exact ⟨rfl, VsP.err (by omega) q1 q2⟩
    · have hr : wOpen s = { s with sts := s.sts ++ [s.bs.length] } := by unfold wOpen; rw [if_neg (by omega), if_neg h16]
      rw [hr]
      obtain ⟨EL, hEL⟩ : ∃ EL, s.sts.length = EL := ⟨_, rfl⟩
      obtain ⟨B, hB⟩ : ∃ B, s.bs.length = B := ⟨_, rfl⟩
      have HEL := hide hEL
      have HB := hide hB
      obtain ⟨a2, cp2, w3, hap, ho3, hk3, hat3⟩ := app_int h1.sown rfl B (by omega) 22
      rw [hEL] at c2 hap ho3 hst h16
      rw [hB] at c1 hbb
      have HAP := hide hap
      have HAP2 : Hid ((Builtin.append_ #[22, 22] 22 #[.slice sa EL sc, .slice (some ⟨w.heap.size, 0, none⟩) 1 1]).run Try.prog (w.drew.alloc (.cells #[.int .i64 (B : Int)] 3)) = .ok (.slice a2 (EL + 1) cp2) w3) := hap
      have hb3 := h1.blk.kept hk3 (fun hm => h1.n2 (Option.mem_toList.1 hm))
      have g2 : w3.cell? ⟨c, 2, none⟩ = some (.slice sa EL sc) := by rw [← hEL]; exact (blk4 hb3).2.2.1
      have g1 : w3.cell? ⟨c, 1, none⟩ = some (.slice va B vc) := by rw [← hB]; exact (blk4 hb3).2.1
      have f2' := hb3.frozen 2
      have hcA : (w.alloc (.cells #[.int .i64 (B : Int)] 3)).cell? ⟨c, 2, none⟩ = some (.slice sa EL sc) := by rw [← hEL]; exact (blk4 (h1.blk.alloc _)).2.2.1
      have HO3 := hide ho3
      have HK3 := hide hk3
      have HAT3 : Hid ((Value.slice a2 (EL + 1) cp2).ownBlock = (Value.slice sa s.sts.length sc).ownBlock ∨ ∀ q, (Value.slice a2 (EL + 1) cp2).ownBlock = some q → w.heap.size ≤ q) := by unfold Hid; rw [← unhide HEL]; exact hat3
      have t1 : ((16 : Int) ≤ (EL : Int)) = False := by simp; omega
      have HF0 := hide hf
      have hEL16 : EL ≤ 15 := by omega
      clear h h1 hr hf h16 hap ho3 hk3 hat3 hb3 hEL hB
      go_enter Try.func50, Try.ntmps50
      go_upto_region 3 with (first | (go_at_call 102; refine (unhide HD).mono ?_; rintro e w1 ⟨rfl, rfl⟩))
      go_region_law (first | (refine step_append_runE (by rfl) _ _ 22 22 (by rfl) _ _ (by rfl) (by rfl) (unhide HAP) ?_) | (refine step_append_runE (by rfl) _ _ 22 22 (by rfl) _ _ (by rfl) (by rfl) (unhide HAP2) ?_))
      all_goals
        go_wp2
        go_end0
        have hl1 : (s.sts ++ [s.bs.length]).length = EL + 1 := by simp [unhide HEL]
        obtain ⟨q1, q2, q3⟩ := (unhide HH).starts (sv' := .slice a2 (EL + 1) cp2) (s.sts ++ [s.bs.length]) (by rw [hl1, unhide HB]; exact unhide HO3) (unhide HK3) (unhide HAT3) (by rw [hl1]; omega)
        exact ⟨rfl, foot c (.slice va s.bs.length vc) (.slice a2 (EL + 1) cp2), ⟨_, _, _, q1, rfl, rfl, fun _ => rfl⟩, q2, q3⟩
  · have HD := hide (h.dead hf)
    have HH := hide h
    have hr : wOpen s = s := by unfold wOpen; rw [if_pos hf]
    rw [hr]
    clear hr h hf
    go_enter Try.func50, Try.ntmps50
    go_wp2_with (first | (go_at_call 102; refine (unhide HD).mono ?_; rintro e w1 ⟨rfl, rfl⟩))
    refine bodyPost_ret (results_none rfl _ _ _) rfl ?_
    exact ⟨rfl, VsP.same (unhide HH) (Kept.refl _ _)⟩

/-- What a writer tells. -/
def wLen (s : WS) : Nat := if s.fault ≠ 0 then 0 else s.bs.length
def wDone (s : WS) : List Nat × Nat := if s.fault ≠ 0 then ([], s.fault) else if s.sts ≠ [] then ([], 12) else (s.bs, 0)

set_option maxRecDepth 100000 in
set_option maxHeartbeats 400000 in
theorem vlen_s {w : World} {c : Nat} {F : List Nat} {s : WS} (h : Vs w c F s) :
    Calls Try.prog 54 #[.pointer (some ⟨c, 0, none⟩)] w fun e w' => e = .returned (.int .i64 (wLen s : Nat)) ∧ w = w' := by
  by_cases hf : s.fault = 0
  · obtain ⟨v, sv, h1, rfl⟩ := h.open hf
    have HD := hide (vdead_no h1 hf)
    obtain ⟨c0, c1, c2, c3⟩ := blk4 h1.blk
    obtain ⟨va, vc, rfl⟩ := own_len h1.own
    have hr : wLen s = s.bs.length := by unfold wLen; rw [if_neg (by omega)]
    rw [hr]
    clear h h1 hf hr
    go_enter Try.func54, Try.ntmps54
    go_wp2_with (first | (go_at_call 102; refine (unhide HD).mono ?_; rintro e w1 ⟨rfl, rfl⟩))
    go_ret
    exact ⟨rfl, rfl⟩
  · have HD := hide (h.dead hf)
    have hr : wLen s = 0 := by unfold wLen; rw [if_pos hf]
    rw [hr]
    clear hr h hf
    go_enter Try.func54, Try.ntmps54
    go_wp2_with (first | (go_at_call 102; refine (unhide HD).mono ?_; rintro e w1 ⟨rfl, rfl⟩))
    go_ret
    exact ⟨rfl, rfl⟩

/-- Bytes and an error that a call answers: new memory. -/
def NewD (w : World) (r : List Nat × Nat) (e : Ending) (w' : World) : Prop := ∃ a cap, e = .returned (.tuple #[.slice a r.1.length cap, .int .i64 (r.2 : Int)]) ∧ w'.ownsRow w.heap.size 5 1 (.slice a r.1.length cap) r.1.length (u8s r.1)
theorem NewD.nil (w w' : World) (c : Nat) : NewD w ([], c) (.returned (.tuple #[.slice none 0 0, .int .i64 (c : Int)])) w' := ⟨none, 0, rfl, rfl, Or.inl ⟨rfl, rfl⟩⟩

set_option maxRecDepth 100000 in
set_option maxHeartbeats 1000000 in
theorem vdone_s {w : World} {c : Nat} {F : List Nat} {s : WS} (h : Vs w c F s) :
    Calls Try.prog 55 #[.pointer (some ⟨c, 0, none⟩)] w fun e w' => NewD w (wDone s) e w' ∧ Kept [] w w' := by
  by_cases hf : s.fault = 0
  · obtain ⟨v, sv, h1, rfl⟩ := h.open hf
    have HH := hide h1
    obtain ⟨c0, c1, c2, c3⟩ := blk4 h1.blk
    obtain ⟨sa, sc, rfl⟩ := own_len h1.sown
    obtain ⟨va, vc, rfl⟩ := own_len h1.own
    rw [hf] at c3
    have hst := h1.bsts
    by_cases hz : s.sts = []
    · have hr : wDone s = (s.bs, 0) := by unfold wDone; rw [if_neg (by omega), if_neg (by simpa using hz)]
      rw [hr]
      have hz0 : s.sts.length = 0 := by rw [hz]; rfl
      rw [hz0] at c2
      obtain ⟨i0, hi, hz0', hz1, hz2⟩ := info_parts Try.info5
      have HI := hide (⟨hi, hz0', hz1, hz2⟩ : _ ∧ _ ∧ _ ∧ _)
      obtain ⟨B, hB⟩ : ∃ B, s.bs.length = B := ⟨_, rfl⟩
      have HB := hide hB
      have hbb := h1.bbs
      rw [hB] at c1 hbb
      have HSEE := hide (Sees.of_own h1.own)
      clear h h1 hf hr hz hz0 hst hi hz0' hz1 hz2 hB
      go_enter Try.func55, Try.ntmps55
      go_wp2
      go_loopw [4, 5] (fun v i wr => ∃ (k : Nat) (a : Option Addr) (cap : Nat), k ≤ B ∧ i = .int .i64 (k : Int) ∧ v = .slice a k cap ∧ Hid (wr.ownsRow w.heap.size 5 1 (.slice a k cap) k (u8s (s.bs.take k)) ∧ Kept [] w wr)) (fun _ i _ => B - (intOf i).toNat)
      case atStart => exact ⟨0, none, 0, by omega, rfl, rfl, hide ⟨World.ownsRow_nil _ _ _ _, Kept.refl _ _⟩⟩
      case round =>
        obtain ⟨k, a, cap, hk, rfl, rfl, HR⟩ := hrel
        obtain ⟨e0, e1, e2, e3⟩ := blk4 ((unhide HH).kept (unhide HR).2 (by simp)).blk
        rw [unhide HB] at e1
        by_cases hlt : k < B
        · have hik : k < s.bs.length := by rw [unhide HB]; exact hlt
          obtain ⟨xb, xo, xc, hv, hx1, hx2, cx⟩ := ((unhide HSEE).kept (unhide HR).2 (by simp)).spot hik
          rw [unhide HB] at hv hx1
          cases hv
          have hlen : (s.bs.take k).length = k := by rw [List.length_take]; omega
          have HT := hide (take_snoc s.bs k hik)
          generalize s.bs.getD k 0 = y at *
          have HLN := hide hlen
          have HO2 : Hid ((wr.alloc (.cells #[.int .u8 (y : Int)] 5)).ownsRow w.heap.size 5 1 (.slice a k cap) (s.bs.take k).length (u8s (s.bs.take k))) := by unfold Hid; rw [hlen]; exact (unhide HR).1.alloc _
          have HS := hide (unhide HR).2.size
          have hB63 : B ≤ 9223372036854775807 := by omega
          clear hlen hik hx1 hx2 c0 c1 c2 c3
          go_wp2_with (at_builtin; refine wpList_append_sees _ rfl _ _ 25 rfl w.heap.size 5 i0 (.int .u8 0) Try.underlying25 (unhide HI).1 (unhide HI).2.1 (unhide HI).2.2.1 (unhide HI).2.2.2 rfl _ (s.bs.take k) rfl (unhide HO2) _ [y] rfl (news_one _ _) ?c1 ?c2 ?_)
          case c1 => rw [unhide HLN]; simp; omega
          case c2 => have := unhide HS; simp; omega
          intro v' w2 hown1 hg hat
          have hl2 : (s.bs.take k ++ [y]).length = k + 1 := by rw [List.length_append, unhide HLN]; rfl
          have hown2 : w2.ownsRow w.heap.size 5 1 v' (k + 1) (u8s (s.bs.take k ++ [y])) := by
            have h3 := hown1
            rw [← hl2]
            first | exact h3 | simpa using h3
          obtain ⟨a2, d2, rfl⟩ := own_len hown2
          have HO1 := hide hown2
          have HG := hide hg
          clear hown1 hown2 hg hat hl2
          go_wp2
          refine ⟨⟨k + 1, a2, d2, by omega, by go_num, rfl, hide ⟨?_, ?_⟩⟩, by simp [intOf]; omega⟩
          · rw [← unhide HT]; exact unhide HO1
          · exact ((unhide HR).2.alloc _).grown (unhide HG) (fun q hq => Or.inr ((unhide HR).1.lt q hq).1)
        · obtain rfl : k = B := by omega
          clear c0 c1 c2 c3
          go_wp2
          go_ret2
          have e : s.bs.take k = s.bs := List.take_of_length_le (by rw [unhide HB]; exact Nat.le_refl _)
          have ho := (unhide HR).1
          rw [e] at ho
          refine ⟨⟨a, cap, ?_, ?_⟩, (unhide HR).2⟩
          · simp only [unhide HB]; rfl
          · simp only [unhide HB]; exact ho
    · have hr : wDone s = ([], 12) := by unfold wDone; rw [if_neg (by omega), if_pos (by simpa using hz)]
      rw [hr]
      have hp := List.length_pos_iff.2 hz
      obtain ⟨EL, hEL⟩ : ∃ EL, s.sts.length = EL := ⟨_, rfl⟩
      rw [hEL] at c2 hp
      have t1 : ((0 : Int) < (EL : Int)) = True := by simp; omega
      clear h h1 hf hr hz hst hEL
      go_enter Try.func55, Try.ntmps55
      go_wp2
      go_ret2
      exact ⟨NewD.nil _ _ _, Kept.refl _ _⟩
  · obtain ⟨s0, v, sv, h1, rfl, h3, _⟩ := h
    have hr : wDone s = ([], s.fault) := by unfold wDone; rw [if_pos hf]
    rw [hr]
    obtain ⟨c0, c1, c2, c3⟩ := blk4 h1.blk
    rw [h3] at c3
    have t1 : ((s.fault : Int) != 0) = true := by rw [bne_iff_ne]; omega
    generalize s.fault = fa at *
    clear hr hf h1 h3
    go_enter Try.func55, Try.ntmps55
    go_wp2
    go_region
    all_goals (go_wp2; go_ret2; exact ⟨NewD.nil _ _ _, ((Kept.refl [] w).drew)⟩)

set_option maxRecDepth 100000 in
set_option maxHeartbeats 400000 in
theorem vnew_any (room : Int) (w : World) (hr : room ≤ 9223372036854775807) :
    Calls Try.prog 10 #[.int .i64 room] w fun e w' => ∃ c, e = .returned (.pointer (some ⟨c, 0, none⟩)) ∧ Vs w' c [c] (newWS room.toNat) ∧ w.heap.size ≤ c ∧ Kept [] w w' := by
  have fin : ∀ R : Nat, R < 9223372036854775808 → Vs (w.alloc (.cells #[.int .i64 (R : Int), .slice none 0 0, .slice none 0 0, .int .i64 0] 79)) w.heap.size [w.heap.size] (newWS R) := by
    intro R hR
    refine ⟨newWS R, .slice none 0 0, .slice none 0 0, ⟨?_, World.ownsRow_nil _ _ _ _, World.ownsRow_nil _ _ _ _, ?_, ?_, ?_, hR, by simp [newWS], by simp [newWS], by simp [newWS]⟩, rfl, rfl, fun _ => rfl⟩
    · exact Blk.new w _ _
    · intro e; cases e
    · intro e; cases e
    · intro k e; cases e
  have HF := hide fin
  clear fin
  by_cases h0 : room < 0
  · have t1 : (room < 0) = True := by simpa using h0
    have e : room.toNat = 0 := by omega
    rw [e]
    clear h0 hr
    go_enter Try.func10, Try.ntmps10
    go_wp2
    go_ret
    exact ⟨w.heap.size, rfl, unhide HF 0 (by omega), Nat.le_refl _, (Kept.refl [] w).alloc _⟩
  · obtain ⟨R, rfl⟩ := Int.eq_ofNat_of_zero_le (show 0 ≤ room by omega)
    have t1 : ((R : Int) < 0) = False := by simp
    show Calls _ _ _ _ fun e w' => ∃ c, e = .returned (.pointer (some ⟨c, 0, none⟩)) ∧ Vs w' c [c] (newWS R) ∧ w.heap.size ≤ c ∧ Kept [] w w'
    have hR9 : R < 9223372036854775808 := by omega
    clear h0 hr
    go_enter Try.func10, Try.ntmps10
    go_wp2
    go_ret
    exact ⟨w.heap.size, rfl, unhide HF R hR9, Nat.le_refl _, (Kept.refl [] w).alloc _⟩
end Go.Proofs.Ytiabhgkndejigaa

namespace Go.Proofs.Ytiabhgkndejigaa
open Go.RowKit

set_option maxRecDepth 100000 in
set_option maxHeartbeats 4000000 in
theorem vclose_s {w : World} {c : Nat} {F : List Nat} {s : WS} (h : Vs w c F s) (hst : ∀ x ∈ s.sts, x ≤ s.bs.length) (hl : s.bs.length ≤ 1000000000000) :
    Calls Try.prog 52 #[.pointer (some ⟨c, 0, none⟩)] w fun e w' => e = .returned (.tuple #[]) ∧ VsP w c F (wClose s) w' := by
  by_cases hf : s.fault = 0
  · obtain ⟨v, sv, h1, rfl⟩ := h.open hf
    have HD := hide (vdead_no h1 hf)
    have HH := hide h1
    obtain ⟨c0, c1, c2, c3⟩ := blk4 h1.blk
    obtain ⟨sa, sc, rfl⟩ := own_len h1.sown
    obtain ⟨va, vc, rfl⟩ := own_len h1.own
    have hsl := h1.bsts
    have hrm := h1.broom
    have f3 := h1.blk.frozen 3
    cases hg : s.sts.getLast? with
    | none =>
      have hz : s.sts = [] := by simpa using hg
      have hr : wClose s = failWS 2 := by unfold wClose; rw [if_neg (by omega), hg]
      rw [hr]
      have hz0 : s.sts.length = 0 := by rw [hz]; rfl
      rw [hz0] at c2
      clear h h1 hr hf hg hz hz0 hst hl hsl hrm
      go_enter Try.func52, Try.ntmps52
      go_wp2_with (first | (go_at_call 102; refine (unhide HD).mono ?_; rintro e w1 ⟨rfl, rfl⟩))
      refine bodyPost_ret (results_none rfl _ _ _) rfl ?_
      obtain ⟨q1, q2⟩ := (unhide HH).fail 2 (by omega)
      exact ⟨rfl, VsP.err (by omega) q1 q2⟩
    | some st =>
      have hne : s.sts ≠ [] := fun e => by rw [e] at hg; cases hg
      have hp := List.length_pos_iff.2 hne
      have hsti : s.sts[s.sts.length - 1]? = some st := by rw [← List.getLast?_eq_getElem?]; exact hg
      have hstb : st ≤ s.bs.length := hst st (List.mem_of_getElem? hsti)
      obtain ⟨B, hB⟩ : ∃ B, s.bs.length = B := ⟨_, rfl⟩
      obtain ⟨EL, hEL⟩ : ∃ EL, s.sts.length = EL := ⟨_, rfl⟩
      obtain ⟨R, hR⟩ : ∃ R, s.room = R := ⟨_, rfl⟩
      obtain ⟨m, hm⟩ : ∃ m, EL = m + 1 := ⟨EL - 1, by omega⟩
      have HB := hide hB
      have HEL := hide hEL
      have HR := hide hR
      have hsx : ∃ g, sa = some ⟨g, 0, none⟩ ∧ w.cell? ⟨g, m, none⟩ = some (.int .i64 (st : Int)) ∧ EL ≤ sc ∧ sc ≤ 9223372036854775807 := by
        rcases h1.sown.2 with ⟨e1, e2⟩ | ⟨g, cap', cur, e1, _, _, q1, q2, _⟩
        · omega
        · have := h1.sown.cells (g := g) (by rw [e1]; rfl) m (.int .i64 (st : Int)) (by simp [i64s, show m = s.sts.length - 1 by omega, hsti])
          have hadd : (⟨g, 0, none⟩ : Addr).add m = ⟨g, m, none⟩ := by unfold Addr.add; split <;> simp_all
          rw [hadd] at this
          simp only [Value.slice.injEq] at e1
          obtain ⟨e1, e2, e3⟩ := e1
          subst e1 e3
          unfold maxLen at q2
          exact ⟨g, rfl, this, by omega, by omega⟩
      obtain ⟨sg, rfl, cs, hsc1, hsc2⟩ := hsx
      rw [hB] at c1 hstb hl
      rw [hEL] at c2 hsl hp
      rw [hR] at c0 hrm
      have hn64 : B - st < 18446744073709551616 := by omega
      have hf10 := form_le10 (B - st) hn64
      have HC := fun W => hide (vform_any (B - st) W hn64)
      obtain ⟨FL, hFL⟩ : ∃ FL, (form (B - st)).length = FL := ⟨_, rfl⟩
      have HFL := hide hFL
      rw [hFL] at HC hf10
      have hw1 : IntKind.i64.wrap ((EL : Int) - 1) = (m : Int) := by rw [IntKind.wrap_i64]; omega
      have hw2 : IntKind.i64.wrap ((B : Int) - (st : Int)) = ((B - st : Nat) : Int) := by rw [IntKind.wrap_i64]; omega
      have hw3 : IntKind.u64.wrap (((B - st : Nat) : Int)) = ((B - st : Nat) : Int) := by rw [IntKind.wrap_u64]; omega
      have hw6 : IntKind.u64.wrap ((B : Int) - (st : Int)) = ((B - st : Nat) : Int) := by rw [IntKind.wrap_u64]; omega
      have b1 : ((EL : Int) == 0) = false := by rw [beq_eq_false_iff_ne]; omega
      have hmE : m < EL := by omega
      have hmE2 : m ≤ EL := by omega
      have HM := hide hm
      have HST := hide hsti
      have HF0 := hide hf
      have HNE := hide hne
      have HG := hide hg
      clear h h1 hst hsti hm hB hEL hR hFL hne hg hf
      go_enter Try.func52, Try.ntmps52
      go_upto_region 3 with (first | (go_at_call 102; refine (unhide HD).mono ?_; rintro e w1 ⟨rfl, rfl⟩))
      go_quiet (fail)
      go_upto_region 5 with (first | (go_at_call 98; refine (unhide (HC _)).mono ?_; rintro e w1 ⟨a1, cp1, rfl, ho, hk⟩; have HO := hide ho; have HK := hide hk; clear ho hk HC))
      have HK0 : Hid (Kept [] w w1) := ((Kept.refl [] w).drewN _).trans (unhide HK) (by simp)
      have HV1 := hide ((unhide HH).kept (unhide HK0) (by simp))
      obtain ⟨e0, e1, e2, e3⟩ := blk4 (unhide HV1).blk
      have f2 := (unhide HV1).blk.frozen 2
      have g3 := (unhide HV1).blk.frozen 3
      rw [unhide HR] at e0
      rw [unhide HB] at e1
      rw [unhide HEL] at e2
      have hw4 : IntKind.i64.wrap ((B : Int) + (FL : Int)) = ((B : Int) + (FL : Int)) := by rw [IntKind.wrap_i64]; omega
      clear c0 c1 c2 c3 cs f3 HD
      by_cases hroom : B + FL ≤ R
      · have HWC : Hid (wClose s = { s with bs := s.bs.take st ++ form (B - st) ++ s.bs.drop st, sts := s.sts.dropLast }) := by
          unfold Hid wClose; rw [if_neg (by rw [unhide HF0]; simp), unhide HG]; simp only; rw [if_pos (by rw [unhide HB, unhide HFL, unhide HR]; exact hroom), unhide HB]
        have t1 : ((R : Int) < (B : Int) + (FL : Int)) = False := by simp; omega
        go_quiet (fail)
        go_upto_region 7 with fail
        go_region
        all_goals
          have hot := own_take (k := m) (unhide HV1).sown (by rw [unhide HEL]; omega)
          have hdl : s.sts.dropLast.length = m := by rw [List.length_dropLast, unhide HEL, unhide HM]; rfl
          have hte : (i64s s.sts).take m = i64s s.sts.dropLast := by
            rw [List.dropLast_eq_take, unhide HEL, unhide HM]
            simp [i64s, List.map_take]
          have h7 := (unhide HV1).starts (sv' := .slice (some ⟨sg, 0, none⟩) m sc) s.sts.dropLast (by rw [hdl, ← hte]; exact hot) (Kept.refl _ _) (Or.inl rfl) (by rw [hdl]; omega)
          have HO7 : Hid ((w1.setCell ⟨c, 2, none⟩ (.slice (some ⟨sg, 0, none⟩) m sc)).ownsRow w.heap.size 5 1 (.slice a1 FL cp1) FL (u8s (form (B - st)))) := own_kept (F := [c]) (unhide HO) ((Kept.refl _ _).setCell (Or.inl (by simp)) _) (fun q hq => by have h1 := ((unhide HO).lt q hq).1; have h2 := (unhide HH).blk.lt; simp at h1; simp; omega)
          have H7 := hide h7
          clear hot hdl hte h7 e0 e1 e2 e3 f2 g3
          refine world_at (R := fun W => Hid (Vr W c { s with sts := s.sts.dropLast } (.slice va s.bs.length vc) (.slice (some ⟨sg, 0, none⟩) m sc) ∧ Kept (foot c (.slice va s.bs.length vc) (.slice (some ⟨sg, 0, none⟩) s.sts.length sc)) w W ∧ W.ownsRow w.heap.size 5 1 (.slice a1 FL cp1) FL (u8s (form (B - st))))) ?_ ?_
          · refine hide ⟨(unhide H7).1.kept ((Kept.refl [] _).drewN _) (by simp), ((((unhide HK0).mono (by simp)).trans (unhide H7).2.1 (fun x hx => Or.inl hx)).drewN _), own_kept (unhide HO7) ((Kept.refl [] _).drewN _) (by simp)⟩
          clear H7 HO7 HO
          intro W7 HV7
          obtain ⟨i0, hi, hz0, hz1, hz2⟩ := info_parts Try.info5
          have HI := hide (⟨hi, hz0, hz1, hz2⟩ : _ ∧ _ ∧ _ ∧ _)
          have HSB := hide (Sees.of_own (unhide HV7).1.own)
          have HSF := hide (sees_own (unhide HFL) (unhide HV7).2.2)
          have HCB : Hid (∀ W, Kept [] W7 W → W.cell? ⟨c, 1, none⟩ = some (.slice va B vc)) := fun W hW => by rw [← unhide HB]; exact (blk4 ((unhide HV7).1.blk.kept hW (by simp))).2.1
          clear hi hz0 hz1 hz2 hw1 hw2 hw3 hw6 hw4 t1 b1
          go_wp2
          go_loopw [4, 5] (fun v i wr => ∃ (k : Nat) (a : Option Addr) (cap : Nat), k ≤ st ∧ i = .int .i64 (k : Int) ∧ v = .slice a k cap ∧ Hid (wr.ownsRow W7.heap.size 5 1 (.slice a k cap) k (u8s (s.bs.take k)) ∧ Kept [] W7 wr)) (fun _ i _ => st - (intOf i).toNat)
          case atStart => exact ⟨0, none, 0, by omega, rfl, rfl, hide ⟨World.ownsRow_nil _ _ _ _, Kept.refl _ _⟩⟩
          case round =>
            obtain ⟨k, a, cap, hk, rfl, rfl, HL⟩ := hrel
            have e1 := unhide HCB wr (unhide HL).2
            by_cases hlt : k < st
            · have hik : k < s.bs.length := by rw [unhide HB]; omega
              obtain ⟨xb, xo, xc, hv, hx1, hx2, cx⟩ := ((unhide HSB).kept (unhide HL).2 (by simp)).spot hik
              rw [unhide HB] at hv hx1
              cases hv
              have hlen : (s.bs.take k).length = k := by rw [List.length_take]; omega
              have HT := hide (take_snoc s.bs k hik)
              generalize s.bs.getD k 0 = y at *
              have HLN := hide hlen
              have HO2 : Hid ((wr.alloc (.cells #[.int .u8 (y : Int)] 5)).ownsRow W7.heap.size 5 1 (.slice a k cap) (s.bs.take k).length (u8s (s.bs.take k))) := by unfold Hid; rw [hlen]; exact (unhide HL).1.alloc _
              have HS := hide (unhide HL).2.size
              have hB63 : B ≤ 9223372036854775807 := by omega
              have hkB : k < B := by omega
              clear hlen hik hx1 hx2
              go_wp2_with (at_builtin; refine wpList_append_sees _ rfl _ _ 25 rfl W7.heap.size 5 i0 (.int .u8 0) Try.underlying25 (unhide HI).1 (unhide HI).2.1 (unhide HI).2.2.1 (unhide HI).2.2.2 rfl _ (s.bs.take k) rfl (unhide HO2) _ [y] rfl (news_one _ _) ?c1 ?c2 ?_)
              case c1 => rw [unhide HLN]; simp; omega
              case c2 => have := unhide HS; simp; omega
              intro v' w2 hown1 hg hat
              have hl2 : (s.bs.take k ++ [y]).length = k + 1 := by rw [List.length_append, unhide HLN]; rfl
              have hown2 : w2.ownsRow W7.heap.size 5 1 v' (k + 1) (u8s (s.bs.take k ++ [y])) := by
                have h3 := hown1
                rw [← hl2]
                first | exact h3 | simpa using h3
              obtain ⟨a2, d2, rfl⟩ := own_len hown2
              have HO1 := hide hown2
              have HGR := hide hg
              clear hown1 hown2 hg hat hl2
              go_wp2
              refine ⟨⟨k + 1, a2, d2, by omega, by go_num, rfl, hide ⟨?_, ?_⟩⟩, by simp [intOf]; omega⟩
              · rw [← unhide HT]; exact unhide HO1
              · exact ((unhide HL).2.alloc _).grown (unhide HGR) (fun q hq => Or.inr ((unhide HL).1.lt q hq).1)
            · obtain rfl : k = st := by omega
              have htk : (s.bs.take k).length = k := by rw [List.length_take, unhide HB]; omega
              have HTK := hide htk
              clear htk
              go_wp2
              go_loopw [4, 6] (fun v i wr => ∃ (j : Nat) (a : Option Addr) (cap : Nat), j ≤ FL ∧ i = .int .i64 (j : Int) ∧ v = .slice a (k + j) cap ∧ Hid (wr.ownsRow W7.heap.size 5 1 (.slice a (k + j) cap) (k + j) (u8s (s.bs.take k ++ (form (B - k)).take j)) ∧ Kept [] W7 wr)) (fun _ i _ => FL - (intOf i).toNat)
              case atStart => exact ⟨0, a, cap, by omega, rfl, rfl, hide ⟨by simpa using (unhide HL).1, (unhide HL).2⟩⟩
              case round =>
                obtain ⟨j, a, cap, hj, rfl, rfl, HL⟩ := hrel
                by_cases hlt2 : j < FL
                · have hik : j < (form (B - k)).length := by rw [unhide HFL]; exact hlt2
                  obtain ⟨xb, xo, xc, hv, hx1, hx2, cx⟩ := ((unhide HSF).kept (unhide HL).2 (by simp)).spot hik
                  rw [unhide HFL] at hv hx1
                  cases hv
                  have hlen : (s.bs.take k ++ (form (B - k)).take j).length = k + j := by rw [List.length_append, unhide HTK, List.length_take]; omega
                  have HT : Hid ((s.bs.take k ++ (form (B - k)).take j) ++ [(form (B - k)).getD j 0] = s.bs.take k ++ (form (B - k)).take (j + 1)) := by unfold Hid; rw [List.append_assoc, take_snoc _ j hik]
                  generalize (form (B - k)).getD j 0 = y at *
                  have HLN := hide hlen
                  have HO2 : Hid ((wr.alloc (.cells #[.int .u8 (y : Int)] 5)).ownsRow W7.heap.size 5 1 (.slice a (k + j) cap) (s.bs.take k ++ (form (B - k)).take j).length (u8s (s.bs.take k ++ (form (B - k)).take j))) := by unfold Hid; rw [hlen]; exact (unhide HL).1.alloc _
                  have HS := hide (unhide HL).2.size
                  have hkj : k + j + 1 ≤ 1000000000012 := by omega
                  clear hlen hik hx1 hx2
                  go_wp2_with (at_builtin; refine wpList_append_sees _ rfl _ _ 25 rfl W7.heap.size 5 i0 (.int .u8 0) Try.underlying25 (unhide HI).1 (unhide HI).2.1 (unhide HI).2.2.1 (unhide HI).2.2.2 rfl _ (s.bs.take k ++ (form (B - k)).take j) rfl (unhide HO2) _ [y] rfl (news_one _ _) ?c1 ?c2 ?_)
                  case c1 => rw [unhide HLN]; simp; omega
                  case c2 => have := unhide HS; simp; omega
                  intro v' w2 hown1 hg hat
                  have hl2 : ((s.bs.take k ++ (form (B - k)).take j) ++ [y]).length = k + j + 1 := by rw [List.length_append, unhide HLN]; rfl
                  have hown2 : w2.ownsRow W7.heap.size 5 1 v' (k + j + 1) (u8s ((s.bs.take k ++ (form (B - k)).take j) ++ [y])) := by
                    have h3 := hown1
                    rw [← hl2]
                    first | exact h3 | simpa using h3
                  obtain ⟨a2, d2, rfl⟩ := own_len hown2
                  have HO1 := hide hown2
                  have HGR := hide hg
                  clear hown1 hown2 hg hat hl2
                  go_wp2
                  refine ⟨⟨j + 1, a2, d2, by omega, by go_num, rfl, hide ⟨?_, ?_⟩⟩, by simp [intOf]; omega⟩
                  · rw [← unhide HT]; exact unhide HO1
                  · exact ((unhide HL).2.alloc _).grown (unhide HGR) (fun q hq => Or.inr ((unhide HL).1.lt q hq).1)
                · obtain rfl : j = FL := by omega
                  have hft : (form (B - k)).take j = form (B - k) := List.take_of_length_le (by rw [unhide HFL]; exact Nat.le_refl _)
                  rw [hft] at HL
                  clear hft
                  go_wp2
                  go_loopw [4, 7] (fun v i wr => ∃ (q : Nat) (a : Option Addr) (cap : Nat), k + q ≤ B ∧ i = .int .i64 ((k + q : Nat) : Int) ∧ v = .slice a (k + j + q) cap ∧ Hid (wr.ownsRow W7.heap.size 5 1 (.slice a (k + j + q) cap) (k + j + q) (u8s (s.bs.take k ++ form (B - k) ++ (s.bs.drop k).take q)) ∧ Kept [] W7 wr)) (fun _ i _ => B - (intOf i).toNat)
                  case atStart => exact ⟨0, a, cap, by omega, by simp, rfl, hide ⟨by simpa using (unhide HL).1, (unhide HL).2⟩⟩
                  case round =>
                    obtain ⟨q, a, cap, hq, rfl, rfl, HL⟩ := hrel
                    have e1 := unhide HCB wr (unhide HL).2
                    obtain ⟨P, hP⟩ : ∃ P, k + q = P := ⟨_, rfl⟩
                    have HP := hide hP
                    rw [hP] at hq ⊢
                    by_cases hlt3 : P < B
                    · have hik : P < s.bs.length := by rw [unhide HB]; exact hlt3
                      obtain ⟨xb, xo, xc, hv, hx1, hx2, cx⟩ := ((unhide HSB).kept (unhide HL).2 (by simp)).spot hik
                      rw [unhide HB] at hv hx1
                      cases hv
                      have hlen : (s.bs.take k ++ form (B - k) ++ (s.bs.drop k).take q).length = k + j + q := by rw [List.length_append, List.length_append, unhide HTK, unhide HFL, List.length_take, List.length_drop, unhide HB]; omega
                      have HT : Hid ((s.bs.take k ++ form (B - k) ++ (s.bs.drop k).take q) ++ [s.bs.getD P 0] = s.bs.take k ++ form (B - k) ++ (s.bs.drop k).take (q + 1)) := by unfold Hid; rw [List.append_assoc, ← hP, take_next s.bs k q (by rw [unhide HP]; exact hik)]
                      generalize s.bs.getD P 0 = y at *
                      have HLN := hide hlen
                      have HO2 : Hid ((wr.alloc (.cells #[.int .u8 (y : Int)] 5)).ownsRow W7.heap.size 5 1 (.slice a (k + j + q) cap) (s.bs.take k ++ form (B - k) ++ (s.bs.drop k).take q).length (u8s (s.bs.take k ++ form (B - k) ++ (s.bs.drop k).take q))) := by unfold Hid; rw [hlen]; exact (unhide HL).1.alloc _
                      have HS := hide (unhide HL).2.size
                      have hB63 : B ≤ 9223372036854775807 := by omega
                      have hkj : k + j + q + 1 ≤ 1000000000012 := by omega
                      have hw7 : IntKind.i64.wrap ((P : Int) + 1) = (P : Int) + 1 := by rw [IntKind.wrap_i64]; omega
                      clear hlen hik hx1 hx2 hP
                      go_wp2_with (at_builtin; refine wpList_append_sees _ rfl _ _ 25 rfl W7.heap.size 5 i0 (.int .u8 0) Try.underlying25 (unhide HI).1 (unhide HI).2.1 (unhide HI).2.2.1 (unhide HI).2.2.2 rfl _ (s.bs.take k ++ form (B - k) ++ (s.bs.drop k).take q) rfl (unhide HO2) _ [y] rfl (news_one _ _) ?c1 ?c2 ?_)
                      case c1 => rw [unhide HLN]; simp; omega
                      case c2 => have := unhide HS; simp; omega
                      intro v' w2 hown1 hg hat
                      have hl2 : ((s.bs.take k ++ form (B - k) ++ (s.bs.drop k).take q) ++ [y]).length = k + j + (q + 1) := by rw [List.length_append, unhide HLN]; simp; omega
                      have hown2 : w2.ownsRow W7.heap.size 5 1 v' (k + j + (q + 1)) (u8s ((s.bs.take k ++ form (B - k) ++ (s.bs.drop k).take q) ++ [y])) := by
                        have h3 := hown1
                        rw [← hl2]
                        first | exact h3 | simpa using h3
                      obtain ⟨a2, d2, rfl⟩ := own_len hown2
                      have HO1 := hide hown2
                      have HGR := hide hg
                      clear hown1 hown2 hg hat hl2
                      go_wp2
                      refine ⟨⟨q + 1, a2, d2, by have := unhide HP; omega, by have := unhide HP; congr 1; push_cast; omega, rfl, hide ⟨?_, ?_⟩⟩, by simp [intOf]; omega⟩
                      · rw [← unhide HT]; exact unhide HO1
                      · exact ((unhide HL).2.alloc _).grown (unhide HGR) (fun q hq => Or.inr ((unhide HL).1.lt q hq).1)
                    · obtain rfl : P = B := by omega
                      have f1 := ((unhide HV7).1.blk.kept (unhide HL).2 (by simp)).frozen 1
                      go_wp2
                      go_end0
                      have hql : q = (s.bs.drop k).length := by rw [List.length_drop, unhide HB]; have := unhide HP; omega
                      have htq : (s.bs.drop k).take q = s.bs.drop k := List.take_of_length_le (by omega)
                      have ho := (unhide HL).1
                      rw [htq] at ho
                      have hbl : (s.bs.take k ++ form (P - k) ++ s.bs.drop k).length = k + j + q := by rw [List.length_append, List.length_append, unhide HTK, unhide HFL, ← hql]
                      obtain ⟨q1, q2, q3⟩ := (unhide HV7).1.bytes (s.bs.take k ++ form (P - k) ++ s.bs.drop k) (w1 := wr) (v' := .slice a (k + j + q) cap) (by rw [hbl]; exact own_base ho (fun _ _ => Nat.zero_le _)) ((unhide HL).2.mono (by simp)) (Or.inr (fun x hx => (ho.lt x hx).1)) (by rw [hbl]; have := unhide HP; omega)
                      rw [unhide HWC]
                      refine ⟨rfl, foot c (.slice a (k + j + q) cap) (.slice (some ⟨sg, 0, none⟩) m sc), ⟨_, _, _, q1, rfl, rfl, fun _ => rfl⟩, (unhide HV7).2.1.trans q2 (fun x hx => Or.inl hx), fun x hx => ?_⟩
                      rcases q3 x hx with h4 | h4
                      · exact Or.inl h4
                      · right; have := (unhide HV7).2.1.size; omega
      · have HWC : Hid (wClose s = failWS 13) := by
          unfold Hid wClose; rw [if_neg (by rw [unhide HF0]; simp), unhide HG]; simp only; rw [if_neg (by rw [unhide HB, unhide HFL, unhide HR]; exact hroom)]
        have t1 : ((R : Int) < (B : Int) + (FL : Int)) = True := by simp; omega
        go_quiet (fail)
        go_wp2
        refine bodyPost_ret (results_none rfl _ _ _) rfl ?_
        obtain ⟨q1, q2⟩ := ((unhide HV1).kept ((Kept.refl [] w1).drewN _) (by simp)).fail 13 (by omega)
        rw [unhide HWC]
        exact ⟨rfl, VsP.err (by omega) q1 ((((unhide HK0).drewN _).mono (by simp)).trans q2 (fun y hy => Or.inl hy))⟩
  · have HD := hide (h.dead hf)
    have HH := hide h
    have hr : wClose s = s := by unfold wClose; rw [if_pos hf]
    rw [hr]
    clear hr h hf hst hl
    go_enter Try.func52, Try.ntmps52
    go_wp2_with (first | (go_at_call 102; refine (unhide HD).mono ?_; rintro e w1 ⟨rfl, rfl⟩))
    refine bodyPost_ret (results_none rfl _ _ _) rfl ?_
    exact ⟨rfl, VsP.same (unhide HH) (Kept.refl _ _)⟩
end Go.Proofs.Ytiabhgkndejigaa

namespace Go.Proofs.Ytiabhgkndejigaa
open Go.RowKit

set_option maxRecDepth 100000 in
set_option maxHeartbeats 400000 in
theorem fails_nil (w : World) : Calls Try.prog 81 #[.pointer none] w fun e w' => e = .returned (.bool true) ∧ w = w' := by
  go_enter Try.func81, Try.ntmps81
  go_wp2
  go_ret
  exact ⟨rfl, rfl⟩
set_option maxRecDepth 100000 in
set_option maxHeartbeats 400000 in
theorem fail_nil (w : World) (c : Int) : Calls Try.prog 94 #[.pointer none, .int .i64 c] w fun e w' => e = .returned (.tuple #[]) ∧ w = w' := by
  have HF := hide (fails_nil w)
  go_enter Try.func94, Try.ntmps94
  go_wp2_with (first | (go_at_call 81; refine (unhide HF).mono ?_; rintro e w' ⟨rfl, rfl⟩))
  go_end0
  exact ⟨rfl, rfl⟩
set_option maxRecDepth 100000 in
set_option maxHeartbeats 400000 in
theorem lay_nil (w : World) (pv : Value) : Calls Try.prog 78 #[.pointer none, pv] w fun e w' => e = .returned (.tuple #[]) ∧ w = w' := by
  have HF := hide (fails_nil w)
  go_enter Try.func78, Try.ntmps78
  go_wp2_with (first | (go_at_call 81; refine (unhide HF).mono ?_; rintro e w' ⟨rfl, rfl⟩))
  refine bodyPost_ret (results_none rfl _ _ _) rfl ?_
  exact ⟨rfl, rfl⟩

set_option maxRecDepth 100000 in
set_option maxHeartbeats 400000 in
theorem wbyte_nil (w : World) (n : Int) : Calls Try.prog 39 #[.pointer none, .int .i64 n] w fun e w' => e = .returned (.tuple #[]) ∧ Kept [] w w' := by
  by_cases hn : n < 0
  · go_enter Try.func39, Try.ntmps39
    go_wp2_with (first | (go_at_call 94; refine (fail_nil _ _).mono ?_; rintro e w2 ⟨rfl, rfl⟩))
    refine bodyPost_ret (results_none rfl _ _ _) rfl ?_
    exact ⟨rfl, Kept.refl _ _⟩
  · by_cases hn2 : 255 < n
    · have h0 : ¬ n < 0 := by omega
      go_enter Try.func39, Try.ntmps39
      go_wp2_with (first | (go_at_call 94; refine (fail_nil _ _).mono ?_; rintro e w2 ⟨rfl, rfl⟩))
      refine bodyPost_ret (results_none rfl _ _ _) rfl ?_
      exact ⟨rfl, Kept.refl _ _⟩
    · obtain ⟨m, rfl⟩ := Int.eq_ofNat_of_zero_le (show 0 ≤ n by omega)
      have hmod : (m : Int) % 256 = (m : Int) := by omega
      have hm : m < 256 := by omega
      have h0 : ¬ ((m : Int) < 0) := by omega
      have h1 : ¬ (255 < (m : Int)) := by omega
      clear hn hn2
      go_enter Try.func39, Try.ntmps39
      go_wp2_with fail
      refine (layu8 (bs := []) (World.ownsRow_nil _ w.heap.size _ _) (Nat.le_refl _) (by simp) m hm).mono ?_
      rintro e w1 ⟨a1, c1, rfl, h1, k1⟩
      have K1 : Hid (Kept [] w w1) := k1.mono (by simp [Value.ownBlock])
      clear h1 k1
      go_wp2_with (first | (go_at_call 78; refine (lay_nil _ _).mono ?_; rintro e w2 ⟨rfl, rfl⟩))
      go_end0
      exact ⟨rfl, (unhide K1).alloc _⟩

set_option maxRecDepth 100000 in
set_option maxHeartbeats 400000 in
theorem wfixed_nil (w : World) (n : Nat) (hn : n < 18446744073709551616) (size : Int) : Calls Try.prog 41 #[.pointer none, .int .u64 n, .int .i64 size] w fun e w' => e = .returned (.tuple #[]) ∧ Kept [] w w' := by
  by_cases h1 : size < 1
  · go_enter Try.func41, Try.ntmps41
    go_wp2_with (first | (go_at_call 94; refine (fail_nil _ _).mono ?_; rintro e w2 ⟨rfl, rfl⟩))
    refine bodyPost_ret (results_none rfl _ _ _) rfl ?_
    exact ⟨rfl, Kept.refl _ _⟩
  · by_cases h8 : 8 < size
    · have h0 : ¬ size < 1 := by omega
      go_enter Try.func41, Try.ntmps41
      go_wp2_with (first | (go_at_call 94; refine (fail_nil _ _).mono ?_; rintro e w2 ⟨rfl, rfl⟩))
      refine bodyPost_ret (results_none rfl _ _ _) rfl ?_
      exact ⟨rfl, Kept.refl _ _⟩
    · obtain ⟨m, rfl⟩ := Int.eq_ofNat_of_zero_le (show 0 ≤ size by omega)
      have b1 : ¬ ((m : Int) < 1) := by omega
      have b2 : ¬ (8 < (m : Int)) := by omega
      have HC := hide (layFixed_any n m hn (by omega) (by omega) w)
      clear h1 h8
      go_enter Try.func41, Try.ntmps41
      go_wp2_with fail
      refine (unhide HC).mono ?_
      rintro e w1 ⟨a1, c1, rfl, h1, k1⟩
      have K1 := hide k1
      clear h1 k1 HC
      go_wp2_with (first | (go_at_call 78; refine (lay_nil _ _).mono ?_; rintro e w2 ⟨rfl, rfl⟩))
      go_end0
      exact ⟨rfl, (unhide K1).alloc _⟩

set_option maxRecDepth 100000 in
set_option maxHeartbeats 400000 in
theorem wnum_nil (w : World) (n : Nat) (hn : n < 18446744073709551616) : Calls Try.prog 43 #[.pointer none, .int .u64 n] w fun e w' => e = .returned (.tuple #[]) ∧ Kept [] w w' := by
  go_enter Try.func43, Try.ntmps43
  go_wp2_with (first | (go_at_call 79; refine (form_any' n _ hn).mono ?_; rintro e w1 ⟨fa, fc, rfl, hfo, hk1⟩) | (go_at_call 78; refine (lay_nil _ _).mono ?_; rintro e w2 ⟨rfl, rfl⟩))
  go_end0
  exact ⟨rfl, hk1.alloc _⟩
set_option maxRecDepth 100000 in
set_option maxHeartbeats 400000 in
theorem wint_nil (w : World) (i : Int) (h1 : -9223372036854775808 ≤ i) (h2 : i ≤ 9223372036854775807) : Calls Try.prog 26 #[.pointer none, .int .i64 i] w fun e w' => e = .returned (.tuple #[]) ∧ Kept [] w w' := by
  have hn := fold_lt i h1 h2
  go_enter Try.func26, Try.ntmps26
  go_wp2_with (first | (go_at_call 80; refine (fold_any i _ h1 h2).mono ?_; rintro e w1 ⟨rfl, rfl⟩) | (go_at_call 79; refine (form_any' _ _ hn).mono ?_; rintro e w1 ⟨fa, fc, rfl, hfo, hk1⟩) | (go_at_call 78; refine (lay_nil _ _).mono ?_; rintro e w2 ⟨rfl, rfl⟩))
  go_end0
  exact ⟨rfl, hk1.alloc _⟩
set_option maxRecDepth 100000 in
set_option maxHeartbeats 1000000 in
theorem wreal_nil (w : World) (n : Nat) (hn : n < 18446744073709551616) : Calls Try.prog 30 #[.pointer none, .float .f64 n] w fun e w' => e = .returned (.tuple #[]) ∧ Kept [] w w' := by
  obtain ⟨x0, x1, x2, x3, x4, x5, x6, x7, hx⟩ : ∃ x0 x1 x2 x3 x4 x5 x6 x7, be8 (canon n) = [x0, x1, x2, x3, x4, x5, x6, x7] := ⟨_, _, _, _, _, _, _, _, rfl⟩
  have HX := hide hx
  clear hx
  go_enter Try.func30, Try.ntmps30
  go_wp2_with fail
  refine (bytesOf_any n hn x0 x1 x2 x3 x4 x5 x6 x7 (unhide HX) _).mono ?_
  rintro e w1 ⟨rfl, hk1⟩
  have HK1 := hide hk1
  clear hk1
  go_wp2_with (first | (go_at_call 78; refine (lay_nil _ _).mono ?_; rintro e w2 ⟨rfl, rfl⟩))
  go_end0
  exact ⟨rfl, ((unhide HK1).alloc _).alloc _⟩
set_option maxRecDepth 100000 in
set_option maxHeartbeats 400000 in
theorem wraw_nil (w : World) (a : Option Addr) (n cap : Nat) : Calls Try.prog 47 #[.pointer none, .slice a n cap] w fun e w' => e = .returned (.tuple #[]) ∧ Kept [] w w' := by
  go_enter Try.func47, Try.ntmps47
  go_wp2_with (first | (go_at_call 78; refine (lay_nil _ _).mono ?_; rintro e w2 ⟨rfl, rfl⟩))
  go_end0
  exact ⟨rfl, (Kept.refl [] w).alloc _⟩
set_option maxRecDepth 100000 in
set_option maxHeartbeats 400000 in
theorem wtext_nil (w : World) (a : Option Addr) (n cap : Nat) (hn : n < 9223372036854775808) : Calls Try.prog 49 #[.pointer none, .slice a n cap] w fun e w' => e = .returned (.tuple #[]) ∧ Kept [] w w' := by
  have hwn : IntKind.u64.wrap (n : Int) = (n : Int) := by rw [IntKind.wrap_u64]; omega
  go_enter Try.func49, Try.ntmps49
  go_wp2_with (first | (go_at_call 79; refine (form_any' n _ (by omega)).mono ?_; rintro e w1 ⟨fa, fc, rfl, hfo, hk1⟩) | (go_at_call 78; refine (lay_nil _ _).mono ?_; rintro e w2 ⟨rfl, rfl⟩))
  go_end0
  exact ⟨rfl, hk1.alloc _⟩
set_option maxRecDepth 100000 in
set_option maxHeartbeats 400000 in
theorem wopen_nil (w : World) : Calls Try.prog 51 #[.pointer none] w fun e w' => e = .returned (.tuple #[]) ∧ Kept [] w w' := by
  have HF := hide (fails_nil w)
  go_enter Try.func51, Try.ntmps51
  go_wp2_with (first | (go_at_call 81; refine (unhide HF).mono ?_; rintro e w' ⟨rfl, rfl⟩))
  refine bodyPost_ret (results_none rfl _ _ _) rfl ?_
  exact ⟨rfl, Kept.refl _ _⟩
set_option maxRecDepth 100000 in
set_option maxHeartbeats 400000 in
theorem wclose_nil (w : World) : Calls Try.prog 53 #[.pointer none] w fun e w' => e = .returned (.tuple #[]) ∧ Kept [] w w' := by
  have HF := hide (fails_nil w)
  go_enter Try.func53, Try.ntmps53
  go_wp2_with (first | (go_at_call 81; refine (unhide HF).mono ?_; rintro e w' ⟨rfl, rfl⟩))
  refine bodyPost_ret (results_none rfl _ _ _) rfl ?_
  exact ⟨rfl, Kept.refl _ _⟩
set_option maxRecDepth 100000 in
set_option maxHeartbeats 400000 in
theorem wlen_nil (w : World) : Calls Try.prog 27 #[.pointer none] w fun e w' => e = .returned (.int .i64 0) ∧ w = w' := by
  have HF := hide (fails_nil w)
  go_enter Try.func27, Try.ntmps27
  go_wp2_with (first | (go_at_call 81; refine (unhide HF).mono ?_; rintro e w' ⟨rfl, rfl⟩))
  go_ret
  exact ⟨rfl, rfl⟩
set_option maxRecDepth 100000 in
set_option maxHeartbeats 400000 in
theorem wdone_nil (w : World) : Calls Try.prog 13 #[.pointer none] w fun e w' => e = .returned (.tuple #[.slice none 0 0, .int .i64 1]) ∧ w = w' := by
  go_enter Try.func13, Try.ntmps13
  go_wp2
  go_ret2
  exact ⟨rfl, rfl⟩
set_option maxRecDepth 100000 in
set_option maxHeartbeats 400000 in
theorem wdone_rest {w : World} {b : Nat} {s : WS} {v sv : Value} (h : Wr w b s v sv) (hf : s.fault = 0) (hs : s.sts ≠ []) :
    Calls Try.prog 13 #[.pointer (some ⟨b, 0, none⟩)] w fun e w' => e = .returned (.tuple #[.slice none 0 0, .int .i64 12]) ∧ Kept [] w w' := by
  obtain ⟨c0, c1, c2, c3⟩ := blk4 h.blk
  obtain ⟨sa, sc, rfl⟩ := own_len h.sown
  have hp := List.length_pos_iff.2 hs
  obtain ⟨EL, hEL⟩ : ∃ EL, s.sts.length = EL := ⟨_, rfl⟩
  rw [hEL] at c2 hp
  rw [hf] at c3
  have t1 : ((0 : Int) < (EL : Int)) = True := by simp; omega
  clear h hf hs hEL
  go_enter Try.func13, Try.ntmps13
  go_wp2
  go_ret2
  exact ⟨rfl, Kept.refl _ _⟩
set_option maxRecDepth 100000 in
set_option maxHeartbeats 400000 in
theorem new_neg (room : Int) (w : World) (hr : room < 0) :
    Calls Try.prog 9 #[.int .i64 room] w fun e w' => ∃ b, e = .returned (.pointer (some ⟨b, 0, none⟩)) ∧ Ws w' b [b] (newWS 0) ∧ w.heap.size ≤ b ∧ Kept [] w w' := by
  have hmx : max room 0 = 0 := by omega
  have HB := hide (Blk.new w #[.int .i64 0, .slice none 0 0, .slice none 0 0, .int .i64 0] 77)
  clear hr
  go_enter Try.func9, Try.ntmps9
  go_wp2
  go_ret
  refine ⟨w.heap.size, rfl, ⟨nilS, nilS, ⟨?_, World.ownsRow_nil _ _ _ _, World.ownsRow_nil _ _ _ _, ?_, ?_, ?_, by simp [newWS], by simp [newWS], by simp [newWS], by simp [newWS]⟩, rfl⟩, Nat.le_refl _, (Kept.refl [] w).alloc _⟩
  · first | exact unhide HB | (rw [hmx]; exact unhide HB)
  · intro e; cases e
  · intro e; cases e
  · intro k e; cases e
end Go.Proofs.Ytiabhgkndejigaa

namespace Go.Proofs.Ytiabhgkndejigaa
open Go.RowKit

/-- A writer (none at all is as one with the fault 1). -/
def Wh (w : World) (o : Option Nat) (F : List Nat) (s : WS) : Prop := match o with
  | some b => Ws w b F s
  | none => F = [] ∧ s = failWS 1
def Vh (w : World) (o : Option Nat) (F : List Nat) (s : WS) : Prop := match o with
  | some b => Vs w b F s
  | none => F = [] ∧ s = failWS 1
def WhP (w : World) (o : Option Nat) (F : List Nat) (s' : WS) (w' : World) : Prop := ∃ F', Wh w' o F' s' ∧ Kept F w w' ∧ ∀ x ∈ F', x ∈ F ∨ w.heap.size ≤ x
def VhP (w : World) (o : Option Nat) (F : List Nat) (s' : WS) (w' : World) : Prop := ∃ F', Vh w' o F' s' ∧ Kept F w w' ∧ ∀ x ∈ F', x ∈ F ∨ w.heap.size ≤ x
theorem Wh.lt {w : World} {o : Option Nat} {F : List Nat} {s : WS} (h : Wh w o F s) : ∀ x ∈ F, x < w.heap.size := by
  cases o with
  | none => obtain ⟨rfl, _⟩ := h; simp
  | some b => exact Ws.lt h
theorem Vh.lt {w : World} {o : Option Nat} {F : List Nat} {s : WS} (h : Vh w o F s) : ∀ x ∈ F, x < w.heap.size := by
  cases o with
  | none => obtain ⟨rfl, _⟩ := h; simp
  | some b => exact Vs.lt h
theorem Wh.kept {G : List Nat} {w w' : World} {o : Option Nat} {F : List Nat} {s : WS} (h : Wh w o F s) (k : Kept G w w') (hF : ∀ x ∈ F, x ∉ G) : Wh w' o F s := by
  cases o with
  | none => exact h
  | some b => exact Ws.kept h k hF
theorem Vh.kept {G : List Nat} {w w' : World} {o : Option Nat} {F : List Nat} {s : WS} (h : Vh w o F s) (k : Kept G w w') (hF : ∀ x ∈ F, x ∉ G) : Vh w' o F s := by
  cases o with
  | none => exact h
  | some b => exact Vs.kept h k hF
theorem WhP.none {w w' : World} (k : Kept [] w w') : WhP w none [] (failWS 1) w' := ⟨[], ⟨rfl, rfl⟩, k, by simp⟩
theorem VhP.none {w w' : World} (k : Kept [] w w') : VhP w none [] (failWS 1) w' := ⟨[], ⟨rfl, rfl⟩, k, by simp⟩


theorem wbyte_h {w : World} {o : Option Nat} {F : List Nat} {s : WS} (h : Wh w o F s) (n : Int) (hl : s.bs.length ≤ 1000000000000) :
    Calls Try.prog 39 #[pt o, .int .i64 n] w fun e w' => e = .returned (.tuple #[]) ∧ WhP w o F (if n < 0 ∨ 255 < n then wFail s 2 else wLay s [n.toNat]) w' := by
  cases o with
  | some b =>
    obtain ⟨v, sv, h1, rfl⟩ := h
    by_cases ha : n < 0 ∨ 255 < n
    · rw [if_pos ha]
      refine (wbyte_out h1 n ha).mono ?_
      rintro e w' ⟨rfl, hp⟩
      exact ⟨rfl, WsP.of hp⟩
    · rw [if_neg ha]
      obtain ⟨m, rfl⟩ := Int.eq_ofNat_of_zero_le (show 0 ≤ n by omega)
      refine (wbyte_in h1 m (by omega) hl).mono ?_
      rintro e w' ⟨rfl, hp⟩
      exact ⟨rfl, WsP.of hp⟩
  | none =>
    obtain ⟨rfl, rfl⟩ := h
    refine (wbyte_nil w n).mono ?_
    rintro e w' ⟨rfl, hk⟩
    exact ⟨rfl, by simpa [wLay, wFail, wOpen, wClose, failWS] using WhP.none hk⟩
theorem wfixed_h {w : World} {o : Option Nat} {F : List Nat} {s : WS} (h : Wh w o F s) (n : Nat) (size : Int) (hn : n < 18446744073709551616) (hl : s.bs.length ≤ 1000000000000) :
    Calls Try.prog 41 #[pt o, .int .u64 n, .int .i64 size] w fun e w' => e = .returned (.tuple #[]) ∧ WhP w o F (if size < 1 ∨ 8 < size then wFail s 2 else wLay s (le n size.toNat)) w' := by
  cases o with
  | some b =>
    obtain ⟨v, sv, h1, rfl⟩ := h
    by_cases ha : size < 1 ∨ 8 < size
    · rw [if_pos ha]
      refine (wfixed_out h1 n size ha).mono ?_
      rintro e w' ⟨rfl, hp⟩
      exact ⟨rfl, WsP.of hp⟩
    · rw [if_neg ha]
      obtain ⟨m, rfl⟩ := Int.eq_ofNat_of_zero_le (show 0 ≤ size by omega)
      refine (wfixed_in h1 n m hn (by omega) (by omega) hl).mono ?_
      rintro e w' ⟨rfl, hp⟩
      exact ⟨rfl, WsP.of hp⟩
  | none =>
    obtain ⟨rfl, rfl⟩ := h
    refine (wfixed_nil w n hn size).mono ?_
    rintro e w' ⟨rfl, hk⟩
    exact ⟨rfl, by simpa [wLay, wFail, wOpen, wClose, failWS] using WhP.none hk⟩
theorem wnum_h {w : World} {o : Option Nat} {F : List Nat} {s : WS} (h : Wh w o F s) (n : Nat) (hn : n < 18446744073709551616) (hl : s.bs.length ≤ 1000000000000) :
    Calls Try.prog 43 #[pt o, .int .u64 n] w fun e w' => e = .returned (.tuple #[]) ∧ WhP w o F (wLay s (form n)) w' := by
  cases o with
  | some b =>
    obtain ⟨v, sv, h1, rfl⟩ := h
    refine (wnum_any h1 n hn hl).mono ?_
    rintro e w' ⟨rfl, hp⟩
    exact ⟨rfl, WsP.of hp⟩
  | none =>
    obtain ⟨rfl, rfl⟩ := h
    refine (wnum_nil w n hn).mono ?_
    rintro e w' ⟨rfl, hk⟩
    exact ⟨rfl, by simpa [wLay, wFail, wOpen, wClose, failWS] using WhP.none hk⟩
theorem wint_h {w : World} {o : Option Nat} {F : List Nat} {s : WS} (h : Wh w o F s) (i : Int) (g1 : -9223372036854775808 ≤ i) (g2 : i ≤ 9223372036854775807) (hl : s.bs.length ≤ 1000000000000) :
    Calls Try.prog 26 #[pt o, .int .i64 i] w fun e w' => e = .returned (.tuple #[]) ∧ WhP w o F (wLay s (form (fold i))) w' := by
  cases o with
  | some b =>
    obtain ⟨v, sv, h1, rfl⟩ := h
    refine (wint_any h1 i g1 g2 hl).mono ?_
    rintro e w' ⟨rfl, hp⟩
    exact ⟨rfl, WsP.of hp⟩
  | none =>
    obtain ⟨rfl, rfl⟩ := h
    refine (wint_nil w i g1 g2).mono ?_
    rintro e w' ⟨rfl, hk⟩
    exact ⟨rfl, by simpa [wLay, wFail, wOpen, wClose, failWS] using WhP.none hk⟩
theorem wreal_h {w : World} {o : Option Nat} {F : List Nat} {s : WS} (h : Wh w o F s) (n : Nat) (hn : n < 18446744073709551616) (hl : s.bs.length ≤ 1000000000000) :
    Calls Try.prog 30 #[pt o, .float .f64 n] w fun e w' => e = .returned (.tuple #[]) ∧ WhP w o F (wLay s (be8 (canon n))) w' := by
  cases o with
  | some b =>
    obtain ⟨v, sv, h1, rfl⟩ := h
    refine (wreal_any h1 n hn hl).mono ?_
    rintro e w' ⟨rfl, hp⟩
    exact ⟨rfl, WsP.of hp⟩
  | none =>
    obtain ⟨rfl, rfl⟩ := h
    refine (wreal_nil w n hn).mono ?_
    rintro e w' ⟨rfl, hk⟩
    exact ⟨rfl, by simpa [wLay, wFail, wOpen, wClose, failWS] using WhP.none hk⟩
theorem wraw_h {w : World} {o : Option Nat} {F : List Nat} {s : WS} (h : Wh w o F s) (pa : Option Addr) (n pc : Nat) (ps : List Nat) (hp : Far w (.slice pa n pc) ps F) (hl : s.bs.length + ps.length ≤ 35184372088832) :
    Calls Try.prog 47 #[pt o, .slice pa n pc] w fun e w' => e = .returned (.tuple #[]) ∧ WhP w o F (wLay s ps) w' := by
  cases o with
  | some b =>
    obtain ⟨v, sv, h1, rfl⟩ := h
    refine (wraw_anyE h1 _ ps hp (by omega)).mono ?_
    rintro e w' ⟨rfl, hp⟩
    exact ⟨rfl, WsP.of hp⟩
  | none =>
    obtain ⟨rfl, rfl⟩ := h
    refine (wraw_nil w pa n pc).mono ?_
    rintro e w' ⟨rfl, hk⟩
    exact ⟨rfl, by simpa [wLay, wFail, wOpen, wClose, failWS] using WhP.none hk⟩
theorem wtext_h {w : World} {o : Option Nat} {F : List Nat} {s : WS} (h : Wh w o F s) (pa : Option Addr) (n pc : Nat) (ps : List Nat) (hp : Far w (.slice pa n pc) ps F) (hn : ps.length = n) (hl : s.bs.length + ps.length ≤ 35184372088832) :
    Calls Try.prog 49 #[pt o, .slice pa n pc] w fun e w' => e = .returned (.tuple #[]) ∧ WhP w o F (wLay s (form ps.length ++ ps)) w' := by
  cases o with
  | some b =>
    obtain ⟨v, sv, h1, rfl⟩ := h
    refine (wtext_anyE h1 _ ps hp hl).mono ?_
    rintro e w' ⟨rfl, hp⟩
    exact ⟨rfl, WsP.of hp⟩
  | none =>
    obtain ⟨rfl, rfl⟩ := h
    refine (wtext_nil w pa n pc (by omega)).mono ?_
    rintro e w' ⟨rfl, hk⟩
    exact ⟨rfl, by simpa [wLay, wFail, wOpen, wClose, failWS] using WhP.none hk⟩
theorem wopen_h {w : World} {o : Option Nat} {F : List Nat} {s : WS} (h : Wh w o F s) :
    Calls Try.prog 51 #[pt o] w fun e w' => e = .returned (.tuple #[]) ∧ WhP w o F (wOpen s) w' := by
  cases o with
  | some b =>
    obtain ⟨v, sv, h1, rfl⟩ := h
    refine (wopen_any h1).mono ?_
    rintro e w' ⟨rfl, hp⟩
    exact ⟨rfl, WsP.of hp⟩
  | none =>
    obtain ⟨rfl, rfl⟩ := h
    refine (wopen_nil w).mono ?_
    rintro e w' ⟨rfl, hk⟩
    exact ⟨rfl, by simpa [wLay, wFail, wOpen, wClose, failWS] using WhP.none hk⟩
theorem wclose_h {w : World} {o : Option Nat} {F : List Nat} {s : WS} (h : Wh w o F s) (hst : ∀ x ∈ s.sts, x ≤ s.bs.length) (hl : s.bs.length ≤ 1000000000000) :
    Calls Try.prog 53 #[pt o] w fun e w' => e = .returned (.tuple #[]) ∧ WhP w o F (wClose s) w' := by
  cases o with
  | some b =>
    obtain ⟨v, sv, h1, rfl⟩ := h
    refine (wclose_any h1 hst hl).mono ?_
    rintro e w' ⟨rfl, hp⟩
    exact ⟨rfl, WsP.of hp⟩
  | none =>
    obtain ⟨rfl, rfl⟩ := h
    refine (wclose_nil w).mono ?_
    rintro e w' ⟨rfl, hk⟩
    exact ⟨rfl, by simpa [wLay, wFail, wOpen, wClose, failWS] using WhP.none hk⟩
theorem wlen_h {w : World} {o : Option Nat} {F : List Nat} {s : WS} (h : Wh w o F s) :
    Calls Try.prog 27 #[pt o] w fun e w' => e = .returned (.int .i64 (wLen s : Nat)) ∧ w = w' := by
  cases o with
  | some b =>
    by_cases hf : s.fault = 0
    · obtain ⟨v, sv, h1, rfl⟩ := h
      rw [show wLen s = s.bs.length by unfold wLen; rw [if_neg (by omega)]]
      exact wlen_ok h1 hf
    · rw [show wLen s = 0 by unfold wLen; rw [if_pos hf]]
      exact wlen_fault h hf
  | none =>
    obtain ⟨rfl, rfl⟩ := h
    exact wlen_nil w
theorem wdone_h {w : World} {o : Option Nat} {F : List Nat} {s : WS} (h : Wh w o F s) :
    Calls Try.prog 13 #[pt o] w fun e w' => NewD w (wDone s) e w' ∧ Kept [] w w' := by
  cases o with
  | some b =>
    obtain ⟨v, sv, h1, rfl⟩ := h
    by_cases hf : s.fault = 0
    · by_cases hz : s.sts = []
      · rw [show wDone s = (s.bs, 0) by unfold wDone; rw [if_neg (by omega), if_neg (by simpa using hz)]]
        refine (wdone_ok h1 hf hz).mono ?_
        rintro e w' ⟨a, cap, rfl, ho, hk⟩
        exact ⟨⟨a, cap, rfl, ho⟩, hk⟩
      · rw [show wDone s = ([], 12) by unfold wDone; rw [if_neg (by omega), if_pos (by simpa using hz)]]
        refine (wdone_rest h1 hf hz).mono ?_
        rintro e w' ⟨rfl, hk⟩
        exact ⟨NewD.nil _ _ _, hk⟩
    · rw [show wDone s = ([], s.fault) by unfold wDone; rw [if_pos hf]]
      refine (wdone_fault h1 hf).mono ?_
      rintro e w' ⟨rfl, m, rfl⟩
      exact ⟨NewD.nil _ _ _, (Kept.refl [] _).drewN _⟩
  | none =>
    obtain ⟨rfl, rfl⟩ := h
    refine (wdone_nil w).mono ?_
    rintro e w' ⟨rfl, hk⟩
    subst hk
    exact ⟨NewD.nil _ _ _, Kept.refl _ _⟩

set_option maxRecDepth 100000 in
set_option maxHeartbeats 400000 in
theorem vlay_nil (w : World) (r : Bool) (pv : Value) : Calls Try.prog 93 #[.pointer none, .bool r, pv] w fun e w' => e = .returned (.tuple #[]) ∧ w = w' := by
  have HD := fun W => hide (vdead_nil W)
  go_enter Try.func93, Try.ntmps93
  go_wp2_with (first | (go_at_call 102; refine (unhide (HD _)).mono ?_; rintro e w1 ⟨rfl, rfl⟩))
  refine bodyPost_ret (results_none rfl _ _ _) rfl ?_
  exact ⟨rfl, rfl⟩

set_option maxRecDepth 100000 in
set_option maxHeartbeats 400000 in
theorem vbyte_nil (w : World) (n : Int) : Calls Try.prog 38 #[.pointer none, .int .i64 n] w fun e w' => e = .returned (.tuple #[]) ∧ Kept [] w w' := by
  by_cases hn : n < 0
  · have b1 : decide (n < 0) = true := by simpa using hn
    go_enter Try.func38, Try.ntmps38
    go_wp2_with (first | (go_at_call 93; refine (vlay_nil _ _ _).mono ?_; rintro e w2 ⟨rfl, rfl⟩))
    go_end0
    exact ⟨rfl, (Kept.refl [] w).alloc _⟩
  · have b1 : decide (n < 0) = false := by simpa using hn
    go_enter Try.func38, Try.ntmps38
    go_wp2_with (first | (go_at_call 93; refine (vlay_nil _ _ _).mono ?_; rintro e w2 ⟨rfl, rfl⟩))
    go_end0
    exact ⟨rfl, (Kept.refl [] w).alloc _⟩

set_option maxRecDepth 100000 in
set_option maxHeartbeats 400000 in
theorem vfixed_nil (w : World) (n : Nat) (hn : n < 18446744073709551616) (size : Int) : Calls Try.prog 40 #[.pointer none, .int .u64 n, .int .i64 size] w fun e w' => e = .returned (.tuple #[]) ∧ Kept [] w w' := by
  by_cases h1 : size < 1
  · have b1 : decide (size < 1) = true := by simpa using h1
    go_enter Try.func40, Try.ntmps40
    go_wp2_with (first | (go_at_call 93; refine (vlay_nil _ _ _).mono ?_; rintro e w2 ⟨rfl, rfl⟩))
    refine bodyPost_ret (results_none rfl _ _ _) rfl ?_
    exact ⟨rfl, Kept.refl _ _⟩
  · have b1 : decide (size < 1) = false := by simpa using h1
    by_cases h8 : 8 < size
    · have b2 : decide (8 < size) = true := by simpa using h8
      go_enter Try.func40, Try.ntmps40
      go_wp2_with (first | (go_at_call 93; refine (vlay_nil _ _ _).mono ?_; rintro e w2 ⟨rfl, rfl⟩))
      refine bodyPost_ret (results_none rfl _ _ _) rfl ?_
      exact ⟨rfl, Kept.refl _ _⟩
    · obtain ⟨m, rfl⟩ := Int.eq_ofNat_of_zero_le (show 0 ≤ size by omega)
      have b2 : decide (8 < (m : Int)) = false := by simpa using h8
      have HC := hide (vdigits_any n m w hn (by omega))
      clear h1 h8
      go_enter Try.func40, Try.ntmps40
      go_wp2_with (first | (go_at_call 96; refine (unhide HC).mono ?_; rintro e w1 ⟨a1, c1, rfl, ho, hk⟩; have HK := hide hk; clear ho hk HC) | (go_at_call 93; refine (vlay_nil _ _ _).mono ?_; rintro e w2 ⟨rfl, rfl⟩))
      go_end0
      exact ⟨rfl, unhide HK⟩

set_option maxRecDepth 100000 in
set_option maxHeartbeats 400000 in
theorem vnum_nil (w : World) (n : Nat) (hn : n < 18446744073709551616) : Calls Try.prog 42 #[.pointer none, .int .u64 n] w fun e w' => e = .returned (.tuple #[]) ∧ Kept [] w w' := by
  have HC := hide (vform_any n w hn)
  go_enter Try.func42, Try.ntmps42
  go_wp2_with (first | (go_at_call 98; refine (unhide HC).mono ?_; rintro e w1 ⟨a1, c1, rfl, ho, hk⟩; have HK := hide hk; clear ho hk HC) | (go_at_call 93; refine (vlay_nil _ _ _).mono ?_; rintro e w2 ⟨rfl, rfl⟩))
  go_end0
  exact ⟨rfl, unhide HK⟩

set_option maxRecDepth 100000 in
set_option maxHeartbeats 400000 in
theorem vint_nil (w : World) (i : Int) (h1 : -9223372036854775808 ≤ i) (h2 : i ≤ 9223372036854775807) : Calls Try.prog 44 #[.pointer none, .int .i64 i] w fun e w' => e = .returned (.tuple #[]) ∧ Kept [] w w' := by
  have HO := hide (vfold_any i w h1 h2)
  have HC := hide (vform_any (fold i) w (fold_lt i h1 h2))
  clear h1 h2
  generalize fold i = fi at *
  go_enter Try.func44, Try.ntmps44
  go_wp2_with (first | (go_at_call 99; refine (unhide HO).mono ?_; rintro e w0 ⟨rfl, rfl⟩; clear HO) | (go_at_call 98; refine (unhide HC).mono ?_; rintro e w1 ⟨a1, c1, rfl, ho, hk⟩; have HK := hide hk; clear ho hk HC) | (go_at_call 93; refine (vlay_nil _ _ _).mono ?_; rintro e w2 ⟨rfl, rfl⟩))
  go_end0
  exact ⟨rfl, unhide HK⟩

set_option maxRecDepth 100000 in
set_option maxHeartbeats 400000 in
theorem vreal_nil (w : World) (n : Nat) (hn : n < 18446744073709551616) : Calls Try.prog 45 #[.pointer none, .int .u64 n] w fun e w' => e = .returned (.tuple #[]) ∧ Kept [] w w' := by
  have hcn : canon n < 18446744073709551616 := by unfold canon oneNaN; split <;> omega
  have HO := hide (qclean_any n hn w)
  have HC := hide (vdigits_any (canon n) 8 w hcn (by omega))
  have HLE := hide (le_len (canon n) 8)
  generalize canon n = cn at *
  clear hn hcn
  go_enter Try.func45, Try.ntmps45
  go_wp2_with (first | (go_at_call 101; refine (unhide HO).mono ?_; rintro e w0 ⟨rfl, rfl⟩; clear HO) | (go_at_call 96; refine (unhide HC).mono ?_; rintro e w1 ⟨a1, c1, rfl, ho, hk⟩; have HS1 := hide (sees_own (unhide HLE) ho); have HK := hide hk; clear ho hk HC) | (go_at_call 100; refine (qturned_any (unhide HS1) (by rw [unhide HLE]; omega)).mono ?_; rintro e w3 ⟨a3, c3, rfl, ho, hk⟩; have HK3 := hide ((unhide HK).trans hk (by simp)); clear ho hk) | (go_at_call 93; refine (vlay_nil _ _ _).mono ?_; rintro e w2 ⟨rfl, rfl⟩))
  go_end0
  exact ⟨rfl, unhide HK3⟩

set_option maxRecDepth 100000 in
set_option maxHeartbeats 400000 in
theorem vraw_nil (w : World) (pv : Value) : Calls Try.prog 46 #[.pointer none, pv] w fun e w' => e = .returned (.tuple #[]) ∧ Kept [] w w' := by
  go_enter Try.func46, Try.ntmps46
  go_wp2_with (first | (go_at_call 93; refine (vlay_nil _ _ _).mono ?_; rintro e w2 ⟨rfl, rfl⟩))
  go_end0
  exact ⟨rfl, Kept.refl _ _⟩

set_option maxRecDepth 100000 in
set_option maxHeartbeats 1000000 in
theorem vtext_nil {w : World} (pv : Value) (ps : List Nat) (hp : Wide w pv ps) (hl : ps.length ≤ 35184372088832) :
    Calls Try.prog 48 #[.pointer none, pv] w fun e w' => e = .returned (.tuple #[]) ∧ Kept [] w w' := by
  obtain ⟨i0, hi, hz0, hz1, hz2⟩ := info_parts Try.info5
  have HI := hide (⟨hi, hz0, hz1, hz2⟩ : _ ∧ _ ∧ _ ∧ _)
  obtain ⟨pa, pc, rfl⟩ := wide_len hp
  have HPF := hide hp
  obtain ⟨n, hn⟩ : ∃ n, ps.length = n := ⟨_, rfl⟩
  have HN := hide hn
  rw [hn] at hl HPF ⊢
  have hn64 : n < 18446744073709551616 := by omega
  have hf10 := form_le10 n hn64
  have HC := hide (vform_any n w hn64)
  obtain ⟨FL, hFL⟩ : ∃ FL, (form n).length = FL := ⟨_, rfl⟩
  have HFL := hide hFL
  rw [hFL] at HC hf10
  have HHL := hide hl
  have hn63 : n ≤ 9223372036854775807 := by omega
  have hwn : IntKind.u64.wrap (n : Int) = (n : Int) := by rw [IntKind.wrap_u64]; omega
  clear hp hi hz0 hz1 hz2 hn hFL
  go_enter Try.func48, Try.ntmps48
  go_wp2_with (first | (go_at_call 98; refine (unhide HC).mono ?_; rintro e w1 ⟨a1, c1, rfl, ho, hk⟩; have HO := hide ho; have HK := hide hk; clear ho hk HC))
  go_loopw [4, 5] (fun v i wr => ∃ (k : Nat) (a : Option Addr) (cap : Nat), k ≤ n ∧ i = .int .i64 (k : Int) ∧ v = .slice a (FL + k) cap ∧ Hid (wr.ownsRow w.heap.size 5 1 (.slice a (FL + k) cap) (FL + k) (u8s (form n ++ ps.take k)) ∧ Kept [] w wr)) (fun _ i _ => n - (intOf i).toNat)
  case atStart => exact ⟨0, a1, c1, by omega, rfl, rfl, hide ⟨by simpa using unhide HO, unhide HK⟩⟩
  case round =>
    obtain ⟨k, a, cap, hk, rfl, rfl, HR⟩ := hrel
    by_cases hlt : k < n
    · have hi : k < ps.length := by rw [unhide HN]; exact hlt
      have hWd := (unhide HPF).kept (unhide HR).2
      obtain ⟨xb, xo, hpa, cx⟩ := hWd.at k hi
      subst hpa
      have hlen : (form n ++ ps.take k).length = FL + k := by rw [List.length_append, unhide HFL, List.length_take]; omega
      have HT : Hid ((form n ++ ps.take k) ++ [ps.getD k 0] = form n ++ ps.take (k + 1)) := by unfold Hid; rw [List.append_assoc, take_snoc ps k hi]
      generalize ps.getD k 0 = y at *
      have HLN := hide hlen
      have HO2 : Hid ((wr.alloc (.cells #[.int .u8 (y : Int)] 5)).ownsRow w.heap.size 5 1 (.slice a (FL + k) cap) (form n ++ ps.take k).length (u8s (form n ++ ps.take k))) := by unfold Hid; rw [hlen]; exact (unhide HR).1.alloc _
      have HS := hide (unhide HR).2.size
      have hFk : FL + k + 1 ≤ 35184372088843 := by omega
      clear hlen hi hWd
      go_wp2_with (at_builtin; refine wpList_append_sees _ rfl _ _ 25 rfl w.heap.size 5 i0 (.int .u8 0) Try.underlying25 (unhide HI).1 (unhide HI).2.1 (unhide HI).2.2.1 (unhide HI).2.2.2 rfl _ (form n ++ ps.take k) rfl (unhide HO2) _ [y] rfl (news_one _ _) ?c1 ?c2 ?_)
      case c1 => rw [unhide HLN]; simp; omega
      case c2 => have := unhide HS; simp; omega
      intro v' w2 hown1 hg hat
      have hl2 : ((form n ++ ps.take k) ++ [y]).length = FL + k + 1 := by rw [List.length_append, unhide HLN]; rfl
      have hown2 : w2.ownsRow w.heap.size 5 1 v' (FL + k + 1) (u8s (form n ++ ps.take k ++ [y])) := by rw [← hl2]; simpa using hown1
      obtain ⟨a2, d2, rfl⟩ := own_len hown2
      have HO1 := hide hown2
      have HG := hide hg
      clear hown1 hown2 hg hat hl2
      go_wp2
      refine ⟨⟨k + 1, a2, d2, by omega, by go_num, rfl, hide ⟨?_, ?_⟩⟩, by simp [intOf]; omega⟩
      · rw [← unhide HT]; exact unhide HO1
      · exact ((unhide HR).2.alloc _).grown (unhide HG) (fun q hq => Or.inr ((unhide HR).1.lt q hq).1)
    · obtain rfl : k = n := by omega
      go_wp2_with (first | (go_at_call 93; refine (vlay_nil _ _ _).mono ?_; rintro e w2 ⟨rfl, rfl⟩))
      go_end0
      exact ⟨rfl, (unhide HR).2⟩

set_option maxRecDepth 100000 in
set_option maxHeartbeats 400000 in
theorem vopen_nil (w : World) : Calls Try.prog 50 #[.pointer none] w fun e w' => e = .returned (.tuple #[]) ∧ Kept [] w w' := by
  have HD := fun W => hide (vdead_nil W)
  go_enter Try.func50, Try.ntmps50
  go_wp2_with (first | (go_at_call 102; refine (unhide (HD _)).mono ?_; rintro e w1 ⟨rfl, rfl⟩))
  refine bodyPost_ret (results_none rfl _ _ _) rfl ?_
  exact ⟨rfl, Kept.refl _ _⟩

set_option maxRecDepth 100000 in
set_option maxHeartbeats 400000 in
theorem vclose_nil (w : World) : Calls Try.prog 52 #[.pointer none] w fun e w' => e = .returned (.tuple #[]) ∧ Kept [] w w' := by
  have HD := fun W => hide (vdead_nil W)
  go_enter Try.func52, Try.ntmps52
  go_wp2_with (first | (go_at_call 102; refine (unhide (HD _)).mono ?_; rintro e w1 ⟨rfl, rfl⟩))
  refine bodyPost_ret (results_none rfl _ _ _) rfl ?_
  exact ⟨rfl, Kept.refl _ _⟩

set_option maxRecDepth 100000 in
set_option maxHeartbeats 400000 in
theorem vlen_nil (w : World) : Calls Try.prog 54 #[.pointer none] w fun e w' => e = .returned (.int .i64 0) ∧ w = w' := by
  have HD := fun W => hide (vdead_nil W)
  go_enter Try.func54, Try.ntmps54
  go_wp2_with (first | (go_at_call 102; refine (unhide (HD _)).mono ?_; rintro e w1 ⟨rfl, rfl⟩))
  go_ret
  exact ⟨rfl, rfl⟩

set_option maxRecDepth 100000 in
set_option maxHeartbeats 400000 in
theorem vdone_nil (w : World) : Calls Try.prog 55 #[.pointer none] w fun e w' => e = .returned (.tuple #[.slice none 0 0, .int .i64 1]) ∧ w = w' := by
  go_enter Try.func55, Try.ntmps55
  go_wp2
  go_ret2
  exact ⟨rfl, rfl⟩

theorem vbyte_h {w : World} {o : Option Nat} {F : List Nat} {s : WS} (h : Vh w o F s) (n : Int) (hl : s.bs.length ≤ 1000000000000) :
    Calls Try.prog 38 #[pt o, .int .i64 n] w fun e w' => e = .returned (.tuple #[]) ∧ VhP w o F (if n < 0 ∨ 255 < n then wFail s 2 else wLay s [n.toNat]) w' := by
  cases o with
  | some b => exact vbyte_s h n hl
  | none =>
    obtain ⟨rfl, rfl⟩ := h
    refine (vbyte_nil w n).mono ?_
    rintro e w' ⟨rfl, hk⟩
    exact ⟨rfl, by simpa [wLay, wFail, wOpen, wClose, failWS] using VhP.none hk⟩
theorem vfixed_h {w : World} {o : Option Nat} {F : List Nat} {s : WS} (h : Vh w o F s) (n : Nat) (size : Int) (hn : n < 18446744073709551616) (hl : s.bs.length ≤ 1000000000000) :
    Calls Try.prog 40 #[pt o, .int .u64 n, .int .i64 size] w fun e w' => e = .returned (.tuple #[]) ∧ VhP w o F (if size < 1 ∨ 8 < size then wFail s 2 else wLay s (le n size.toNat)) w' := by
  cases o with
  | some b => exact vfixed_s h n size hn hl
  | none =>
    obtain ⟨rfl, rfl⟩ := h
    refine (vfixed_nil w n hn size).mono ?_
    rintro e w' ⟨rfl, hk⟩
    exact ⟨rfl, by simpa [wLay, wFail, wOpen, wClose, failWS] using VhP.none hk⟩
theorem vnum_h {w : World} {o : Option Nat} {F : List Nat} {s : WS} (h : Vh w o F s) (n : Nat) (hn : n < 18446744073709551616) (hl : s.bs.length ≤ 1000000000000) :
    Calls Try.prog 42 #[pt o, .int .u64 n] w fun e w' => e = .returned (.tuple #[]) ∧ VhP w o F (wLay s (form n)) w' := by
  cases o with
  | some b => exact vnum_s h n hn hl
  | none =>
    obtain ⟨rfl, rfl⟩ := h
    refine (vnum_nil w n hn).mono ?_
    rintro e w' ⟨rfl, hk⟩
    exact ⟨rfl, by simpa [wLay, wFail, wOpen, wClose, failWS] using VhP.none hk⟩
theorem vint_h {w : World} {o : Option Nat} {F : List Nat} {s : WS} (h : Vh w o F s) (i : Int) (g1 : -9223372036854775808 ≤ i) (g2 : i ≤ 9223372036854775807) (hl : s.bs.length ≤ 1000000000000) :
    Calls Try.prog 44 #[pt o, .int .i64 i] w fun e w' => e = .returned (.tuple #[]) ∧ VhP w o F (wLay s (form (fold i))) w' := by
  cases o with
  | some b => exact vint_s h i g1 g2 hl
  | none =>
    obtain ⟨rfl, rfl⟩ := h
    refine (vint_nil w i g1 g2).mono ?_
    rintro e w' ⟨rfl, hk⟩
    exact ⟨rfl, by simpa [wLay, wFail, wOpen, wClose, failWS] using VhP.none hk⟩
theorem vreal_h {w : World} {o : Option Nat} {F : List Nat} {s : WS} (h : Vh w o F s) (n : Nat) (hn : n < 18446744073709551616) (hl : s.bs.length ≤ 1000000000000) :
    Calls Try.prog 45 #[pt o, .int .u64 n] w fun e w' => e = .returned (.tuple #[]) ∧ VhP w o F (wLay s (be8 (canon n))) w' := by
  cases o with
  | some b => exact vreal_s h n hn hl
  | none =>
    obtain ⟨rfl, rfl⟩ := h
    refine (vreal_nil w n hn).mono ?_
    rintro e w' ⟨rfl, hk⟩
    exact ⟨rfl, by simpa [wLay, wFail, wOpen, wClose, failWS] using VhP.none hk⟩
theorem vraw_h {w : World} {o : Option Nat} {F : List Nat} {s : WS} (h : Vh w o F s) (pv : Value) (ps : List Nat) (hp : Far w pv ps F) (hl : s.bs.length + ps.length ≤ 35184372088832) :
    Calls Try.prog 46 #[pt o, pv] w fun e w' => e = .returned (.tuple #[]) ∧ VhP w o F (wLay s ps) w' := by
  cases o with
  | some b => exact vraw_s h pv ps hp (by omega)
  | none =>
    obtain ⟨rfl, rfl⟩ := h
    refine (vraw_nil w pv).mono ?_
    rintro e w' ⟨rfl, hk⟩
    exact ⟨rfl, by simpa [wLay, wFail, wOpen, wClose, failWS] using VhP.none hk⟩
theorem vtext_h {w : World} {o : Option Nat} {F : List Nat} {s : WS} (h : Vh w o F s) (pv : Value) (ps : List Nat) (hp : Far w pv ps F) (hl : s.bs.length + ps.length ≤ 35184372088832) :
    Calls Try.prog 48 #[pt o, pv] w fun e w' => e = .returned (.tuple #[]) ∧ VhP w o F (wLay s (form ps.length ++ ps)) w' := by
  cases o with
  | some b => exact vtext_s h pv ps hp hl
  | none =>
    obtain ⟨rfl, rfl⟩ := h
    refine (vtext_nil pv ps (hp.wide (Kept.refl _ _)) (by omega)).mono ?_
    rintro e w' ⟨rfl, hk⟩
    exact ⟨rfl, by simpa [wLay, wFail, wOpen, wClose, failWS] using VhP.none hk⟩
theorem vopen_h {w : World} {o : Option Nat} {F : List Nat} {s : WS} (h : Vh w o F s) :
    Calls Try.prog 50 #[pt o] w fun e w' => e = .returned (.tuple #[]) ∧ VhP w o F (wOpen s) w' := by
  cases o with
  | some b => exact vopen_s h
  | none =>
    obtain ⟨rfl, rfl⟩ := h
    refine (vopen_nil w).mono ?_
    rintro e w' ⟨rfl, hk⟩
    exact ⟨rfl, by simpa [wLay, wFail, wOpen, wClose, failWS] using VhP.none hk⟩
theorem vclose_h {w : World} {o : Option Nat} {F : List Nat} {s : WS} (h : Vh w o F s) (hst : ∀ x ∈ s.sts, x ≤ s.bs.length) (hl : s.bs.length ≤ 1000000000000) :
    Calls Try.prog 52 #[pt o] w fun e w' => e = .returned (.tuple #[]) ∧ VhP w o F (wClose s) w' := by
  cases o with
  | some b => exact vclose_s h hst hl
  | none =>
    obtain ⟨rfl, rfl⟩ := h
    refine (vclose_nil w).mono ?_
    rintro e w' ⟨rfl, hk⟩
    exact ⟨rfl, by simpa [wLay, wFail, wOpen, wClose, failWS] using VhP.none hk⟩
theorem vlen_h {w : World} {o : Option Nat} {F : List Nat} {s : WS} (h : Vh w o F s) :
    Calls Try.prog 54 #[pt o] w fun e w' => e = .returned (.int .i64 (wLen s : Nat)) ∧ w = w' := by
  cases o with
  | some b => exact vlen_s h
  | none =>
    obtain ⟨rfl, rfl⟩ := h
    exact vlen_nil w
theorem vdone_h {w : World} {o : Option Nat} {F : List Nat} {s : WS} (h : Vh w o F s) :
    Calls Try.prog 55 #[pt o] w fun e w' => NewD w (wDone s) e w' ∧ Kept [] w w' := by
  cases o with
  | some b => exact vdone_s h
  | none =>
    obtain ⟨rfl, rfl⟩ := h
    refine (vdone_nil w).mono ?_
    rintro e w' ⟨rfl, hk⟩
    subst hk
    exact ⟨NewD.nil _ _ _, Kept.refl _ _⟩

/-- One state on both sides, the blocks apart. -/
structure Twi (w : World) (o q : Option Nat) (F G : List Nat) (s : WS) : Prop where
  r : Wh w o F s
  m : Vh w q G s
  ap : ∀ x ∈ F, x ∉ G
/-- Behind a step of both. -/
def TwiP (J : WS → Prop) (w : World) (o q : Option Nat) (F G : List Nat) (w' : World) : Prop := ∃ F' G' s', (Twi w' o q F' G' s' ∧ J s') ∧ Kept (F ++ G) w w' ∧ (∀ x ∈ F', x ∈ F ∨ w.heap.size ≤ x) ∧ ∀ x ∈ G', x ∈ G ∨ w.heap.size ≤ x
theorem Twi.kept {K : List Nat} {w w' : World} {o q : Option Nat} {F G : List Nat} {s : WS} (h : Twi w o q F G s) (k : Kept K w w') (h1 : ∀ x ∈ F, x ∉ K) (h2 : ∀ x ∈ G, x ∉ K) : Twi w' o q F G s := ⟨h.r.kept k h1, h.m.kept k h2, h.ap⟩
theorem Twi.behind {w w1 : World} {o q : Option Nat} {F G : List Nat} {s s' : WS} (h : Twi w o q F G s) (hq : VhP w q G s' w1) : Wh w1 o F s := by
  obtain ⟨G', h1, h2, h3⟩ := hq
  exact h.r.kept h2 h.ap

theorem Twi.step {J : WS → Prop} {w w1 w2 w4 : World} {o q : Option Nat} {F G K : List Nat} {s s' : WS} (h : Twi w o q F G s) (hJ : J s') (hq : VhP w q G s' w1) (hr : WhP w1 o F s' w2) (k : Kept K w2 w4) (hK : ∀ x ∈ K, x < w.heap.size ∧ x ∉ F ∧ x ∉ G) : ∃ F' G', (Twi w4 o q F' G' s' ∧ J s') ∧ Kept (F ++ G ++ K) w w4 ∧ (∀ x ∈ F', x ∈ F ∨ w.heap.size ≤ x) ∧ ∀ x ∈ G', x ∈ G ∨ w.heap.size ≤ x := by
  obtain ⟨G', h1, h2, h3⟩ := hq
  obtain ⟨F', g1, g2, g3⟩ := hr
  have hs := h2.size
  have hGF : ∀ x ∈ G', x ∉ F := by
    intro x hx hf
    rcases h3 x hx with h4 | h4
    · exact h.ap x hf h4
    · have := h.r.lt x hf; omega
  refine ⟨F', G', ⟨⟨g1.kept k ?_, (h1.kept g2 hGF).kept k ?_, fun x hx hg => ?_⟩, hJ⟩, ?_, fun x hx => ?_, h3⟩
  · intro x hx hk
    obtain ⟨k1, k2, k3⟩ := hK x hk
    rcases g3 x hx with h5 | h5
    · exact k2 h5
    · omega
  · intro x hx hk
    obtain ⟨k1, k2, k3⟩ := hK x hk
    rcases h3 x hx with h5 | h5
    · exact k3 h5
    · omega
  · rcases g3 x hx with h5 | h5
    · exact hGF x hg h5
    · have := h1.lt x hg; omega
  · exact ((h2.mono (fun x hx => Or.inl (by simp [hx]))).trans g2 (fun x hx => Or.inl (by simp [hx]))).trans k (fun x hx => Or.inl (by simp [hx]))
  · rcases g3 x hx with h5 | h5
    · exact Or.inl h5
    · right; omega
end Go.Proofs.Ytiabhgkndejigaa

namespace Go.Proofs.Ytiabhgkndejigaa
open Go.RowKit

/-- No more than A bytes, each below 256; the open frames begin within them. -/
def Iv (A : Nat) (s : WS) : Prop := s.bs.length ≤ A ∧ (∀ x ∈ s.sts, x ≤ s.bs.length) ∧ ∀ x ∈ s.bs, x < 256
theorem Iv.mono {A B : Nat} {s : WS} (h : Iv A s) (hb : A ≤ B) : Iv B s := ⟨Nat.le_trans h.1 hb, h.2⟩
theorem Iv.none (A c : Nat) : Iv A (failWS c) := ⟨Nat.zero_le _, (fun x hx => by cases hx), (fun x hx => by cases hx)⟩
theorem Iv.fail {A : Nat} {s : WS} (h : Iv A s) (c : Nat) : Iv A (wFail s c) := by
  unfold wFail; split
  · exact h
  · exact Iv.none A c
theorem Iv.lay {A : Nat} {s : WS} (h : Iv A s) (ps : List Nat) (hp : ∀ x ∈ ps, x < 256) : Iv (A + ps.length) (wLay s ps) := by
  unfold wLay; split
  · exact h.mono (by omega)
  · split
    · refine ⟨?_, fun x hx => ?_, fun x hx => ?_⟩
      · have := h.1; simp; omega
      · have := h.2.1 x hx; simp; omega
      · rcases List.mem_append.1 hx with hx | hx
        · exact h.2.2 x hx
        · exact hp x hx
    · exact Iv.none _ _
theorem Iv.open {A : Nat} {s : WS} (h : Iv A s) : Iv A (wOpen s) := by
  unfold wOpen; split
  · exact h
  · split
    · exact Iv.none _ _
    · refine ⟨h.1, fun x hx => ?_, h.2.2⟩
      simp at hx
      rcases hx with hx | rfl
      · exact h.2.1 x hx
      · exact Nat.le_refl _
theorem Iv.close {A : Nat} {s : WS} (h : Iv A s) (hA : A ≤ 1000000000000) : Iv (A + 10) (wClose s) := by
  unfold wClose; split
  · exact h.mono (by omega)
  · split
    · exact Iv.none _ _
    · rename_i st hst
      split
      · have h1 := h.1
        have h2 := form_le10 (s.bs.length - st) (by omega)
        have h3 := h.2.1 st (List.mem_of_getLast? hst)
        refine ⟨by simp; omega, fun x hx => ?_, fun x hx => ?_⟩
        · have := h.2.1 x (List.dropLast_subset _ hx)
          simp
          omega
        · simp only [List.mem_append] at hx
          rcases hx with (hx | hx) | hx
          · exact h.2.2 x (List.mem_of_mem_take hx)
          · exact form_byte _ x hx
          · exact h.2.2 x (List.mem_of_mem_drop hx)
      · exact Iv.none _ _

theorem TwiP.of {J : WS → Prop} {w w1 w4 : World} {o q : Option Nat} {F G K : List Nat} {s' : WS} (k : Kept [] w w1) (hK : ∀ x ∈ K, w.heap.size ≤ x) (h : ∃ F' G', (Twi w4 o q F' G' s' ∧ J s') ∧ Kept (F ++ G ++ K) w1 w4 ∧ (∀ x ∈ F', x ∈ F ∨ w1.heap.size ≤ x) ∧ ∀ x ∈ G', x ∈ G ∨ w1.heap.size ≤ x) : TwiP J w o q F G w4 := by
  obtain ⟨F', G', h1, h2, h3, h4⟩ := h
  have := k.size
  refine ⟨F', G', s', h1, (k.mono (by simp)).trans h2 (fun x hx => ?_), fun x hx => ?_, fun x hx => ?_⟩
  · rcases List.mem_append.1 hx with hx | hx
    · exact Or.inl hx
    · exact Or.inr (hK x hx)
  · rcases h3 x hx with h | h
    · exact Or.inl h
    · right; omega
  · rcases h4 x hx with h | h
    · exact Or.inl h
    · right; omega
theorem TwiP.same {J : WS → Prop} {w w' : World} {o q : Option Nat} {F G K : List Nat} {s : WS} (h : Twi w o q F G s) (hJ : J s) (k : Kept K w w') (hK : ∀ x ∈ K, w.heap.size ≤ x) : TwiP J w o q F G w' :=
  ⟨F, G, s, ⟨h.kept k (fun x hx hk => by have := h.r.lt x hx; have := hK x hk; omega) (fun x hx hk => by have := h.m.lt x hx; have := hK x hk; omega), hJ⟩, k.mono (fun x hx => Or.inr (hK x hx)), fun _ hx => Or.inl hx, fun _ hx => Or.inl hx⟩


theorem Far.less {w : World} {v : Value} {bs F G : List Nat} (h : Far w v bs F) (hs : ∀ x ∈ G, x ∈ F) : Far w v bs G := by
  rcases h with ⟨h1, h2⟩ | h
  · exact Or.inl ⟨h1, fun k hk hm => h2 k hk (hs k hm)⟩
  · exact Or.inr h
theorem far_lent {w : World} {base g n cap : Nat} {P F : List Nat} (hn : P.length = n) (h : w.ownsRow base 5 1 (.slice (some ⟨g, 0, none⟩) n cap) n (u8s P)) (hg : g ∉ F) : Far w (.slice (some ⟨g, 0, none⟩) n cap) P F :=
  Or.inl ⟨sees_own hn h, fun k hk hm => by have e0 : (some g : Option Nat) = some k := hk; simp only [Option.some.injEq] at e0; subst e0; exact hg hm⟩

set_option maxRecDepth 100000 in
set_option maxHeartbeats 8000000 in
theorem puts_any {w : World} {o q : Option Nat} {F G : List Nat} {s : WS} (h : Twi w o q F G s) (A : Nat) (hiv : Iv A s) (kd wh : Int) (n : Nat) (hn : n < 18446744073709551616) (i : Int) (g1 : -9223372036854775808 ≤ i) (g2 : i ≤ 9223372036854775807) (pa : Option Addr) (pn pc : Nat) (P : List Nat)
    (hfp : Far w (.slice pa pn pc) P (F ++ G)) (hpn : P.length = pn) (hpb : ∀ x ∈ P, x < 256) (hA : A + 10 + pn ≤ 2000000000) :
    Calls Try.prog 12 #[pt o, pt q, .agg #[.int .i64 kd, .int .i64 wh, .int .u64 (n : Int), .int .i64 i, .slice pa pn pc]] w fun e w' => e = .returned (.bool true) ∧ TwiP (fun s' => Iv (A + 10 + pn) s' ∧ ((kd = 10 ∨ kd = 11) → Iv A s')) w o q F G w' := by
  have k0 : Kept [] w (w.alloc (.cells #[.int .i64 kd, .int .i64 wh, .int .u64 (n : Int), .int .i64 i, .slice pa pn pc] 27)) := (Kept.refl [] w).alloc _
  have HT := hide h
  have HK0 := hide k0
  have HIV := hide hiv
  have HPN := hide hpn
  have HPB := hide hpb
  have HPL : Hid (pn ≤ 2000000000) := by unfold Hid; omega
  have HHA := hide hA
  have HFP := hide hfp
  have HFG : Hid (∀ x ∈ F ++ G, x < w.heap.size) := fun x hx => by
    rcases List.mem_append.1 hx with hx | hx
    · exact h.r.lt x hx
    · exact h.m.lt x hx
  have HBL : Hid (s.bs.length ≤ 1000000000000) := by unfold Hid; have := hiv.1; omega
  have HBL2 : Hid (s.bs.length + P.length ≤ 35184372088832) := by unfold Hid; have := hiv.1; omega
  have hBK := Blk.new w #[.int .i64 kd, .int .i64 wh, .int .u64 (n : Int), .int .i64 i, .slice pa pn pc] 27
  have HB : Hid (∀ w1, Kept [] (w.alloc (.cells #[.int .i64 kd, .int .i64 wh, .int .u64 (n : Int), .int .i64 i, .slice pa pn pc] 27)) w1 → ∀ W, Kept (F ++ G) w1 W → W.cell? ⟨w.heap.size, 0, none⟩ = some (.int .i64 kd) ∧ W.cell? ⟨w.heap.size, 1, none⟩ = some (.int .i64 wh) ∧ W.cell? ⟨w.heap.size, 2, none⟩ = some (.int .u64 (n : Int)) ∧ W.cell? ⟨w.heap.size, 3, none⟩ = some (.int .i64 i) ∧ W.cell? ⟨w.heap.size, 4, none⟩ = some (.slice pa pn pc)) := by
    intro w1 hk1 W hW
    have hb := (hBK.kept hk1 (by simp)).kept hW (fun hm => by have := unhide HFG _ hm; omega)
    exact ⟨by rw [hb.cell]; rfl, by rw [hb.cell]; rfl, by rw [hb.cell]; rfl, by rw [hb.cell]; rfl, by rw [hb.cell]; rfl⟩
  have HLE := hide (lent_any (w := w.alloc (.cells #[.int .i64 kd, .int .i64 wh, .int .u64 (n : Int), .int .i64 i, .slice pa pn pc] 27)) (x := .slice pa pn pc) (P := P) ((hfp.wide (Kept.refl _ _)).kept k0) (by omega))
  obtain ⟨c0, c1, c2, c3, c4⟩ := unhide HB _ (Kept.refl _ _) _ (Kept.refl _ _)
  have h29 := fb29
  clear h k0 hiv hpn hpb hA hfp hBK
  obtain ⟨vr, hvr⟩ : ∃ vr, pt o = vr := ⟨_, rfl⟩
  obtain ⟨vq, hvq⟩ : ∃ vq, pt q = vq := ⟨_, rfl⟩
  rw [hvr, hvq]


  by_cases hk1 : kd = 1
  · have HQ := hide (fun W (hW : Twi W o q F G s) => vbyte_h hW.m i (unhide HBL))
    have HR := hide (fun W (hW : Wh W o F s) => wbyte_h hW i (unhide HBL))
    rw [hvr] at HR
    rw [hvq] at HQ
    obtain ⟨RES, hRES⟩ : ∃ RES, (if i < 0 ∨ 255 < i then wFail s 2 else wLay s [i.toNat]) = RES := ⟨_, rfl⟩
    have HJ : Hid (Iv (A + 10 + pn) RES ∧ ((kd = 10 ∨ kd = 11) → Iv A RES)) := by
      unfold Hid
      rw [← hRES]
      exact ⟨by split; exact ((unhide HIV).fail 2).mono (by omega); exact ((unhide HIV).lay _ (by intro x hx; simp at hx; omega)).mono (by simp; omega), fun hh => by omega⟩
    rw [hRES] at HQ HR
    have t1 : (kd == 1) = true := by rw [beq_iff_eq]; omega
    clear  hk1 hRES
    go_enter Try.func12, Try.ntmps12
    go_wp2_with (first | (go_at_call 14; refine (unhide HLE).mono ?_; rintro e w1 ⟨g, cap, rfl, hc1, ho1, hk1⟩; rw [unhide HPN] at hc1 ho1 ⊢; have hp1 := lent_parts (unhide HPN) ho1; have HO1 := hide ho1; have HP1 := hide hp1; have HC1 := hide hc1; have HK1 := hide ((unhide HK0).trans hk1 (by simp)); have HGW : Hid (w.heap.size ≤ g ∧ g < w1.heap.size) := (by have h1 := (ho1.lt g rfl); have h2 := (unhide HK0).size; simp at h1; exact hide ⟨by omega, by omega⟩); have H1 := hide ((unhide HT).kept (unhide HK1) (by simp) (by simp)); have HBX := hide (unhide HB _ hk1); obtain ⟨d0, d1, d2, d3, d4⟩ := unhide HBX _ (Kept.refl _ _); clear ho1 hp1 hk1 hc1 HLE) | (go_at_call 38; refine (unhide HQ _ (unhide H1) ).mono ?_; rintro e w2 ⟨rfl, hp⟩; have HP := hide hp; have HKM : Hid (Kept (F ++ G) w1 w2) := hide (hp.choose_spec.2.1.mono (fun x hx => Or.inl (List.mem_append_right F hx))); have HGN : Hid (g ∉ F ++ G) := hide (fun hm => (by have h1 := unhide HFG g hm; have h2 := (unhide HGW).1; omega)); have HGO : Hid (∀ k, (Value.slice (some ⟨g, 0, none⟩) pn cap).ownBlock = some k → k ∉ F ++ G) := hide (fun k hk => (by have e0 : (some g : Option Nat) = some k := hk; simp only [Option.some.injEq] at e0; subst e0; exact unhide HGN)); obtain ⟨x0, x1, x2, x3, x4⟩ := unhide HBX _ (unhide HKM); clear hp HQ) | (go_at_call 39; refine (unhide HR _ ((unhide H1).behind (unhide HP)) ).mono ?_; rintro e w3 ⟨rfl, hp2⟩; have HP2 := hide hp2; have HKX : Hid (Kept (F ++ G) w1 w3) := hide ((unhide HKM).trans (hp2.choose_spec.2.1) (fun x hx => Or.inl (List.mem_append_left G hx))); obtain ⟨y0, y1, y2, y3, y4⟩ := unhide HBX _ (unhide HKX); clear hp2 HR) | (go_at_call 16; refine (kept_yes (n := pn) (P := P) (unhide HPN).symm (by have := unhide HPL; omega) (unhide HC1) (sees_own (unhide HPN) (own_kept (unhide HP1).1 (unhide HKX) (unhide HGO))) ((unhide HFP).wide ((((unhide HK1).mono (by simp)).trans (unhide HKX) (fun x hx => Or.inl hx)))) (((unhide HKX).cell (p := ⟨g, pn, none⟩) (unhide HGW).2 (unhide HGN)).trans (unhide HP1).2.1) (((unhide HKX).cell (p := ⟨g, pn + 1, none⟩) (unhide HGW).2 (unhide HGN)).trans (unhide HP1).2.2)).mono ?_; rintro e w5 ⟨rfl, md, rfl⟩) | (go_at_call 17; refine (spoil_any (unhide HPB) (by have := unhide HPL; omega) (own_kept (unhide HP1).1 ((unhide HKX).drewN md) (unhide HGO))).mono ?_; rintro e w6 ⟨rfl, -, hk6⟩; have HK6 := hide hk6; clear hk6))
    go_ret
    exact ⟨rfl, TwiP.of (K := [g]) (unhide HK1) (fun x hx => by simp at hx; subst hx; exact (unhide HGW).1) ((unhide H1).step (J := fun s' => Iv (A + 10 + pn) s' ∧ ((kd = 10 ∨ kd = 11) → Iv A s')) (unhide HJ) (unhide HP) (unhide HP2) ((((Kept.refl [] w3).drewN md).mono (by simp)).trans (unhide HK6) (fun x hx => Or.inl hx)) (fun x hx => by simp at hx; subst hx; exact ⟨(unhide HGW).2, fun hm => unhide HGN (List.mem_append_left G hm), fun hm => unhide HGN (List.mem_append_right F hm)⟩))⟩

  by_cases hk2 : kd = 2
  · have HQ := hide (fun W (hW : Twi W o q F G s) => vfixed_h hW.m n i hn (unhide HBL))
    have HR := hide (fun W (hW : Wh W o F s) => wfixed_h hW n i hn (unhide HBL))
    rw [hvr] at HR
    rw [hvq] at HQ
    obtain ⟨RES, hRES⟩ : ∃ RES, (if i < 1 ∨ 8 < i then wFail s 2 else wLay s (le n i.toNat)) = RES := ⟨_, rfl⟩
    have HJ : Hid (Iv (A + 10 + pn) RES ∧ ((kd = 10 ∨ kd = 11) → Iv A RES)) := by
      unfold Hid
      rw [← hRES]
      exact ⟨by split; exact ((unhide HIV).fail 2).mono (by omega); exact ((unhide HIV).lay _ (le_lt _ _)).mono (by rw [le_len]; omega), fun hh => by omega⟩
    rw [hRES] at HQ HR
    have t1 : (kd == 1) = false := by rw [beq_eq_false_iff_ne]; omega
    have t2 : (kd == 2) = true := by rw [beq_iff_eq]; omega
    clear hk1 hk2 hRES
    go_enter Try.func12, Try.ntmps12
    go_wp2_with (first | (go_at_call 14; refine (unhide HLE).mono ?_; rintro e w1 ⟨g, cap, rfl, hc1, ho1, hk1⟩; rw [unhide HPN] at hc1 ho1 ⊢; have hp1 := lent_parts (unhide HPN) ho1; have HO1 := hide ho1; have HP1 := hide hp1; have HC1 := hide hc1; have HK1 := hide ((unhide HK0).trans hk1 (by simp)); have HGW : Hid (w.heap.size ≤ g ∧ g < w1.heap.size) := (by have h1 := (ho1.lt g rfl); have h2 := (unhide HK0).size; simp at h1; exact hide ⟨by omega, by omega⟩); have H1 := hide ((unhide HT).kept (unhide HK1) (by simp) (by simp)); have HBX := hide (unhide HB _ hk1); obtain ⟨d0, d1, d2, d3, d4⟩ := unhide HBX _ (Kept.refl _ _); clear ho1 hp1 hk1 hc1 HLE) | (go_at_call 40; refine (unhide HQ _ (unhide H1) ).mono ?_; rintro e w2 ⟨rfl, hp⟩; have HP := hide hp; have HKM : Hid (Kept (F ++ G) w1 w2) := hide (hp.choose_spec.2.1.mono (fun x hx => Or.inl (List.mem_append_right F hx))); have HGN : Hid (g ∉ F ++ G) := hide (fun hm => (by have h1 := unhide HFG g hm; have h2 := (unhide HGW).1; omega)); have HGO : Hid (∀ k, (Value.slice (some ⟨g, 0, none⟩) pn cap).ownBlock = some k → k ∉ F ++ G) := hide (fun k hk => (by have e0 : (some g : Option Nat) = some k := hk; simp only [Option.some.injEq] at e0; subst e0; exact unhide HGN)); obtain ⟨x0, x1, x2, x3, x4⟩ := unhide HBX _ (unhide HKM); clear hp HQ) | (go_at_call 41; refine (unhide HR _ ((unhide H1).behind (unhide HP)) ).mono ?_; rintro e w3 ⟨rfl, hp2⟩; have HP2 := hide hp2; have HKX : Hid (Kept (F ++ G) w1 w3) := hide ((unhide HKM).trans (hp2.choose_spec.2.1) (fun x hx => Or.inl (List.mem_append_left G hx))); obtain ⟨y0, y1, y2, y3, y4⟩ := unhide HBX _ (unhide HKX); clear hp2 HR) | (go_at_call 16; refine (kept_yes (n := pn) (P := P) (unhide HPN).symm (by have := unhide HPL; omega) (unhide HC1) (sees_own (unhide HPN) (own_kept (unhide HP1).1 (unhide HKX) (unhide HGO))) ((unhide HFP).wide ((((unhide HK1).mono (by simp)).trans (unhide HKX) (fun x hx => Or.inl hx)))) (((unhide HKX).cell (p := ⟨g, pn, none⟩) (unhide HGW).2 (unhide HGN)).trans (unhide HP1).2.1) (((unhide HKX).cell (p := ⟨g, pn + 1, none⟩) (unhide HGW).2 (unhide HGN)).trans (unhide HP1).2.2)).mono ?_; rintro e w5 ⟨rfl, md, rfl⟩) | (go_at_call 17; refine (spoil_any (unhide HPB) (by have := unhide HPL; omega) (own_kept (unhide HP1).1 ((unhide HKX).drewN md) (unhide HGO))).mono ?_; rintro e w6 ⟨rfl, -, hk6⟩; have HK6 := hide hk6; clear hk6))
    go_ret
    exact ⟨rfl, TwiP.of (K := [g]) (unhide HK1) (fun x hx => by simp at hx; subst hx; exact (unhide HGW).1) ((unhide H1).step (J := fun s' => Iv (A + 10 + pn) s' ∧ ((kd = 10 ∨ kd = 11) → Iv A s')) (unhide HJ) (unhide HP) (unhide HP2) ((((Kept.refl [] w3).drewN md).mono (by simp)).trans (unhide HK6) (fun x hx => Or.inl hx)) (fun x hx => by simp at hx; subst hx; exact ⟨(unhide HGW).2, fun hm => unhide HGN (List.mem_append_left G hm), fun hm => unhide HGN (List.mem_append_right F hm)⟩))⟩

  by_cases hk3 : kd = 3
  · have HQ := hide (fun W (hW : Twi W o q F G s) => vnum_h hW.m n hn (unhide HBL))
    have HR := hide (fun W (hW : Wh W o F s) => wnum_h hW n hn (unhide HBL))
    rw [hvr] at HR
    rw [hvq] at HQ
    obtain ⟨RES, hRES⟩ : ∃ RES, wLay s (form n) = RES := ⟨_, rfl⟩
    have HJ : Hid (Iv (A + 10 + pn) RES ∧ ((kd = 10 ∨ kd = 11) → Iv A RES)) := by
      unfold Hid
      rw [← hRES]
      exact ⟨((unhide HIV).lay _ (form_byte _)).mono (by have := form_le10 n hn; omega), fun hh => by omega⟩
    rw [hRES] at HQ HR
    have t1 : (kd == 1) = false := by rw [beq_eq_false_iff_ne]; omega
    have t2 : (kd == 2) = false := by rw [beq_eq_false_iff_ne]; omega
    have t3 : (kd == 3) = true := by rw [beq_iff_eq]; omega
    clear hk1 hk2 hk3 hRES
    go_enter Try.func12, Try.ntmps12
    go_wp2_with (first | (go_at_call 14; refine (unhide HLE).mono ?_; rintro e w1 ⟨g, cap, rfl, hc1, ho1, hk1⟩; rw [unhide HPN] at hc1 ho1 ⊢; have hp1 := lent_parts (unhide HPN) ho1; have HO1 := hide ho1; have HP1 := hide hp1; have HC1 := hide hc1; have HK1 := hide ((unhide HK0).trans hk1 (by simp)); have HGW : Hid (w.heap.size ≤ g ∧ g < w1.heap.size) := (by have h1 := (ho1.lt g rfl); have h2 := (unhide HK0).size; simp at h1; exact hide ⟨by omega, by omega⟩); have H1 := hide ((unhide HT).kept (unhide HK1) (by simp) (by simp)); have HBX := hide (unhide HB _ hk1); obtain ⟨d0, d1, d2, d3, d4⟩ := unhide HBX _ (Kept.refl _ _); clear ho1 hp1 hk1 hc1 HLE) | (go_at_call 42; refine (unhide HQ _ (unhide H1) ).mono ?_; rintro e w2 ⟨rfl, hp⟩; have HP := hide hp; have HKM : Hid (Kept (F ++ G) w1 w2) := hide (hp.choose_spec.2.1.mono (fun x hx => Or.inl (List.mem_append_right F hx))); have HGN : Hid (g ∉ F ++ G) := hide (fun hm => (by have h1 := unhide HFG g hm; have h2 := (unhide HGW).1; omega)); have HGO : Hid (∀ k, (Value.slice (some ⟨g, 0, none⟩) pn cap).ownBlock = some k → k ∉ F ++ G) := hide (fun k hk => (by have e0 : (some g : Option Nat) = some k := hk; simp only [Option.some.injEq] at e0; subst e0; exact unhide HGN)); obtain ⟨x0, x1, x2, x3, x4⟩ := unhide HBX _ (unhide HKM); clear hp HQ) | (go_at_call 43; refine (unhide HR _ ((unhide H1).behind (unhide HP)) ).mono ?_; rintro e w3 ⟨rfl, hp2⟩; have HP2 := hide hp2; have HKX : Hid (Kept (F ++ G) w1 w3) := hide ((unhide HKM).trans (hp2.choose_spec.2.1) (fun x hx => Or.inl (List.mem_append_left G hx))); obtain ⟨y0, y1, y2, y3, y4⟩ := unhide HBX _ (unhide HKX); clear hp2 HR) | (go_at_call 16; refine (kept_yes (n := pn) (P := P) (unhide HPN).symm (by have := unhide HPL; omega) (unhide HC1) (sees_own (unhide HPN) (own_kept (unhide HP1).1 (unhide HKX) (unhide HGO))) ((unhide HFP).wide ((((unhide HK1).mono (by simp)).trans (unhide HKX) (fun x hx => Or.inl hx)))) (((unhide HKX).cell (p := ⟨g, pn, none⟩) (unhide HGW).2 (unhide HGN)).trans (unhide HP1).2.1) (((unhide HKX).cell (p := ⟨g, pn + 1, none⟩) (unhide HGW).2 (unhide HGN)).trans (unhide HP1).2.2)).mono ?_; rintro e w5 ⟨rfl, md, rfl⟩) | (go_at_call 17; refine (spoil_any (unhide HPB) (by have := unhide HPL; omega) (own_kept (unhide HP1).1 ((unhide HKX).drewN md) (unhide HGO))).mono ?_; rintro e w6 ⟨rfl, -, hk6⟩; have HK6 := hide hk6; clear hk6))
    go_ret
    exact ⟨rfl, TwiP.of (K := [g]) (unhide HK1) (fun x hx => by simp at hx; subst hx; exact (unhide HGW).1) ((unhide H1).step (J := fun s' => Iv (A + 10 + pn) s' ∧ ((kd = 10 ∨ kd = 11) → Iv A s')) (unhide HJ) (unhide HP) (unhide HP2) ((((Kept.refl [] w3).drewN md).mono (by simp)).trans (unhide HK6) (fun x hx => Or.inl hx)) (fun x hx => by simp at hx; subst hx; exact ⟨(unhide HGW).2, fun hm => unhide HGN (List.mem_append_left G hm), fun hm => unhide HGN (List.mem_append_right F hm)⟩))⟩

  by_cases hk4 : kd = 4
  · have HQ := hide (fun W (hW : Twi W o q F G s) => vint_h hW.m i g1 g2 (unhide HBL))
    have HR := hide (fun W (hW : Wh W o F s) => wint_h hW i g1 g2 (unhide HBL))
    rw [hvr] at HR
    rw [hvq] at HQ
    obtain ⟨RES, hRES⟩ : ∃ RES, wLay s (form (fold i)) = RES := ⟨_, rfl⟩
    have HJ : Hid (Iv (A + 10 + pn) RES ∧ ((kd = 10 ∨ kd = 11) → Iv A RES)) := by
      unfold Hid
      rw [← hRES]
      exact ⟨((unhide HIV).lay _ (form_byte _)).mono (by have := form_le10 (fold i) (fold_lt i g1 g2); omega), fun hh => by omega⟩
    rw [hRES] at HQ HR
    have t1 : (kd == 1) = false := by rw [beq_eq_false_iff_ne]; omega
    have t2 : (kd == 2) = false := by rw [beq_eq_false_iff_ne]; omega
    have t3 : (kd == 3) = false := by rw [beq_eq_false_iff_ne]; omega
    have t4 : (kd == 4) = true := by rw [beq_iff_eq]; omega
    clear hk1 hk2 hk3 hk4 hRES
    go_enter Try.func12, Try.ntmps12
    go_wp2_with (first | (go_at_call 14; refine (unhide HLE).mono ?_; rintro e w1 ⟨g, cap, rfl, hc1, ho1, hk1⟩; rw [unhide HPN] at hc1 ho1 ⊢; have hp1 := lent_parts (unhide HPN) ho1; have HO1 := hide ho1; have HP1 := hide hp1; have HC1 := hide hc1; have HK1 := hide ((unhide HK0).trans hk1 (by simp)); have HGW : Hid (w.heap.size ≤ g ∧ g < w1.heap.size) := (by have h1 := (ho1.lt g rfl); have h2 := (unhide HK0).size; simp at h1; exact hide ⟨by omega, by omega⟩); have H1 := hide ((unhide HT).kept (unhide HK1) (by simp) (by simp)); have HBX := hide (unhide HB _ hk1); obtain ⟨d0, d1, d2, d3, d4⟩ := unhide HBX _ (Kept.refl _ _); clear ho1 hp1 hk1 hc1 HLE) | (go_at_call 44; refine (unhide HQ _ (unhide H1) ).mono ?_; rintro e w2 ⟨rfl, hp⟩; have HP := hide hp; have HKM : Hid (Kept (F ++ G) w1 w2) := hide (hp.choose_spec.2.1.mono (fun x hx => Or.inl (List.mem_append_right F hx))); have HGN : Hid (g ∉ F ++ G) := hide (fun hm => (by have h1 := unhide HFG g hm; have h2 := (unhide HGW).1; omega)); have HGO : Hid (∀ k, (Value.slice (some ⟨g, 0, none⟩) pn cap).ownBlock = some k → k ∉ F ++ G) := hide (fun k hk => (by have e0 : (some g : Option Nat) = some k := hk; simp only [Option.some.injEq] at e0; subst e0; exact unhide HGN)); obtain ⟨x0, x1, x2, x3, x4⟩ := unhide HBX _ (unhide HKM); clear hp HQ) | (go_at_call 26; refine (unhide HR _ ((unhide H1).behind (unhide HP)) ).mono ?_; rintro e w3 ⟨rfl, hp2⟩; have HP2 := hide hp2; have HKX : Hid (Kept (F ++ G) w1 w3) := hide ((unhide HKM).trans (hp2.choose_spec.2.1) (fun x hx => Or.inl (List.mem_append_left G hx))); obtain ⟨y0, y1, y2, y3, y4⟩ := unhide HBX _ (unhide HKX); clear hp2 HR) | (go_at_call 16; refine (kept_yes (n := pn) (P := P) (unhide HPN).symm (by have := unhide HPL; omega) (unhide HC1) (sees_own (unhide HPN) (own_kept (unhide HP1).1 (unhide HKX) (unhide HGO))) ((unhide HFP).wide ((((unhide HK1).mono (by simp)).trans (unhide HKX) (fun x hx => Or.inl hx)))) (((unhide HKX).cell (p := ⟨g, pn, none⟩) (unhide HGW).2 (unhide HGN)).trans (unhide HP1).2.1) (((unhide HKX).cell (p := ⟨g, pn + 1, none⟩) (unhide HGW).2 (unhide HGN)).trans (unhide HP1).2.2)).mono ?_; rintro e w5 ⟨rfl, md, rfl⟩) | (go_at_call 17; refine (spoil_any (unhide HPB) (by have := unhide HPL; omega) (own_kept (unhide HP1).1 ((unhide HKX).drewN md) (unhide HGO))).mono ?_; rintro e w6 ⟨rfl, -, hk6⟩; have HK6 := hide hk6; clear hk6))
    go_ret
    exact ⟨rfl, TwiP.of (K := [g]) (unhide HK1) (fun x hx => by simp at hx; subst hx; exact (unhide HGW).1) ((unhide H1).step (J := fun s' => Iv (A + 10 + pn) s' ∧ ((kd = 10 ∨ kd = 11) → Iv A s')) (unhide HJ) (unhide HP) (unhide HP2) ((((Kept.refl [] w3).drewN md).mono (by simp)).trans (unhide HK6) (fun x hx => Or.inl hx)) (fun x hx => by simp at hx; subst hx; exact ⟨(unhide HGW).2, fun hm => unhide HGN (List.mem_append_left G hm), fun hm => unhide HGN (List.mem_append_right F hm)⟩))⟩

  by_cases hk5 : kd = 5
  · have HQ := hide (fun W (hW : Twi W o q F G s) => vreal_h hW.m n hn (unhide HBL))
    have HR := hide (fun W (hW : Wh W o F s) => wreal_h hW n hn (unhide HBL))
    rw [hvr] at HR
    rw [hvq] at HQ
    obtain ⟨RES, hRES⟩ : ∃ RES, wLay s (be8 (canon n)) = RES := ⟨_, rfl⟩
    have HJ : Hid (Iv (A + 10 + pn) RES ∧ ((kd = 10 ∨ kd = 11) → Iv A RES)) := by
      unfold Hid
      rw [← hRES]
      exact ⟨((unhide HIV).lay _ (be8_lt _ (by unfold canon oneNaN; split <;> omega))).mono (by rw [show (be8 (canon n)).length = 8 from rfl]; omega), fun hh => by omega⟩
    rw [hRES] at HQ HR
    have t1 : (kd == 1) = false := by rw [beq_eq_false_iff_ne]; omega
    have t2 : (kd == 2) = false := by rw [beq_eq_false_iff_ne]; omega
    have t3 : (kd == 3) = false := by rw [beq_eq_false_iff_ne]; omega
    have t4 : (kd == 4) = false := by rw [beq_eq_false_iff_ne]; omega
    have t5 : (kd == 5) = true := by rw [beq_iff_eq]; omega
    clear hk1 hk2 hk3 hk4 hk5 hRES
    go_enter Try.func12, Try.ntmps12
    go_wp2_with (first | (go_at_call 14; refine (unhide HLE).mono ?_; rintro e w1 ⟨g, cap, rfl, hc1, ho1, hk1⟩; rw [unhide HPN] at hc1 ho1 ⊢; have hp1 := lent_parts (unhide HPN) ho1; have HO1 := hide ho1; have HP1 := hide hp1; have HC1 := hide hc1; have HK1 := hide ((unhide HK0).trans hk1 (by simp)); have HGW : Hid (w.heap.size ≤ g ∧ g < w1.heap.size) := (by have h1 := (ho1.lt g rfl); have h2 := (unhide HK0).size; simp at h1; exact hide ⟨by omega, by omega⟩); have H1 := hide ((unhide HT).kept (unhide HK1) (by simp) (by simp)); have HBX := hide (unhide HB _ hk1); obtain ⟨d0, d1, d2, d3, d4⟩ := unhide HBX _ (Kept.refl _ _); clear ho1 hp1 hk1 hc1 HLE) | (go_at_call 45; refine (unhide HQ _ (unhide H1) ).mono ?_; rintro e w2 ⟨rfl, hp⟩; have HP := hide hp; have HKM : Hid (Kept (F ++ G) w1 w2) := hide (hp.choose_spec.2.1.mono (fun x hx => Or.inl (List.mem_append_right F hx))); have HGN : Hid (g ∉ F ++ G) := hide (fun hm => (by have h1 := unhide HFG g hm; have h2 := (unhide HGW).1; omega)); have HGO : Hid (∀ k, (Value.slice (some ⟨g, 0, none⟩) pn cap).ownBlock = some k → k ∉ F ++ G) := hide (fun k hk => (by have e0 : (some g : Option Nat) = some k := hk; simp only [Option.some.injEq] at e0; subst e0; exact unhide HGN)); obtain ⟨x0, x1, x2, x3, x4⟩ := unhide HBX _ (unhide HKM); clear hp HQ) | (go_at_call 30; refine (unhide HR _ ((unhide H1).behind (unhide HP)) ).mono ?_; rintro e w3 ⟨rfl, hp2⟩; have HP2 := hide hp2; have HKX : Hid (Kept (F ++ G) w1 w3) := hide ((unhide HKM).trans (hp2.choose_spec.2.1) (fun x hx => Or.inl (List.mem_append_left G hx))); obtain ⟨y0, y1, y2, y3, y4⟩ := unhide HBX _ (unhide HKX); clear hp2 HR) | (go_at_call 16; refine (kept_yes (n := pn) (P := P) (unhide HPN).symm (by have := unhide HPL; omega) (unhide HC1) (sees_own (unhide HPN) (own_kept (unhide HP1).1 (unhide HKX) (unhide HGO))) ((unhide HFP).wide ((((unhide HK1).mono (by simp)).trans (unhide HKX) (fun x hx => Or.inl hx)))) (((unhide HKX).cell (p := ⟨g, pn, none⟩) (unhide HGW).2 (unhide HGN)).trans (unhide HP1).2.1) (((unhide HKX).cell (p := ⟨g, pn + 1, none⟩) (unhide HGW).2 (unhide HGN)).trans (unhide HP1).2.2)).mono ?_; rintro e w5 ⟨rfl, md, rfl⟩) | (go_at_call 17; refine (spoil_any (unhide HPB) (by have := unhide HPL; omega) (own_kept (unhide HP1).1 ((unhide HKX).drewN md) (unhide HGO))).mono ?_; rintro e w6 ⟨rfl, -, hk6⟩; have HK6 := hide hk6; clear hk6))
    go_ret
    exact ⟨rfl, TwiP.of (K := [g]) (unhide HK1) (fun x hx => by simp at hx; subst hx; exact (unhide HGW).1) ((unhide H1).step (J := fun s' => Iv (A + 10 + pn) s' ∧ ((kd = 10 ∨ kd = 11) → Iv A s')) (unhide HJ) (unhide HP) (unhide HP2) ((((Kept.refl [] w3).drewN md).mono (by simp)).trans (unhide HK6) (fun x hx => Or.inl hx)) (fun x hx => by simp at hx; subst hx; exact ⟨(unhide HGW).2, fun hm => unhide HGN (List.mem_append_left G hm), fun hm => unhide HGN (List.mem_append_right F hm)⟩))⟩

  by_cases hk6 : kd = 6
  · have HQ := hide (fun W (hW : Twi W o q F G s) (hF : Far W (.slice pa pn pc) P G) => vraw_h hW.m _ P hF (unhide HBL2))
    have HR := hide (fun W (hW : Wh W o F s) (gg cc : Nat) (hF : Far W (.slice (some ⟨gg, 0, none⟩) pn cc) P F) => wraw_h hW (some ⟨gg, 0, none⟩) pn cc P hF (unhide HBL2))
    rw [hvr] at HR
    rw [hvq] at HQ
    obtain ⟨RES, hRES⟩ : ∃ RES, wLay s P = RES := ⟨_, rfl⟩
    have HJ : Hid (Iv (A + 10 + pn) RES ∧ ((kd = 10 ∨ kd = 11) → Iv A RES)) := by
      unfold Hid
      rw [← hRES]
      exact ⟨((unhide HIV).lay _ (unhide HPB)).mono (by rw [unhide HPN]; omega), fun hh => by omega⟩
    rw [hRES] at HQ HR
    have t1 : (kd == 1) = false := by rw [beq_eq_false_iff_ne]; omega
    have t2 : (kd == 2) = false := by rw [beq_eq_false_iff_ne]; omega
    have t3 : (kd == 3) = false := by rw [beq_eq_false_iff_ne]; omega
    have t4 : (kd == 4) = false := by rw [beq_eq_false_iff_ne]; omega
    have t5 : (kd == 5) = false := by rw [beq_eq_false_iff_ne]; omega
    have t6 : (kd == 6) = true := by rw [beq_iff_eq]; omega
    clear hk1 hk2 hk3 hk4 hk5 hk6 hRES
    go_enter Try.func12, Try.ntmps12
    go_wp2_with (first | (go_at_call 14; refine (unhide HLE).mono ?_; rintro e w1 ⟨g, cap, rfl, hc1, ho1, hk1⟩; rw [unhide HPN] at hc1 ho1 ⊢; have hp1 := lent_parts (unhide HPN) ho1; have HO1 := hide ho1; have HP1 := hide hp1; have HC1 := hide hc1; have HK1 := hide ((unhide HK0).trans hk1 (by simp)); have HGW : Hid (w.heap.size ≤ g ∧ g < w1.heap.size) := (by have h1 := (ho1.lt g rfl); have h2 := (unhide HK0).size; simp at h1; exact hide ⟨by omega, by omega⟩); have H1 := hide ((unhide HT).kept (unhide HK1) (by simp) (by simp)); have HBX := hide (unhide HB _ hk1); obtain ⟨d0, d1, d2, d3, d4⟩ := unhide HBX _ (Kept.refl _ _); have HFM := hide (((unhide HFP).less (fun x hx => List.mem_append_right F hx)).keep (unhide HK1)); clear ho1 hp1 hk1 hc1 HLE) | (go_at_call 46; refine (unhide HQ _ (unhide H1) (unhide HFM)).mono ?_; rintro e w2 ⟨rfl, hp⟩; have HP := hide hp; have HKM : Hid (Kept (F ++ G) w1 w2) := hide (hp.choose_spec.2.1.mono (fun x hx => Or.inl (List.mem_append_right F hx))); have HGN : Hid (g ∉ F ++ G) := hide (fun hm => (by have h1 := unhide HFG g hm; have h2 := (unhide HGW).1; omega)); have HGO : Hid (∀ k, (Value.slice (some ⟨g, 0, none⟩) pn cap).ownBlock = some k → k ∉ F ++ G) := hide (fun k hk => (by have e0 : (some g : Option Nat) = some k := hk; simp only [Option.some.injEq] at e0; subst e0; exact unhide HGN)); have HFW : Hid (Far w2 (.slice (some ⟨g, 0, none⟩) pn cap) P F) := (far_lent (unhide HPN) (own_kept (unhide HP1).1 (unhide HKM) (unhide HGO)) (fun hm => by have h1 := unhide HFG g (List.mem_append_left G hm); have h2 := (unhide HGW).1; omega)); obtain ⟨x0, x1, x2, x3, x4⟩ := unhide HBX _ (unhide HKM); clear hp HQ) | (go_at_call 47; refine (unhide HR _ ((unhide H1).behind (unhide HP)) _ _ (unhide HFW)).mono ?_; rintro e w3 ⟨rfl, hp2⟩; have HP2 := hide hp2; have HKX : Hid (Kept (F ++ G) w1 w3) := hide ((unhide HKM).trans (hp2.choose_spec.2.1) (fun x hx => Or.inl (List.mem_append_left G hx))); obtain ⟨y0, y1, y2, y3, y4⟩ := unhide HBX _ (unhide HKX); clear hp2 HR) | (go_at_call 16; refine (kept_yes (n := pn) (P := P) (unhide HPN).symm (by have := unhide HPL; omega) (unhide HC1) (sees_own (unhide HPN) (own_kept (unhide HP1).1 (unhide HKX) (unhide HGO))) ((unhide HFP).wide ((((unhide HK1).mono (by simp)).trans (unhide HKX) (fun x hx => Or.inl hx)))) (((unhide HKX).cell (p := ⟨g, pn, none⟩) (unhide HGW).2 (unhide HGN)).trans (unhide HP1).2.1) (((unhide HKX).cell (p := ⟨g, pn + 1, none⟩) (unhide HGW).2 (unhide HGN)).trans (unhide HP1).2.2)).mono ?_; rintro e w5 ⟨rfl, md, rfl⟩) | (go_at_call 17; refine (spoil_any (unhide HPB) (by have := unhide HPL; omega) (own_kept (unhide HP1).1 ((unhide HKX).drewN md) (unhide HGO))).mono ?_; rintro e w6 ⟨rfl, -, hk6⟩; have HK6 := hide hk6; clear hk6))
    go_ret
    exact ⟨rfl, TwiP.of (K := [g]) (unhide HK1) (fun x hx => by simp at hx; subst hx; exact (unhide HGW).1) ((unhide H1).step (J := fun s' => Iv (A + 10 + pn) s' ∧ ((kd = 10 ∨ kd = 11) → Iv A s')) (unhide HJ) (unhide HP) (unhide HP2) ((((Kept.refl [] w3).drewN md).mono (by simp)).trans (unhide HK6) (fun x hx => Or.inl hx)) (fun x hx => by simp at hx; subst hx; exact ⟨(unhide HGW).2, fun hm => unhide HGN (List.mem_append_left G hm), fun hm => unhide HGN (List.mem_append_right F hm)⟩))⟩

  by_cases hk7 : kd = 7
  · have HQ := hide (fun W (hW : Twi W o q F G s) (hF : Far W (.slice pa pn pc) P G) => vtext_h hW.m _ P hF (unhide HBL2))
    have HR := hide (fun W (hW : Wh W o F s) (gg cc : Nat) (hF : Far W (.slice (some ⟨gg, 0, none⟩) pn cc) P F) => wtext_h hW (some ⟨gg, 0, none⟩) pn cc P hF (unhide HPN) (unhide HBL2))
    rw [hvr] at HR
    rw [hvq] at HQ
    obtain ⟨RES, hRES⟩ : ∃ RES, wLay s (form P.length ++ P) = RES := ⟨_, rfl⟩
    have HJ : Hid (Iv (A + 10 + pn) RES ∧ ((kd = 10 ∨ kd = 11) → Iv A RES)) := by
      unfold Hid
      rw [← hRES]
      exact ⟨((unhide HIV).lay _ (fun x hx => by rcases List.mem_append.1 hx with hx | hx; exact form_byte _ x hx; exact unhide HPB x hx)).mono (by rw [List.length_append, unhide HPN]; have := form_le10 pn (by have := unhide HPL; omega); omega), fun hh => by omega⟩
    rw [hRES] at HQ HR
    have t1 : (kd == 1) = false := by rw [beq_eq_false_iff_ne]; omega
    have t2 : (kd == 2) = false := by rw [beq_eq_false_iff_ne]; omega
    have t3 : (kd == 3) = false := by rw [beq_eq_false_iff_ne]; omega
    have t4 : (kd == 4) = false := by rw [beq_eq_false_iff_ne]; omega
    have t5 : (kd == 5) = false := by rw [beq_eq_false_iff_ne]; omega
    have t6 : (kd == 6) = false := by rw [beq_eq_false_iff_ne]; omega
    have t7 : (kd == 7) = true := by rw [beq_iff_eq]; omega
    clear hk1 hk2 hk3 hk4 hk5 hk6 hk7 hRES
    go_enter Try.func12, Try.ntmps12
    go_wp2_with (first | (go_at_call 14; refine (unhide HLE).mono ?_; rintro e w1 ⟨g, cap, rfl, hc1, ho1, hk1⟩; rw [unhide HPN] at hc1 ho1 ⊢; have hp1 := lent_parts (unhide HPN) ho1; have HO1 := hide ho1; have HP1 := hide hp1; have HC1 := hide hc1; have HK1 := hide ((unhide HK0).trans hk1 (by simp)); have HGW : Hid (w.heap.size ≤ g ∧ g < w1.heap.size) := (by have h1 := (ho1.lt g rfl); have h2 := (unhide HK0).size; simp at h1; exact hide ⟨by omega, by omega⟩); have H1 := hide ((unhide HT).kept (unhide HK1) (by simp) (by simp)); have HBX := hide (unhide HB _ hk1); obtain ⟨d0, d1, d2, d3, d4⟩ := unhide HBX _ (Kept.refl _ _); have HFM := hide (((unhide HFP).less (fun x hx => List.mem_append_right F hx)).keep (unhide HK1)); clear ho1 hp1 hk1 hc1 HLE) | (go_at_call 48; refine (unhide HQ _ (unhide H1) (unhide HFM)).mono ?_; rintro e w2 ⟨rfl, hp⟩; have HP := hide hp; have HKM : Hid (Kept (F ++ G) w1 w2) := hide (hp.choose_spec.2.1.mono (fun x hx => Or.inl (List.mem_append_right F hx))); have HGN : Hid (g ∉ F ++ G) := hide (fun hm => (by have h1 := unhide HFG g hm; have h2 := (unhide HGW).1; omega)); have HGO : Hid (∀ k, (Value.slice (some ⟨g, 0, none⟩) pn cap).ownBlock = some k → k ∉ F ++ G) := hide (fun k hk => (by have e0 : (some g : Option Nat) = some k := hk; simp only [Option.some.injEq] at e0; subst e0; exact unhide HGN)); have HFW : Hid (Far w2 (.slice (some ⟨g, 0, none⟩) pn cap) P F) := (far_lent (unhide HPN) (own_kept (unhide HP1).1 (unhide HKM) (unhide HGO)) (fun hm => by have h1 := unhide HFG g (List.mem_append_left G hm); have h2 := (unhide HGW).1; omega)); obtain ⟨x0, x1, x2, x3, x4⟩ := unhide HBX _ (unhide HKM); clear hp HQ) | (go_at_call 49; refine (unhide HR _ ((unhide H1).behind (unhide HP)) _ _ (unhide HFW)).mono ?_; rintro e w3 ⟨rfl, hp2⟩; have HP2 := hide hp2; have HKX : Hid (Kept (F ++ G) w1 w3) := hide ((unhide HKM).trans (hp2.choose_spec.2.1) (fun x hx => Or.inl (List.mem_append_left G hx))); obtain ⟨y0, y1, y2, y3, y4⟩ := unhide HBX _ (unhide HKX); clear hp2 HR) | (go_at_call 16; refine (kept_yes (n := pn) (P := P) (unhide HPN).symm (by have := unhide HPL; omega) (unhide HC1) (sees_own (unhide HPN) (own_kept (unhide HP1).1 (unhide HKX) (unhide HGO))) ((unhide HFP).wide ((((unhide HK1).mono (by simp)).trans (unhide HKX) (fun x hx => Or.inl hx)))) (((unhide HKX).cell (p := ⟨g, pn, none⟩) (unhide HGW).2 (unhide HGN)).trans (unhide HP1).2.1) (((unhide HKX).cell (p := ⟨g, pn + 1, none⟩) (unhide HGW).2 (unhide HGN)).trans (unhide HP1).2.2)).mono ?_; rintro e w5 ⟨rfl, md, rfl⟩) | (go_at_call 17; refine (spoil_any (unhide HPB) (by have := unhide HPL; omega) (own_kept (unhide HP1).1 ((unhide HKX).drewN md) (unhide HGO))).mono ?_; rintro e w6 ⟨rfl, -, hk6⟩; have HK6 := hide hk6; clear hk6))
    go_ret
    exact ⟨rfl, TwiP.of (K := [g]) (unhide HK1) (fun x hx => by simp at hx; subst hx; exact (unhide HGW).1) ((unhide H1).step (J := fun s' => Iv (A + 10 + pn) s' ∧ ((kd = 10 ∨ kd = 11) → Iv A s')) (unhide HJ) (unhide HP) (unhide HP2) ((((Kept.refl [] w3).drewN md).mono (by simp)).trans (unhide HK6) (fun x hx => Or.inl hx)) (fun x hx => by simp at hx; subst hx; exact ⟨(unhide HGW).2, fun hm => unhide HGN (List.mem_append_left G hm), fun hm => unhide HGN (List.mem_append_right F hm)⟩))⟩

  by_cases hk8 : kd = 8
  · have HQ := hide (fun W (hW : Twi W o q F G s) => vopen_h hW.m)
    have HR := hide (fun W (hW : Wh W o F s) => wopen_h hW)
    rw [hvr] at HR
    rw [hvq] at HQ
    obtain ⟨RES, hRES⟩ : ∃ RES, wOpen s = RES := ⟨_, rfl⟩
    have HJ : Hid (Iv (A + 10 + pn) RES ∧ ((kd = 10 ∨ kd = 11) → Iv A RES)) := by
      unfold Hid
      rw [← hRES]
      exact ⟨((unhide HIV).open).mono (by omega), fun hh => by omega⟩
    rw [hRES] at HQ HR
    have t1 : (kd == 1) = false := by rw [beq_eq_false_iff_ne]; omega
    have t2 : (kd == 2) = false := by rw [beq_eq_false_iff_ne]; omega
    have t3 : (kd == 3) = false := by rw [beq_eq_false_iff_ne]; omega
    have t4 : (kd == 4) = false := by rw [beq_eq_false_iff_ne]; omega
    have t5 : (kd == 5) = false := by rw [beq_eq_false_iff_ne]; omega
    have t6 : (kd == 6) = false := by rw [beq_eq_false_iff_ne]; omega
    have t7 : (kd == 7) = false := by rw [beq_eq_false_iff_ne]; omega
    have t8 : (kd == 8) = true := by rw [beq_iff_eq]; omega
    clear hk1 hk2 hk3 hk4 hk5 hk6 hk7 hk8 hRES
    go_enter Try.func12, Try.ntmps12
    go_wp2_with (first | (go_at_call 14; refine (unhide HLE).mono ?_; rintro e w1 ⟨g, cap, rfl, hc1, ho1, hk1⟩; rw [unhide HPN] at hc1 ho1 ⊢; have hp1 := lent_parts (unhide HPN) ho1; have HO1 := hide ho1; have HP1 := hide hp1; have HC1 := hide hc1; have HK1 := hide ((unhide HK0).trans hk1 (by simp)); have HGW : Hid (w.heap.size ≤ g ∧ g < w1.heap.size) := (by have h1 := (ho1.lt g rfl); have h2 := (unhide HK0).size; simp at h1; exact hide ⟨by omega, by omega⟩); have H1 := hide ((unhide HT).kept (unhide HK1) (by simp) (by simp)); have HBX := hide (unhide HB _ hk1); obtain ⟨d0, d1, d2, d3, d4⟩ := unhide HBX _ (Kept.refl _ _); clear ho1 hp1 hk1 hc1 HLE) | (go_at_call 50; refine (unhide HQ _ (unhide H1) ).mono ?_; rintro e w2 ⟨rfl, hp⟩; have HP := hide hp; have HKM : Hid (Kept (F ++ G) w1 w2) := hide (hp.choose_spec.2.1.mono (fun x hx => Or.inl (List.mem_append_right F hx))); have HGN : Hid (g ∉ F ++ G) := hide (fun hm => (by have h1 := unhide HFG g hm; have h2 := (unhide HGW).1; omega)); have HGO : Hid (∀ k, (Value.slice (some ⟨g, 0, none⟩) pn cap).ownBlock = some k → k ∉ F ++ G) := hide (fun k hk => (by have e0 : (some g : Option Nat) = some k := hk; simp only [Option.some.injEq] at e0; subst e0; exact unhide HGN)); obtain ⟨x0, x1, x2, x3, x4⟩ := unhide HBX _ (unhide HKM); clear hp HQ) | (go_at_call 51; refine (unhide HR _ ((unhide H1).behind (unhide HP)) ).mono ?_; rintro e w3 ⟨rfl, hp2⟩; have HP2 := hide hp2; have HKX : Hid (Kept (F ++ G) w1 w3) := hide ((unhide HKM).trans (hp2.choose_spec.2.1) (fun x hx => Or.inl (List.mem_append_left G hx))); obtain ⟨y0, y1, y2, y3, y4⟩ := unhide HBX _ (unhide HKX); clear hp2 HR) | (go_at_call 16; refine (kept_yes (n := pn) (P := P) (unhide HPN).symm (by have := unhide HPL; omega) (unhide HC1) (sees_own (unhide HPN) (own_kept (unhide HP1).1 (unhide HKX) (unhide HGO))) ((unhide HFP).wide ((((unhide HK1).mono (by simp)).trans (unhide HKX) (fun x hx => Or.inl hx)))) (((unhide HKX).cell (p := ⟨g, pn, none⟩) (unhide HGW).2 (unhide HGN)).trans (unhide HP1).2.1) (((unhide HKX).cell (p := ⟨g, pn + 1, none⟩) (unhide HGW).2 (unhide HGN)).trans (unhide HP1).2.2)).mono ?_; rintro e w5 ⟨rfl, md, rfl⟩) | (go_at_call 17; refine (spoil_any (unhide HPB) (by have := unhide HPL; omega) (own_kept (unhide HP1).1 ((unhide HKX).drewN md) (unhide HGO))).mono ?_; rintro e w6 ⟨rfl, -, hk6⟩; have HK6 := hide hk6; clear hk6))
    go_ret
    exact ⟨rfl, TwiP.of (K := [g]) (unhide HK1) (fun x hx => by simp at hx; subst hx; exact (unhide HGW).1) ((unhide H1).step (J := fun s' => Iv (A + 10 + pn) s' ∧ ((kd = 10 ∨ kd = 11) → Iv A s')) (unhide HJ) (unhide HP) (unhide HP2) ((((Kept.refl [] w3).drewN md).mono (by simp)).trans (unhide HK6) (fun x hx => Or.inl hx)) (fun x hx => by simp at hx; subst hx; exact ⟨(unhide HGW).2, fun hm => unhide HGN (List.mem_append_left G hm), fun hm => unhide HGN (List.mem_append_right F hm)⟩))⟩

  by_cases hk9 : kd = 9
  · have HQ := hide (fun W (hW : Twi W o q F G s) => vclose_h hW.m (unhide HIV).2.1 (unhide HBL))
    have HR := hide (fun W (hW : Wh W o F s) => wclose_h hW (unhide HIV).2.1 (unhide HBL))
    rw [hvr] at HR
    rw [hvq] at HQ
    obtain ⟨RES, hRES⟩ : ∃ RES, wClose s = RES := ⟨_, rfl⟩
    have HJ : Hid (Iv (A + 10 + pn) RES ∧ ((kd = 10 ∨ kd = 11) → Iv A RES)) := by
      unfold Hid
      rw [← hRES]
      exact ⟨((unhide HIV).close (by have := unhide HHA; omega)).mono (by omega), fun hh => by omega⟩
    rw [hRES] at HQ HR
    have t1 : (kd == 1) = false := by rw [beq_eq_false_iff_ne]; omega
    have t2 : (kd == 2) = false := by rw [beq_eq_false_iff_ne]; omega
    have t3 : (kd == 3) = false := by rw [beq_eq_false_iff_ne]; omega
    have t4 : (kd == 4) = false := by rw [beq_eq_false_iff_ne]; omega
    have t5 : (kd == 5) = false := by rw [beq_eq_false_iff_ne]; omega
    have t6 : (kd == 6) = false := by rw [beq_eq_false_iff_ne]; omega
    have t7 : (kd == 7) = false := by rw [beq_eq_false_iff_ne]; omega
    have t8 : (kd == 8) = false := by rw [beq_eq_false_iff_ne]; omega
    have t9 : (kd == 9) = true := by rw [beq_iff_eq]; omega
    clear hk1 hk2 hk3 hk4 hk5 hk6 hk7 hk8 hk9 hRES
    go_enter Try.func12, Try.ntmps12
    go_wp2_with (first | (go_at_call 14; refine (unhide HLE).mono ?_; rintro e w1 ⟨g, cap, rfl, hc1, ho1, hk1⟩; rw [unhide HPN] at hc1 ho1 ⊢; have hp1 := lent_parts (unhide HPN) ho1; have HO1 := hide ho1; have HP1 := hide hp1; have HC1 := hide hc1; have HK1 := hide ((unhide HK0).trans hk1 (by simp)); have HGW : Hid (w.heap.size ≤ g ∧ g < w1.heap.size) := (by have h1 := (ho1.lt g rfl); have h2 := (unhide HK0).size; simp at h1; exact hide ⟨by omega, by omega⟩); have H1 := hide ((unhide HT).kept (unhide HK1) (by simp) (by simp)); have HBX := hide (unhide HB _ hk1); obtain ⟨d0, d1, d2, d3, d4⟩ := unhide HBX _ (Kept.refl _ _); clear ho1 hp1 hk1 hc1 HLE) | (go_at_call 52; refine (unhide HQ _ (unhide H1) ).mono ?_; rintro e w2 ⟨rfl, hp⟩; have HP := hide hp; have HKM : Hid (Kept (F ++ G) w1 w2) := hide (hp.choose_spec.2.1.mono (fun x hx => Or.inl (List.mem_append_right F hx))); have HGN : Hid (g ∉ F ++ G) := hide (fun hm => (by have h1 := unhide HFG g hm; have h2 := (unhide HGW).1; omega)); have HGO : Hid (∀ k, (Value.slice (some ⟨g, 0, none⟩) pn cap).ownBlock = some k → k ∉ F ++ G) := hide (fun k hk => (by have e0 : (some g : Option Nat) = some k := hk; simp only [Option.some.injEq] at e0; subst e0; exact unhide HGN)); obtain ⟨x0, x1, x2, x3, x4⟩ := unhide HBX _ (unhide HKM); clear hp HQ) | (go_at_call 53; refine (unhide HR _ ((unhide H1).behind (unhide HP)) ).mono ?_; rintro e w3 ⟨rfl, hp2⟩; have HP2 := hide hp2; have HKX : Hid (Kept (F ++ G) w1 w3) := hide ((unhide HKM).trans (hp2.choose_spec.2.1) (fun x hx => Or.inl (List.mem_append_left G hx))); obtain ⟨y0, y1, y2, y3, y4⟩ := unhide HBX _ (unhide HKX); clear hp2 HR) | (go_at_call 16; refine (kept_yes (n := pn) (P := P) (unhide HPN).symm (by have := unhide HPL; omega) (unhide HC1) (sees_own (unhide HPN) (own_kept (unhide HP1).1 (unhide HKX) (unhide HGO))) ((unhide HFP).wide ((((unhide HK1).mono (by simp)).trans (unhide HKX) (fun x hx => Or.inl hx)))) (((unhide HKX).cell (p := ⟨g, pn, none⟩) (unhide HGW).2 (unhide HGN)).trans (unhide HP1).2.1) (((unhide HKX).cell (p := ⟨g, pn + 1, none⟩) (unhide HGW).2 (unhide HGN)).trans (unhide HP1).2.2)).mono ?_; rintro e w5 ⟨rfl, md, rfl⟩) | (go_at_call 17; refine (spoil_any (unhide HPB) (by have := unhide HPL; omega) (own_kept (unhide HP1).1 ((unhide HKX).drewN md) (unhide HGO))).mono ?_; rintro e w6 ⟨rfl, -, hk6⟩; have HK6 := hide hk6; clear hk6))
    go_ret
    exact ⟨rfl, TwiP.of (K := [g]) (unhide HK1) (fun x hx => by simp at hx; subst hx; exact (unhide HGW).1) ((unhide H1).step (J := fun s' => Iv (A + 10 + pn) s' ∧ ((kd = 10 ∨ kd = 11) → Iv A s')) (unhide HJ) (unhide HP) (unhide HP2) ((((Kept.refl [] w3).drewN md).mono (by simp)).trans (unhide HK6) (fun x hx => Or.inl hx)) (fun x hx => by simp at hx; subst hx; exact ⟨(unhide HGW).2, fun hm => unhide HGN (List.mem_append_left G hm), fun hm => unhide HGN (List.mem_append_right F hm)⟩))⟩

  by_cases hk10 : kd = 10
  · have HQ := hide (fun W (hW : Twi W o q F G s) => vlen_h hW.m)
    have HR := hide (fun W (hW : Twi W o q F G s) => wlen_h hW.r)
    rw [hvr] at HR
    rw [hvq] at HQ
    obtain ⟨RES, hRES⟩ : ∃ RES, wLen s = RES := ⟨_, rfl⟩
    rw [hRES] at HQ HR
    have HJ : Hid (Iv (A + 10 + pn) s ∧ ((kd = 10 ∨ kd = 11) → Iv A s)) := ⟨(unhide HIV).mono (by omega), fun _ => unhide HIV⟩
    have t1 : (kd == 1) = false := by rw [beq_eq_false_iff_ne]; omega
    have t2 : (kd == 2) = false := by rw [beq_eq_false_iff_ne]; omega
    have t3 : (kd == 3) = false := by rw [beq_eq_false_iff_ne]; omega
    have t4 : (kd == 4) = false := by rw [beq_eq_false_iff_ne]; omega
    have t5 : (kd == 5) = false := by rw [beq_eq_false_iff_ne]; omega
    have t6 : (kd == 6) = false := by rw [beq_eq_false_iff_ne]; omega
    have t7 : (kd == 7) = false := by rw [beq_eq_false_iff_ne]; omega
    have t8 : (kd == 8) = false := by rw [beq_eq_false_iff_ne]; omega
    have t9 : (kd == 9) = false := by rw [beq_eq_false_iff_ne]; omega
    have t10 : (kd == 10) = true := by rw [beq_iff_eq]; omega
    clear hk1 hk2 hk3 hk4 hk5 hk6 hk7 hk8 hk9 hk10 hRES
    go_enter Try.func12, Try.ntmps12
    go_wp2_with (first | (go_at_call 14; refine (unhide HLE).mono ?_; rintro e w1 ⟨g, cap, rfl, hc1, ho1, hk1⟩; rw [unhide HPN] at hc1 ho1 ⊢; have hp1 := lent_parts (unhide HPN) ho1; have HO1 := hide ho1; have HP1 := hide hp1; have HC1 := hide hc1; have HK1 := hide ((unhide HK0).trans hk1 (by simp)); have HGW : Hid (w.heap.size ≤ g ∧ g < w1.heap.size) := (by have h1 := (ho1.lt g rfl); have h2 := (unhide HK0).size; simp at h1; exact hide ⟨by omega, by omega⟩); have H1 := hide ((unhide HT).kept (unhide HK1) (by simp) (by simp)); have HBX := hide (unhide HB _ hk1); obtain ⟨d0, d1, d2, d3, d4⟩ := unhide HBX _ (Kept.refl _ _); clear ho1 hp1 hk1 hc1 HLE) | (go_at_call 54; refine (unhide HQ _ (unhide H1)).mono ?_; rintro e w2 ⟨rfl, rfl⟩; clear HQ) | (go_at_call 27; refine (unhide HR _ (unhide H1)).mono ?_; rintro e w3 ⟨rfl, rfl⟩; clear HR))
    go_ret
    exact ⟨rfl, TwiP.same (K := []) (unhide HT) (unhide HJ) (unhide HK1) (by simp)⟩
  by_cases hk11 : kd = 11
  · have HQ := hide (fun W (hW : Twi W o q F G s) => vdone_h hW.m)
    have HR := hide (fun W (hW : Twi W o q F G s) => wdone_h hW.r)
    rw [hvr] at HR
    rw [hvq] at HQ
    have hbx : (∀ x ∈ (wDone s).1, x < 256) ∧ (wDone s).1.length ≤ 2000000000 := by
      unfold wDone
      split
      · exact ⟨(fun x hx => by cases hx), by simp⟩
      · split
        · exact ⟨(fun x hx => by cases hx), by simp⟩
        · exact ⟨(unhide HIV).2.2, by have := (unhide HIV).1; have := unhide HHA; simp only; omega⟩
    obtain ⟨RES, hRES⟩ : ∃ RES, wDone s = RES := ⟨_, rfl⟩
    rw [hRES] at HQ HR hbx
    obtain ⟨RL, RC⟩ := RES
    simp only at hbx
    have HIN := hide hbx.1
    obtain ⟨BL, hBL⟩ : ∃ BL, RL.length = BL := ⟨_, rfl⟩
    have HBN := hide hBL
    have HLL : Hid (BL ≤ 2000000000) := by unfold Hid; omega
    have HJ : Hid (Iv (A + 10 + pn) s ∧ ((kd = 10 ∨ kd = 11) → Iv A s)) := ⟨(unhide HIV).mono (by omega), fun _ => unhide HIV⟩
    have tt : ((RC : Int) == (RC : Int)) = true := by simp
    have t1 : (kd == 1) = false := by rw [beq_eq_false_iff_ne]; omega
    have t2 : (kd == 2) = false := by rw [beq_eq_false_iff_ne]; omega
    have t3 : (kd == 3) = false := by rw [beq_eq_false_iff_ne]; omega
    have t4 : (kd == 4) = false := by rw [beq_eq_false_iff_ne]; omega
    have t5 : (kd == 5) = false := by rw [beq_eq_false_iff_ne]; omega
    have t6 : (kd == 6) = false := by rw [beq_eq_false_iff_ne]; omega
    have t7 : (kd == 7) = false := by rw [beq_eq_false_iff_ne]; omega
    have t8 : (kd == 8) = false := by rw [beq_eq_false_iff_ne]; omega
    have t9 : (kd == 9) = false := by rw [beq_eq_false_iff_ne]; omega
    have t10 : (kd == 10) = false := by rw [beq_eq_false_iff_ne]; omega
    have t11 : (kd == 11) = true := by rw [beq_iff_eq]; omega
    clear hk1 hk2 hk3 hk4 hk5 hk6 hk7 hk8 hk9 hk10 hk11 hRES hbx hBL
    go_enter Try.func12, Try.ntmps12
    go_wp2_with (first | (go_at_call 14; refine (unhide HLE).mono ?_; rintro e w1 ⟨g, cap, rfl, hc1, ho1, hk1⟩; rw [unhide HPN] at hc1 ho1 ⊢; have hp1 := lent_parts (unhide HPN) ho1; have HO1 := hide ho1; have HP1 := hide hp1; have HC1 := hide hc1; have HK1 := hide ((unhide HK0).trans hk1 (by simp)); have HGW : Hid (w.heap.size ≤ g ∧ g < w1.heap.size) := (by have h1 := (ho1.lt g rfl); have h2 := (unhide HK0).size; simp at h1; exact hide ⟨by omega, by omega⟩); have H1 := hide ((unhide HT).kept (unhide HK1) (by simp) (by simp)); have HBX := hide (unhide HB _ hk1); obtain ⟨d0, d1, d2, d3, d4⟩ := unhide HBX _ (Kept.refl _ _); clear ho1 hp1 hk1 hc1 HLE) | (go_at_call 55; refine (unhide HQ _ (unhide H1)).mono ?_; rintro e w2 ⟨⟨xa, xc, rfl, hx⟩, hk2⟩; simp only at hx ⊢; rw [unhide HBN] at hx ⊢; have HX := hide hx; have HK2 := hide hk2; have H2 := hide ((unhide H1).kept hk2 (by simp) (by simp)); clear hx hk2 HQ) | (go_at_call 13; refine (unhide HR _ (unhide H2)).mono ?_; rintro e w3 ⟨⟨ya, yc, rfl, hy⟩, hk3⟩; simp only at hy ⊢; rw [unhide HBN] at hy ⊢; have HY := hide hy; have HK3 := hide hk3; clear hy hk3 HR) | (go_at_call 22; refine (same_yes (sees_own (unhide HBN) (unhide HY)) (sees_own (unhide HBN) (own_kept (unhide HX) (unhide HK3) (by simp))) (by rw [unhide HBN]; have := unhide HLL; omega)).mono ?_; rintro e w5 ⟨rfl, md, rfl⟩) | (go_at_call 17; refine (spoilB (unhide HBN) (unhide HIN) (by have := unhide HLL; omega) (own_kept (unhide HY) ((Kept.refl [] w3).drewN md) (by simp))).mono ?_; rintro e w6 ⟨rfl, K, hk6, hK6⟩; have HK6 := hide hk6; have HKK := hide hK6; clear hk6 hK6))
    go_ret
    refine ⟨rfl, TwiP.same (K := K) (unhide HT) (unhide HJ) ((((((unhide HK1).trans (unhide HK2) (by simp)).trans (unhide HK3) (by simp)).drewN md).mono (by simp)).trans (unhide HK6) (fun x hx => Or.inl hx)) (fun x hx => ?_)⟩
    have h1 := (unhide HKK x hx).1
    have h2 := (unhide HK1).size
    have h3 := (unhide HK2).size
    omega
  have t1 : (kd == 1) = false := by rw [beq_eq_false_iff_ne]; omega
  have t2 : (kd == 2) = false := by rw [beq_eq_false_iff_ne]; omega
  have t3 : (kd == 3) = false := by rw [beq_eq_false_iff_ne]; omega
  have t4 : (kd == 4) = false := by rw [beq_eq_false_iff_ne]; omega
  have t5 : (kd == 5) = false := by rw [beq_eq_false_iff_ne]; omega
  have t6 : (kd == 6) = false := by rw [beq_eq_false_iff_ne]; omega
  have t7 : (kd == 7) = false := by rw [beq_eq_false_iff_ne]; omega
  have t8 : (kd == 8) = false := by rw [beq_eq_false_iff_ne]; omega
  have t9 : (kd == 9) = false := by rw [beq_eq_false_iff_ne]; omega
  have t10 : (kd == 10) = false := by rw [beq_eq_false_iff_ne]; omega
  have t11 : (kd == 11) = false := by rw [beq_eq_false_iff_ne]; omega
  have HJ : Hid (Iv (A + 10 + pn) s ∧ ((kd = 10 ∨ kd = 11) → Iv A s)) := ⟨(unhide HIV).mono (by omega), fun _ => unhide HIV⟩
  clear hk1 hk2 hk3 hk4 hk5 hk6 hk7 hk8 hk9 hk10 hk11
  go_enter Try.func12, Try.ntmps12
  go_wp2_with (first | (go_at_call 14; refine (unhide HLE).mono ?_; rintro e w1 ⟨g, cap, rfl, hc1, ho1, hk1⟩; rw [unhide HPN] at hc1 ho1 ⊢; have hp1 := lent_parts (unhide HPN) ho1; have HO1 := hide ho1; have HP1 := hide hp1; have HC1 := hide hc1; have HK1 := hide ((unhide HK0).trans hk1 (by simp)); have HGW : Hid (w.heap.size ≤ g ∧ g < w1.heap.size) := (by have h1 := (ho1.lt g rfl); have h2 := (unhide HK0).size; simp at h1; exact hide ⟨by omega, by omega⟩); have H1 := hide ((unhide HT).kept (unhide HK1) (by simp) (by simp)); have HBX := hide (unhide HB _ hk1); obtain ⟨d0, d1, d2, d3, d4⟩ := unhide HBX _ (Kept.refl _ _); have HKX := hide (Kept.refl (F ++ G) w1); have HGN : Hid (g ∉ F ++ G) := hide (fun hm => (by have h1 := unhide HFG g hm; have h2 := (unhide HGW).1; omega)); have HGO : Hid (∀ k, (Value.slice (some ⟨g, 0, none⟩) pn cap).ownBlock = some k → k ∉ F ++ G) := hide (fun k hk => (by have e0 : (some g : Option Nat) = some k := hk; simp only [Option.some.injEq] at e0; subst e0; exact unhide HGN)); clear ho1 hp1 hk1 hc1 HLE) | (go_at_call 16; refine (kept_yes (n := pn) (P := P) (unhide HPN).symm (by have := unhide HPL; omega) (unhide HC1) (sees_own (unhide HPN) (own_kept (unhide HP1).1 (unhide HKX) (unhide HGO))) ((unhide HFP).wide ((((unhide HK1).mono (by simp)).trans (unhide HKX) (fun x hx => Or.inl hx)))) (((unhide HKX).cell (p := ⟨g, pn, none⟩) (unhide HGW).2 (unhide HGN)).trans (unhide HP1).2.1) (((unhide HKX).cell (p := ⟨g, pn + 1, none⟩) (unhide HGW).2 (unhide HGN)).trans (unhide HP1).2.2)).mono ?_; rintro e w5 ⟨rfl, md, rfl⟩) | (go_at_call 17; refine (spoil_any (unhide HPB) (by have := unhide HPL; omega) (own_kept (unhide HP1).1 ((unhide HKX).drewN md) (unhide HGO))).mono ?_; rintro e w6 ⟨rfl, -, hk6⟩; have HK6 := hide hk6; clear hk6))
  go_ret
  exact ⟨rfl, TwiP.same (K := [g]) (unhide HT) (unhide HJ) (((((unhide HK1).drewN md).mono (by simp)).trans (unhide HK6) (fun x hx => Or.inl hx))) (fun x hx => by simp at hx; subst hx; exact (unhide HGW).1)⟩
end Go.Proofs.Ytiabhgkndejigaa

namespace Go.Proofs.Ytiabhgkndejigaa
open Go.RowKit

structure Pw where
  b : Nat
  c : Nat
  F : List Nat
  G : List Nat
  s : WS
def ptw (ps : List Pw) : List Value := ps.map fun p => .pointer (some ⟨p.b, 0, none⟩)
def ptv (ps : List Pw) : List Value := ps.map fun p => .pointer (some ⟨p.c, 0, none⟩)
theorem ptw_len (ps : List Pw) : (ptw ps).length = ps.length := by simp [ptw]
theorem ptv_len (ps : List Pw) : (ptv ps).length = ps.length := by simp [ptv]

/-- The rows vd, vm hold xs, ys; the pairs ps; no block twice. -/
structure Dua (A base : Nat) (w : World) (vd vm : Value) (xs ys : List Value) (ps : List Pw) : Prop where
  rd : w.ownsRow base 30 1 vd xs.length xs
  rm : w.ownsRow base 32 1 vm ys.length ys
  own : ∀ (i : Nat) (p : Pw), ps[i]? = some p → Twi w (some p.b) (some p.c) p.F p.G p.s ∧ ∀ x ∈ p.F ++ p.G, base ≤ x
  nd : ∀ (i j : Nat) (p q : Pw), ps[i]? = some p → ps[j]? = some q → i ≠ j → ∀ x ∈ p.F ++ p.G, x ∉ q.F ++ q.G
  ad : ∀ k, vd.ownBlock = some k → ∀ (i : Nat) (p : Pw), ps[i]? = some p → k ∉ p.F ++ p.G
  am : ∀ k, vm.ownBlock = some k → ∀ (i : Nat) (p : Pw), ps[i]? = some p → k ∉ p.F ++ p.G
  dm : ∀ k, vd.ownBlock = some k → vm.ownBlock ≠ some k
  iv : ∀ (i : Nat) (p : Pw), ps[i]? = some p → Iv A p.s
theorem Dua.nil (A base : Nat) (w : World) : Dua A base w (.slice none 0 0) (.slice none 0 0) [] [] [] :=
  ⟨World.ownsRow_nil _ _ _ _, World.ownsRow_nil _ _ _ _, (fun i p h => by simp at h), (fun i j p q h => by simp at h), (fun k h => by cases h), (fun k h => by cases h), (fun k h => by cases h), (fun i p h => by simp at h)⟩
def Dua.has (vd vm : Value) (ps : List Pw) (x : Nat) : Prop := vd.ownBlock = some x ∨ vm.ownBlock = some x ∨ ∃ (i : Nat) (p : Pw), ps[i]? = some p ∧ x ∈ p.F ++ p.G
theorem Twi.lt {w : World} {o q : Option Nat} {F G : List Nat} {s : WS} (h : Twi w o q F G s) : ∀ x ∈ F ++ G, x < w.heap.size := by
  intro x hx
  rcases List.mem_append.1 hx with hx | hx
  · exact h.r.lt x hx
  · exact h.m.lt x hx
theorem Dua.lt {A base : Nat} {w : World} {vd vm : Value} {xs ys : List Value} {ps : List Pw} (h : Dua A base w vd vm xs ys ps) {x : Nat} (hx : Dua.has vd vm ps x) : x < w.heap.size := by
  rcases hx with hx | hx | ⟨i, p, hp, hx⟩
  · exact (h.rd.lt x hx).2
  · exact (h.rm.lt x hx).2
  · exact (h.own i p hp).1.lt x hx
theorem Dua.keep {A base : Nat} {K : List Nat} {w w' : World} {vd vm : Value} {xs ys : List Value} {ps : List Pw} (h : Dua A base w vd vm xs ys ps) (k : Kept K w w') (hK : ∀ x ∈ K, ¬ Dua.has vd vm ps x) : Dua A base w' vd vm xs ys ps :=
  ⟨own_kept h.rd k (fun x hx hm => hK x hm (Or.inl hx)), own_kept h.rm k (fun x hx hm => hK x hm (Or.inr (Or.inl hx))),
    fun i p hp => ⟨(h.own i p hp).1.kept k (fun x hx hm => hK x hm (Or.inr (Or.inr ⟨i, p, hp, by simp [hx]⟩))) (fun x hx hm => hK x hm (Or.inr (Or.inr ⟨i, p, hp, by simp [hx]⟩))), (h.own i p hp).2⟩, h.nd, h.ad, h.am, h.dm, h.iv⟩
theorem Dua.kept {A base : Nat} {w w' : World} {vd vm : Value} {xs ys : List Value} {ps : List Pw} (h : Dua A base w vd vm xs ys ps) (k : Kept [] w w') : Dua A base w' vd vm xs ys ps := h.keep k (by simp)
/-- What is new is none of it. -/
theorem Dua.new {A base : Nat} {w : World} {vd vm : Value} {xs ys : List Value} {ps : List Pw} (h : Dua A base w vd vm xs ys ps) {x : Nat} (hx : w.heap.size ≤ x) : ¬ Dua.has vd vm ps x := fun hh => by have := h.lt hh; omega
theorem Dua.growD {A base : Nat} {w w' : World} {vd vd' vm : Value} {xs xs' ys : List Value} {ps : List Pw} (h : Dua A base w vd vm xs ys ps) (hg : w.grownBy w' vd.ownBlock) (ho : w'.ownsRow base 30 1 vd' xs'.length xs') (hat : vd'.ownBlock = vd.ownBlock ∨ vd'.ownBlock = some w.heap.size) : Dua A base w' vd' vm xs' ys ps := by
  have k : Kept vd.ownBlock.toList w w' := (Kept.refl _ _).grown hg (fun q hq => Or.inl (by simp [hq]))
  have hin : ∀ x, x ∈ vd.ownBlock.toList → vd.ownBlock = some x := fun x hx => Option.mem_toList.1 hx
  refine ⟨ho, own_kept h.rm k (fun x hx hm => h.dm x (hin x hm) hx), fun i p hp => ⟨(h.own i p hp).1.kept k (fun x hx hm => h.ad x (hin x hm) i p hp (by simp [hx])) (fun x hx hm => h.ad x (hin x hm) i p hp (by simp [hx])), (h.own i p hp).2⟩, h.nd, ?_, h.am, ?_, h.iv⟩
  · intro x hx i p hp hm
    rcases hat with e | e
    · exact h.ad x (by rw [← e]; exact hx) i p hp hm
    · rw [e] at hx; simp at hx; have := (h.own i p hp).1.lt x hm; omega
  · intro x hx hm
    rcases hat with e | e
    · exact h.dm x (by rw [← e]; exact hx) hm
    · rw [e] at hx; simp at hx; have := (h.rm.lt x hm).2; omega
theorem Dua.growM {A base : Nat} {w w' : World} {vd vm vm' : Value} {xs ys ys' : List Value} {ps : List Pw} (h : Dua A base w vd vm xs ys ps) (hg : w.grownBy w' vm.ownBlock) (ho : w'.ownsRow base 32 1 vm' ys'.length ys') (hat : vm'.ownBlock = vm.ownBlock ∨ vm'.ownBlock = some w.heap.size) : Dua A base w' vd vm' xs ys' ps := by
  have k : Kept vm.ownBlock.toList w w' := (Kept.refl _ _).grown hg (fun q hq => Or.inl (by simp [hq]))
  have hin : ∀ x, x ∈ vm.ownBlock.toList → vm.ownBlock = some x := fun x hx => Option.mem_toList.1 hx
  refine ⟨own_kept h.rd k (fun x hx hm => h.dm x hx (hin x hm)), ho, fun i p hp => ⟨(h.own i p hp).1.kept k (fun x hx hm => h.am x (hin x hm) i p hp (by simp [hx])) (fun x hx hm => h.am x (hin x hm) i p hp (by simp [hx])), (h.own i p hp).2⟩, h.nd, h.ad, ?_, ?_, h.iv⟩
  · intro x hx i p hp hm
    rcases hat with e | e
    · exact h.am x (by rw [← e]; exact hx) i p hp hm
    · rw [e] at hx; simp at hx; have := (h.own i p hp).1.lt x hm; omega
  · intro x hx hm
    rcases hat with e | e
    · exact h.dm x hx (by rw [← e]; exact hm)
    · rw [e] at hm; simp at hm; have := (h.rd.lt x hx).2; omega
theorem Dua.push {A base : Nat} {w : World} {vd vm : Value} {xs ys : List Value} {ps : List Pw} (h : Dua A base w vd vm xs ys ps) (p : Pw) (hp : Twi w (some p.b) (some p.c) p.F p.G p.s) (hb : ∀ x ∈ p.F ++ p.G, base ≤ x) (hn : ∀ x ∈ p.F ++ p.G, ¬ Dua.has vd vm ps x) (hi : Iv A p.s) : Dua A base w vd vm xs ys (ps ++ [p]) := by
  have cs : ∀ (i : Nat) (q : Pw), (ps ++ [p])[i]? = some q → (ps[i]? = some q) ∨ (i = ps.length ∧ q = p) := by
    intro i q hq
    rw [List.getElem?_append] at hq
    split at hq
    · exact Or.inl hq
    · rename_i hi
      simp only [List.getElem?_singleton] at hq
      split at hq
      · cases hq; right; exact ⟨by omega, rfl⟩
      · cases hq
  refine ⟨h.rd, h.rm, fun i q hq => ?_, fun i j q r hq hr hij x hx hy => ?_, fun k hk i q hq hm => ?_, fun k hk i q hq hm => ?_, h.dm, fun i q hq => ?_⟩
  · rcases cs i q hq with h1 | ⟨_, rfl⟩
    · exact h.own i q h1
    · exact ⟨hp, hb⟩
  · rcases cs i q hq with h1 | ⟨h1, rfl⟩
    · rcases cs j r hr with h2 | ⟨h2, rfl⟩
      · exact h.nd i j q r h1 h2 hij x hx hy
      · exact hn x hy (Or.inr (Or.inr ⟨i, q, h1, hx⟩))
    · rcases cs j r hr with h2 | ⟨h2, rfl⟩
      · exact hn x hx (Or.inr (Or.inr ⟨j, r, h2, hy⟩))
      · omega
  · rcases cs i q hq with h1 | ⟨_, rfl⟩
    · exact h.ad k hk i q h1 hm
    · exact hn k hm (Or.inl hk)
  · rcases cs i q hq with h1 | ⟨_, rfl⟩
    · exact h.am k hk i q h1 hm
    · exact hn k hm (Or.inr (Or.inl hk))
  · rcases cs i q hq with h1 | ⟨_, rfl⟩
    · exact h.iv i q h1
    · exact hi
/-- One pair has gone on. -/
theorem Dua.step {A base : Nat} {w w' : World} {vd vm : Value} {xs ys : List Value} {ps : List Pw} (h : Dua A base w vd vm xs ys ps) {t : Nat} {p : Pw} (hp : ps[t]? = some p) {B : Nat} (hAB : A ≤ B) (hb : TwiP (Iv B) w (some p.b) (some p.c) p.F p.G w') (hbase : base ≤ w.heap.size) :
    ∃ ps', Dua B base w' vd vm xs ys ps' ∧ ps'.length = ps.length ∧ ptw ps' = ptw ps ∧ ptv ps' = ptv ps ∧ ∃ K, Kept K w w' ∧ ∀ x ∈ K, base ≤ x := by
  obtain ⟨F', G', s', ⟨h1, hJ⟩, h2, h3, h4⟩ := hb
  have htl := (List.getElem?_eq_some_iff.1 hp).1
  have hpo := h.own t p hp
  have hK : ∀ x ∈ p.F ++ p.G, base ≤ x := hpo.2
  have hnew : ∀ x ∈ F' ++ G', x ∈ p.F ++ p.G ∨ w.heap.size ≤ x := by
    intro x hx
    rcases List.mem_append.1 hx with hx | hx
    · rcases h3 x hx with h | h
      · exact Or.inl (by simp [h])
      · exact Or.inr h
    · rcases h4 x hx with h | h
      · exact Or.inl (by simp [h])
      · exact Or.inr h
  have cs : ∀ (i : Nat) (q : Pw), (ps.set t ⟨p.b, p.c, F', G', s'⟩)[i]? = some q → (i ≠ t ∧ ps[i]? = some q) ∨ (i = t ∧ q = ⟨p.b, p.c, F', G', s'⟩) := by
    intro i q hq
    rw [List.getElem?_set] at hq
    split at hq
    · rename_i he
      cases hq; right; exact ⟨he.symm, rfl⟩
    · rename_i he
      left; exact ⟨fun e => he e.symm, hq⟩
  refine ⟨ps.set t ⟨p.b, p.c, F', G', s'⟩, ⟨?_, ?_, fun i q hq => ?_, fun i j q r hq hr hij x hx hy => ?_, fun k hk i q hq hm => ?_, fun k hk i q hq hm => ?_, h.dm, fun i q hq => ?_⟩, by simp, ?_, ?_, _, h2, hK⟩
  · exact own_kept h.rd h2 (fun x hx => h.ad x hx t p hp)
  · exact own_kept h.rm h2 (fun x hx => h.am x hx t p hp)
  · rcases cs i q hq with ⟨hi, h5⟩ | ⟨_, rfl⟩
    · refine ⟨(h.own i q h5).1.kept h2 (fun x hx hm => h.nd i t q p h5 hp hi x (by simp [hx]) hm) (fun x hx hm => h.nd i t q p h5 hp hi x (by simp [hx]) hm), (h.own i q h5).2⟩
    · refine ⟨h1, fun x hx => ?_⟩
      rcases hnew x hx with h6 | h6
      · exact hK x h6
      · omega
  · rcases cs i q hq with ⟨hi, h5⟩ | ⟨hi, rfl⟩
    · rcases cs j r hr with ⟨hj, h6⟩ | ⟨hj, rfl⟩
      · exact h.nd i j q r h5 h6 hij x hx hy
      · rcases hnew x hy with h7 | h7
        · exact h.nd i t q p h5 hp hi x hx h7
        · have := (h.own i q h5).1.lt x hx; omega
    · rcases cs j r hr with ⟨hj, h6⟩ | ⟨hj, rfl⟩
      · rcases hnew x hx with h7 | h7
        · exact h.nd j t r p h6 hp hj x hy h7
        · have := (h.own j r h6).1.lt x hy; omega
      · omega
  · rcases cs i q hq with ⟨hi, h5⟩ | ⟨hi, rfl⟩
    · exact h.ad k hk i q h5 hm
    · rcases hnew k hm with h7 | h7
      · exact h.ad k hk t p hp h7
      · have := (h.rd.lt k hk).2; omega
  · rcases cs i q hq with ⟨hi, h5⟩ | ⟨hi, rfl⟩
    · exact h.am k hk i q h5 hm
    · rcases hnew k hm with h7 | h7
      · exact h.am k hk t p hp h7
      · have := (h.rm.lt k hk).2; omega
  · rcases cs i q hq with ⟨hi, h5⟩ | ⟨hi, rfl⟩
    · exact (h.iv i q h5).mono hAB
    · exact hJ
  · unfold ptw
    rw [List.map_set]
    apply List.ext_getElem?
    intro i
    rw [List.getElem?_set]
    split
    · rename_i he; subst he; simp [htl]; rw [(List.getElem?_eq_some_iff.1 hp).2]
    · rfl
  · unfold ptv
    rw [List.map_set]
    apply List.ext_getElem?
    intro i
    rw [List.getElem?_set]
    split
    · rename_i he; subst he; simp [htl]; rw [(List.getElem?_eq_some_iff.1 hp).2]
    · rfl
theorem Dua.more {A B base : Nat} {w : World} {vd vm : Value} {xs ys : List Value} {ps : List Pw} (h : Dua A base w vd vm xs ys ps) (hAB : A ≤ B) : Dua B base w vd vm xs ys ps :=
  ⟨h.rd, h.rm, h.own, h.nd, h.ad, h.am, h.dm, fun i p hp => (h.iv i p hp).mono hAB⟩
theorem far_old {w0 W : World} {v : Value} {P F : List Nat} (h : Wide w0 v P) (k : Kept [] w0 W) (hF : ∀ x ∈ F, w0.heap.size ≤ x) : Far W v P F := by
  rcases h with h | h
  · exact Or.inl ⟨h.kept k (by simp), fun q hq hm => by have := h.lt hq; have := hF q hm; omega⟩
  · exact Or.inr h
theorem Dua.addD {A base : Nat} {wr w4 w5 : World} {vd vd' vm : Value} {xs xs' ys : List Value} {ps : List Pw} (h : Dua A base wr vd vm xs ys ps) {g b : Nat} {F : List Nat} {s : WS} {o : Obj} (k : Kept [g] wr w4) (hg : wr.heap.size ≤ g) (hR : Ws w4 b F s) (hF : ∀ x ∈ F, wr.heap.size ≤ x)
    (hgr : (w4.alloc o).grownBy w5 vd.ownBlock) (ho : w5.ownsRow base 30 1 vd' xs'.length xs') (hat : vd'.ownBlock = vd.ownBlock ∨ vd'.ownBlock = some (w4.alloc o).heap.size) :
    Dua A base w5 vd' vm xs' ys ps ∧ Ws w5 b F s ∧ (∀ x ∈ F, ¬ Dua.has vd' vm ps x) ∧ Kept [g] wr w4 := by
  have d4 : Dua A base w4 vd vm xs ys ps := h.keep k (fun x hx => by simp at hx; subst hx; exact h.new hg)
  have d5 := (d4.kept ((Kept.refl [] w4).alloc o)).growD hgr ho hat
  have ka : Kept [] w4 (w4.alloc o) := (Kept.refl [] w4).alloc o
  have kg : Kept vd.ownBlock.toList (w4.alloc o) w5 := (Kept.refl _ _).grown hgr (fun q hq => Or.inl (by simp [hq]))
  refine ⟨d5, (hR.kept ka (by simp)).kept kg (fun x hx hm => ?_), fun x hx hh => ?_, k⟩
  · have h1 := (h.rd.lt x (Option.mem_toList.1 hm)).2
    have h2 := hF x hx
    omega
  · have h2 := hF x hx
    have h3 := hR.lt x hx
    rcases hh with hh | hh | hh
    · rcases hat with e | e
      · have := (h.rd.lt x (by rw [← e]; exact hh)).2; omega
      · rw [e] at hh; simp at hh; omega
    · have := (h.rm.lt x hh).2; omega
    · have := h.lt (Or.inr (Or.inr hh)); omega
theorem Dua.addM {A base : Nat} {w5 w6 w7 : World} {vd vm vm' : Value} {xs ys ys' : List Value} {ps : List Pw} (h : Dua A base w5 vd vm xs ys ps) {b c : Nat} {F G : List Nat} {s : WS} {o : Obj} (hb : base ≤ w5.heap.size) (hFb : ∀ x ∈ F, base ≤ x) (hR : Ws w5 b F s) (hn : ∀ x ∈ F, ¬ Dua.has vd vm ps x) (k : Kept [] w5 w6) (hQ : Vs w6 c G s) (hG : ∀ x ∈ G, w5.heap.size ≤ x)
    (hgr : (w6.alloc o).grownBy w7 vm.ownBlock) (ho : w7.ownsRow base 32 1 vm' ys'.length ys') (hat : vm'.ownBlock = vm.ownBlock ∨ vm'.ownBlock = some (w6.alloc o).heap.size) (hi : Iv A s) :
    Dua A base w7 vd vm' xs ys' (ps ++ [⟨b, c, F, G, s⟩]) := by
  have d6 := h.kept k
  have d7 := (d6.kept ((Kept.refl [] w6).alloc o)).growM hgr ho hat
  have ka : Kept [] w6 (w6.alloc o) := (Kept.refl [] w6).alloc o
  have kg : Kept vm.ownBlock.toList (w6.alloc o) w7 := (Kept.refl _ _).grown hgr (fun q hq => Or.inl (by simp [hq]))
  have hs := k.size
  have r7 : Ws w7 b F s := ((hR.kept k (by simp)).kept ka (by simp)).kept kg (fun x hx hm => hn x hx (Or.inr (Or.inl (Option.mem_toList.1 hm))))
  have q7 : Vs w7 c G s := (hQ.kept ka (by simp)).kept kg (fun x hx hm => by have h1 := (h.rm.lt x (Option.mem_toList.1 hm)).2; have h2 := hG x hx; omega)
  refine d7.push ⟨b, c, F, G, s⟩ ⟨r7, q7, fun x hx hg => ?_⟩ (fun x hx => ?_) (fun x hx hh => ?_) hi
  · have h1 := hR.lt x hx; have h2 := hG x hg; omega
  · rcases List.mem_append.1 hx with hx | hx
    · exact hFb x hx
    · have := hG x hx; omega
  · rcases List.mem_append.1 hx with hx | hx
    · rcases hh with hh | hh | hh
      · exact hn x hx (Or.inl hh)
      · rcases hat with e | e
        · exact hn x hx (Or.inr (Or.inl (by rw [← e]; exact hh)))
        · rw [e] at hh; simp at hh; have := hR.lt x hx; omega
      · exact hn x hx (Or.inr (Or.inr hh))
    · have h1 := hG x hx
      have h2 := hQ.lt x hx
      rcases hh with hh | hh | hh
      · have := (h.rd.lt x hh).2; omega
      · rcases hat with e | e
        · have := (h.rm.lt x (by rw [← e]; exact hh)).2; omega
        · rw [e] at hh; simp at hh; omega
      · have := h.lt (Or.inr (Or.inr hh)); omega

/-- All writers of the script on both sides, and none at all behind them. -/
def Stw (A : Nat) (w0 w : World) (vd vm : Value) (k : Nat) : Prop :=
  ∃ ps : List Pw, ps.length = k ∧ Dua A w0.heap.size w vd vm (ptw ps ++ [.pointer none]) (ptv ps ++ [.pointer none]) ps ∧ Kept [] w0 w
theorem Stw.kept {A : Nat} {w0 w w' : World} {vd vm : Value} {k : Nat} (h : Stw A w0 w vd vm k) (hk : Kept [] w w') : Stw A w0 w' vd vm k := by
  obtain ⟨ps, h1, h2, h3⟩ := h
  exact ⟨ps, h1, h2.kept hk, h3.trans hk (by simp)⟩
theorem Stw.base {A : Nat} {w0 w : World} {vd vm : Value} {k : Nat} (h : Stw A w0 w vd vm k) : Kept [] w0 w := by
  obtain ⟨ps, h1, h2, h3⟩ := h
  exact h3
theorem Stw.len {A : Nat} {w0 w : World} {vd vm : Value} {k : Nat} (h : Stw A w0 w vd vm k) : ∃ a c a' c', vd = .slice a (k + 1) c ∧ vm = .slice a' (k + 1) c' := by
  obtain ⟨ps, h1, h2, h3⟩ := h
  obtain ⟨a, c, e1⟩ := own_len h2.rd
  obtain ⟨a', c', e2⟩ := own_len h2.rm
  refine ⟨a, c, a', c', ?_, ?_⟩
  · rw [e1]; simp [ptw_len, h1]
  · rw [e2]; simp [ptv_len, h1]
theorem Stw.last {A : Nat} {w0 w : World} {a a' : Option Addr} {c c' k : Nat} (h : Stw A w0 w (.slice a (k + 1) c) (.slice a' (k + 1) c') k) : ∃ g1, a = some ⟨g1, 0, none⟩ ∧ w.cell? ⟨g1, k, none⟩ = some (.pointer none) := by
  obtain ⟨ps, h1, h2, h3⟩ := h
  obtain ⟨g1, e1, _, c1⟩ := own_at h2.rd (i := k) (u := .pointer none) (by rw [List.getElem?_append_right (by rw [ptw_len]; omega), ptw_len, h1, Nat.sub_self]; rfl)
  exact ⟨g1, e1, c1⟩
theorem Stw.step {A : Nat} {w0 w : World} {a a' : Option Addr} {c c' k : Nat} (h : Stw A w0 w (.slice a (k + 1) c) (.slice a' (k + 1) c') k) {t : Nat} (ht : t < k + 1) :
    ∃ g1 g2 vo vq, a = some ⟨g1, 0, none⟩ ∧ a' = some ⟨g2, 0, none⟩ ∧ w.cell? ⟨g1, t, none⟩ = some vo ∧ w.cell? ⟨g2, t, none⟩ = some vq ∧
      ∀ W, Kept [] w W → ∀ (kd wh : Int) (n : Nat) (i : Int) (pa : Option Addr) (pn pc : Nat) (P : List Nat), n < 18446744073709551616 → -9223372036854775808 ≤ i → i ≤ 9223372036854775807 → Wide w0 (.slice pa pn pc) P → P.length = pn → (∀ x ∈ P, x < 256) → A + 10 + pn ≤ 2000000000 → Calls Try.prog 12 #[vo, vq, .agg #[.int .i64 kd, .int .i64 wh, .int .u64 (n : Int), .int .i64 i, .slice pa pn pc]] W fun e w' => e = .returned (.bool true) ∧ (Stw (A + 10 + pn) w0 w' (.slice a (k + 1) c) (.slice a' (k + 1) c') k ∧ ((kd = 10 ∨ kd = 11) → Stw A w0 w' (.slice a (k + 1) c) (.slice a' (k + 1) c') k)) ∧ w'.cell? ⟨g1, t, none⟩ = some vo ∧ w'.cell? ⟨g2, t, none⟩ = some vq := by
  obtain ⟨ps, h1, h2, h3⟩ := h
  by_cases htk : t < k
  · obtain ⟨p, hp⟩ : ∃ p, ps[t]? = some p := ⟨ps[t]'(by rw [h1]; exact htk), List.getElem?_eq_getElem _⟩
    obtain ⟨g1, e1, _, c1⟩ := own_at h2.rd (i := t) (u := .pointer (some ⟨p.b, 0, none⟩)) (by rw [List.getElem?_append_left (by rw [ptw_len, h1]; exact htk)]; simp [ptw, hp])
    obtain ⟨g2, e2, _, c2⟩ := own_at h2.rm (i := t) (u := .pointer (some ⟨p.c, 0, none⟩)) (by rw [List.getElem?_append_left (by rw [ptv_len, h1]; exact htk)]; simp [ptv, hp])
    refine ⟨g1, g2, _, _, e1, e2, c1, c2, fun W hW kd wh n i pa pn pc P hn gi1 gi2 hP hPn hPb hA => ?_⟩
    have hdu := h2.kept hW
    have hkp := h3.trans hW (by simp)
    refine (puts_any (hdu.own t p hp).1 A (hdu.iv t p hp) kd wh n hn i gi1 gi2 pa pn pc P (far_old hP hkp (hdu.own t p hp).2) hPn hPb hA).mono ?_
    rintro e w' ⟨rfl, hb⟩
    have hgo : ∀ B, A ≤ B → TwiP (Iv B) W (some p.b) (some p.c) p.F p.G w' → Stw B w0 w' (.slice a (k + 1) c) (.slice a' (k + 1) c') k ∧ w'.cell? ⟨g1, t, none⟩ = some (.pointer (some ⟨p.b, 0, none⟩)) ∧ w'.cell? ⟨g2, t, none⟩ = some (.pointer (some ⟨p.c, 0, none⟩)) := by
      intro B hAB hb
      obtain ⟨ps', d1, d2, d3, d4, K, d5, d6⟩ := hdu.step hp hAB hb hkp.size
      rw [← d3, ← d4] at d1
      have hk' : Kept [] w0 w' := hkp.trans d5 (fun x hx => Or.inr (d6 x hx))
      obtain ⟨g1', e1', _, c1'⟩ := own_at d1.rd (i := t) (u := .pointer (some ⟨p.b, 0, none⟩)) (by rw [d3, List.getElem?_append_left (by rw [ptw_len, h1]; exact htk)]; simp [ptw, hp])
      obtain ⟨g2', e2', _, c2'⟩ := own_at d1.rm (i := t) (u := .pointer (some ⟨p.c, 0, none⟩)) (by rw [d4, List.getElem?_append_left (by rw [ptv_len, h1]; exact htk)]; simp [ptv, hp])
      rw [e1] at e1'
      rw [e2] at e2'
      cases e1'
      cases e2'
      exact ⟨⟨ps', by omega, d1, hk'⟩, c1', c2'⟩
    obtain ⟨F', G', s', ⟨q1, q2, q3⟩, q4⟩ := hb
    have r1 := hgo (A + 10 + pn) (by omega) ⟨F', G', s', ⟨q1, q2⟩, q4⟩
    exact ⟨rfl, ⟨r1.1, fun hh => (hgo A (Nat.le_refl _) ⟨F', G', s', ⟨q1, q3 hh⟩, q4⟩).1⟩, r1.2.1, r1.2.2⟩
  · have htk2 : t = k := by omega
    obtain ⟨g1, e1, _, c1⟩ := own_at h2.rd (i := t) (u := .pointer none) (by rw [List.getElem?_append_right (by rw [ptw_len]; omega), ptw_len, h1, htk2, Nat.sub_self]; rfl)
    obtain ⟨g2, e2, _, c2⟩ := own_at h2.rm (i := t) (u := .pointer none) (by rw [List.getElem?_append_right (by rw [ptv_len]; omega), ptv_len, h1, htk2, Nat.sub_self]; rfl)
    refine ⟨g1, g2, _, _, e1, e2, c1, c2, fun W hW kd wh n i pa pn pc P hn gi1 gi2 hP hPn hPb hA => ?_⟩
    have hdu := h2.kept hW
    have hkp := h3.trans hW (by simp)
    refine (puts_any (o := none) (q := none) (F := []) (G := []) (s := failWS 1) ⟨⟨rfl, rfl⟩, ⟨rfl, rfl⟩, by simp⟩ A (Iv.none A 1) kd wh n hn i gi1 gi2 pa pn pc P (far_old hP hkp (by simp)) hPn hPb hA).mono ?_
    rintro e w' ⟨rfl, F', G', s', _, hk4, _⟩
    have hdu' := hdu.kept hk4
    obtain ⟨g1', e1', _, c1'⟩ := own_at hdu'.rd (i := t) (u := .pointer none) (by rw [List.getElem?_append_right (by rw [ptw_len]; omega), ptw_len, h1, htk2, Nat.sub_self]; rfl)
    obtain ⟨g2', e2', _, c2'⟩ := own_at hdu'.rm (i := t) (u := .pointer none) (by rw [List.getElem?_append_right (by rw [ptv_len]; omega), ptv_len, h1, htk2, Nat.sub_self]; rfl)
    rw [e1] at e1'
    rw [e2] at e2'
    cases e1'
    cases e2'
    exact ⟨rfl, ⟨⟨ps, h1, hdu'.more (by omega), hkp.trans hk4 (by simp)⟩, fun _ => ⟨ps, h1, hdu', hkp.trans hk4 (by simp)⟩⟩, c1', c2'⟩

end Go.Proofs.Ytiabhgkndejigaa

namespace Go.Proofs.Ytiabhgkndejigaa
open Go.RowKit

theorem infoWd : (Try.prog.info? 30).map (fun i => (i.zero, i.size, i.bytes)) = some (some (.pointer none), 1, 8) := by kernel_rfl
theorem infoWm : (Try.prog.info? 32).map (fun i => (i.zero, i.size, i.bytes)) = some (some (.pointer none), 1, 8) := by kernel_rfl

/-- Rooms that came in. -/
def RowR (w : World) (v : Value) (rs : List Int) : Prop :=
  ∃ a cap, v = .slice a rs.length cap ∧ rs.length ≤ 17592186043904 ∧ ∀ (j : Nat) (r : Int), rs[j]? = some r → r ≤ 9223372036854775807 ∧ ∃ b off, a = some ⟨b, off, none⟩ ∧ b < w.heap.size ∧ w.cell? ⟨b, off + j, none⟩ = some (.int .i64 r)
/-- A step with a writer, in plain words. -/
structure Pu where
  kind : Int
  which : Int
  n : Nat
  i : Int
  pa : Option Addr
  pc : Nat
  P : List Nat
structure Pu.ok (w : World) (t : Pu) : Prop where
  n1 : t.n < 18446744073709551616
  i1 : -9223372036854775808 ≤ t.i
  i2 : t.i ≤ 9223372036854775807
  wd : Wide w (.slice t.pa t.P.length t.pc) t.P
  pb : ∀ x ∈ t.P, x < 256
  pl : t.P.length ≤ 140737488355326
/-- Steps that came in. -/
def RowU (w : World) (v : Value) (ts : List Pu) : Prop :=
  ∃ a cap, v = .slice a ts.length cap ∧ ts.length ≤ 4611686018427387904 ∧ ∀ (j : Nat) (t : Pu), ts[j]? = some t → t.ok w ∧ ∃ b off, a = some ⟨b, off, none⟩ ∧ b < w.heap.size ∧ w.cell? ⟨b, off + j * 5, none⟩ = some (.int .i64 t.kind) ∧ w.cell? ⟨b, off + j * 5 + 1, none⟩ = some (.int .i64 t.which) ∧ w.cell? ⟨b, off + j * 5 + 2, none⟩ = some (.int .u64 (t.n : Int)) ∧ w.cell? ⟨b, off + j * 5 + 3, none⟩ = some (.int .i64 t.i) ∧ w.cell? ⟨b, off + j * 5 + 4, none⟩ = some (.slice t.pa t.P.length t.pc)
/-- How much may be laid down by the first j steps. -/
def tot (ts : List Pu) (j : Nat) : Nat := ((ts.take j).map fun t => 10 + t.P.length).sum
theorem tot_succ {ts : List Pu} {j : Nat} {t : Pu} (h : ts[j]? = some t) : tot ts (j + 1) = tot ts j + 10 + t.P.length := by
  unfold tot
  rw [List.take_add_one, h]
  simp
  omega
theorem tot_mono (ts : List Pu) {j k : Nat} (h : j ≤ k) : tot ts j ≤ tot ts k := by
  induction k with
  | zero =>
    have h0 : j = 0 := by omega
    subst h0
    exact Nat.le_refl _
  | succ k ih =>
    by_cases hj : j = k + 1
    · subst hj; exact Nat.le_refl _
    · refine Nat.le_trans (ih (by omega)) ?_
      cases hk : ts[k]? with
      | some t => rw [tot_succ hk]; omega
      | none =>
        have : ts.length ≤ k := by simpa using hk
        unfold tot
        rw [List.take_of_length_le (by omega), List.take_of_length_le (by omega)]
        exact Nat.le_refl _

set_option maxRecDepth 100000 in
set_option maxHeartbeats 8000000 in
theorem writes_walk {w : World} {v u : Value} {rs : List Int} {ts : List Pu} (hv : RowR w v rs) (hu : RowU w u ts) :
    Calls Try.prog 3 #[v, u] w fun e w' => e = .returned (.bool true) ∧ Kept [] w w' := by
  obtain ⟨id, hid, hd0, hd1, hd2⟩ := info_parts infoWd
  have HID := hide (⟨hid, hd0, hd1, hd2⟩ : _ ∧ _ ∧ _ ∧ _)
  obtain ⟨im, him, hm0, hm1, hm2⟩ := info_parts infoWm
  have HIM := hide (⟨him, hm0, hm1, hm2⟩ : _ ∧ _ ∧ _ ∧ _)
  clear hid hd0 hd1 hd2 him hm0 hm1 hm2
  obtain ⟨xa, xc, rfl, hLb, hall⟩ := hv
  obtain ⟨ya, yc, rfl, hNb, hsc⟩ := hu
  have HA := hide hall
  have HC := hide hsc
  generalize hLL : rs.length = L at *
  have HL := hide hLL
  generalize hNN : ts.length = N at *
  have HN := hide hNN
  clear hLL hNN hall hsc
  go_enter Try.func3, Try.ntmps3
  go_wp2_with fail
  go_loop [5, 6] (fun l i => ∃ (j : Nat) (T : Nat), j ≤ N ∧ i = .int .i64 (j : Int) ∧ l = .int .i64 (T : Int) ∧ T ≤ 1073741824 ∧ Hid (T = tot ts j)) (fun _ i => N - (intOf i).toNat)
  case atStart => exact ⟨0, 0, by omega, rfl, rfl, by omega, hide (by simp [tot])⟩
  case round =>
    obtain ⟨j, T, hj, rfl, rfl, hT, HT⟩ := hrel
    by_cases hlt : j < N
    · obtain ⟨o, ho⟩ : ∃ o, ts[j]? = some o := ⟨ts[j]'(by rw [unhide HN]; exact hlt), List.getElem?_eq_getElem _⟩
      obtain ⟨hok, ob, off, hya, hbl, q0, q1, q2, q3, q4⟩ := unhide HC j o ho
      subst hya
      have HTS := hide (tot_succ ho)
      have hpl := hok.pl
      generalize o.P.length = m at *
      have hw1 : IntKind.i64.wrap ((T : Int) + 10) = (T : Int) + 10 := by rw [IntKind.wrap_i64]; omega
      have hw2 : IntKind.i64.wrap ((T : Int) + 10 + (m : Int)) = ((T + 10 + m : Nat) : Int) := by rw [IntKind.wrap_i64]; omega
      have hw7 : IntKind.i64.wrap ((j : Int) + 1) = (j : Int) + 1 := by rw [IntKind.wrap_i64]; omega
      clear hok ho hbl q0 q1 q2 q3
      obtain ⟨T2, hT2⟩ : ∃ T2, T + 10 + m = T2 := ⟨_, rfl⟩
      rw [hT2] at hw2
      have HT2 := hide hT2
      clear hT2
      by_cases hbig : 1073741824 < T2
      · have t1 : ((1073741824 : Int) < (T2 : Int)) = True := by simp; omega
        clear hbig
        go_wp2
        go_ret
        exact ⟨rfl, Kept.refl _ _⟩
      · have t1 : ((1073741824 : Int) < (T2 : Int)) = False := by simp; omega
        go_wp2
        exact ⟨⟨j + 1, T2, by omega, by go_num, rfl, by omega, hide (by rw [unhide HTS, ← unhide HT]; exact (unhide HT2).symm)⟩, by simp [intOf]; omega⟩
    · obtain rfl : j = N := by omega
      have HTN : Hid (tot ts j ≤ 1073741824) := by unfold Hid; rw [← unhide HT]; exact hT
      clear HT
      go_wp2_with fail
      go_loopw [7, 8, 9] (fun r s i wr => ∃ (ps : List Pw) (k : Nat) (ra sa : Option Addr) (rc sc : Nat), k ≤ L ∧ i = .int .i64 (k : Int) ∧ r = .slice ra k rc ∧ s = .slice sa k sc ∧ Hid (ps.length = k ∧ Dua 0 w.heap.size wr r s (ptw ps) (ptv ps) ps ∧ Kept [] w wr)) (fun _ _ i _ => L - (intOf i).toNat)
      case atStart => exact ⟨[], 0, none, none, 0, 0, by omega, rfl, rfl, rfl, hide ⟨rfl, Dua.nil _ _ _, Kept.refl _ _⟩⟩
      case round =>
        obtain ⟨ps, k, ra, sa, rc, sc, hk, rfl, rfl, rfl, HR⟩ := hrel
        by_cases hlt : k < L
        · obtain ⟨R, hR⟩ : ∃ R, rs[k]? = some R := ⟨rs[k]'(by rw [unhide HL]; exact hlt), List.getElem?_eq_getElem _⟩
          obtain ⟨hRb, xb, xo, hxa, hxb, cx0⟩ := unhide HA k R hR
          subst hxa
          have hkp := (unhide HR).2.2
          have cx : wr.cell? ⟨xb, xo + k, none⟩ = some (.int .i64 R) := (hkp.cell (p := ⟨xb, xo + k, none⟩) hxb (by simp)).trans cx0
          have HCX : Hid (∀ W, Kept [] w W → W.cell? ⟨xb, xo + k, none⟩ = some (.int .i64 R)) := fun W hW => (hW.cell (p := ⟨xb, xo + k, none⟩) hxb (by simp)).trans cx0
          have HKP := hide hkp
          have hkL : (k : Int) < (L : Int) := by omega
          have hk63 : k + 1 ≤ 17592186043904 := by omega
          have HNW : Hid (Calls Try.prog 9 #[.int .i64 R] wr fun e w' => ∃ b, e = .returned (.pointer (some ⟨b, 0, none⟩)) ∧ Ws w' b [b] (newWS R.toNat) ∧ wr.heap.size ≤ b ∧ Kept [] wr w') := by
            by_cases h0 : R < 0
            · rw [show R.toNat = 0 by omega]; exact new_neg R wr h0
            · obtain ⟨m, rfl⟩ := Int.eq_ofNat_of_zero_le (show 0 ≤ R by omega)
              exact new_s m wr (by omega)
          have HVW := fun W => hide (vnew_any R W hRb)
          have hDl : (ptw ps).length = k := by rw [ptw_len]; exact (unhide HR).1
          have hMl : (ptv ps).length = k := by rw [ptv_len]; exact (unhide HR).1
          have HDL := hide hDl
          have HML := hide hMl
          have HRD : Hid (wr.ownsRow w.heap.size 30 1 (.slice ra k rc) k (ptw ps)) := by
            have h1 := (unhide HR).2.1.rd
            rw [hDl] at h1
            exact h1
          clear hR cx0 hkp hxb hRb hDl hMl
          go_wp2_with (first
            | (go_at_call 9; refine (unhide HNW).mono ?_; rintro e w4 ⟨rb, rfl, hr4, hb4, hk4⟩; have HR4 := hide hr4; have HB4 := hide hb4; have HK4 := hide hk4; clear hr4 hb4 hk4 HNW)
            | (at_builtin; refine wpList_append_own_at _ rfl _ _ 28 rfl w.heap.size 30 id _ 1 8 Try.underlying28 (unhide HID).1 (unhide HID).2.1 (unhide HID).2.2.1 (unhide HID).2.2.2 rfl (by decide) _ _ _ rfl ((own_kept (unhide HRD) (unhide HK4) (by simp)).alloc _) ⟨w4.heap.size, 0, none⟩ 1 1 [.pointer (some ⟨rb, 0, none⟩)] rfl rfl (Go.cell_one_new _ _ _) (by simp [Value.oneCell']) (by unfold maxLen; omega) (by omega) (by have := (unhide HKP).size; have := (unhide HK4).size; simp; omega) ?_))
          intro v5 w5 ho5 hg5 hx1 hx5
          obtain ⟨a5, c5, rfl⟩ := own_len ho5
          have hl5 : (ptw ps ++ [Value.pointer (some ⟨rb, 0, none⟩)]).length = k + 1 := by rw [List.length_append, unhide HDL]; rfl
          have HAD := hide ((unhide HR).2.1.addD (g := wr.heap.size) ((unhide HK4).mono (by simp)) (Nat.le_refl _) (unhide HR4) (fun x hx => by simp at hx; subst hx; exact unhide HB4) hg5 (xs' := ptw ps ++ [.pointer (some ⟨rb, 0, none⟩)]) (by rw [hl5]; exact ho5) (by simpa using hx5))
          have HK05 : Hid (Kept [] w w5) := (((unhide HKP).trans (unhide HK4) (by simp)).alloc _).grown hg5 (fun q hq => Or.inr ((unhide HRD).lt q hq).1)
          have cx5 := unhide HCX w5 (unhide HK05)
          have HRM5 : Hid (w5.ownsRow w.heap.size 32 1 (.slice sa k sc) k (ptv ps)) := by
            have h1 := (unhide HAD).1.rm
            rw [unhide HML] at h1
            exact h1
          clear ho5 hg5 hx1 hx5 hl5 cx
          go_wp2_with (first
            | (go_at_call 10; refine (unhide (HVW _)).mono ?_; rintro e w6 ⟨qc, rfl, hq6, hG6, hk6⟩; have HQ6 := hide hq6; have HG6 := hide hG6; have HK6 := hide hk6; clear hq6 hG6 hk6 HVW)
            | (at_builtin; refine wpList_append_own_at _ rfl _ _ 29 rfl w.heap.size 32 im _ 1 8 Try.underlying29 (unhide HIM).1 (unhide HIM).2.1 (unhide HIM).2.2.1 (unhide HIM).2.2.2 rfl (by decide) _ _ _ rfl ((own_kept (unhide HRM5) (unhide HK6) (by simp)).alloc _) ⟨w6.heap.size, 0, none⟩ 1 1 [.pointer (some ⟨qc, 0, none⟩)] rfl rfl (Go.cell_one_new _ _ _) (by simp [Value.oneCell']) (by unfold maxLen; omega) (by omega) (by have := (unhide HK05).size; have := (unhide HK6).size; simp; omega) ?_))
          intro v7 w7 ho7 hg7 hx1 hx7
          obtain ⟨a7, c7, rfl⟩ := own_len ho7
          have hl7 : (ptv ps ++ [Value.pointer (some ⟨qc, 0, none⟩)]).length = k + 1 := by rw [List.length_append, unhide HML]; rfl
          have HAM := hide ((unhide HAD).1.addM (unhide HK05).size (fun x hx => by simp at hx; subst hx; have h1 := unhide HB4; have h2 := (unhide HKP).size; omega) (unhide HAD).2.1 (unhide HAD).2.2.1 (unhide HK6) (unhide HQ6) (fun x hx => by simp at hx; subst hx; exact unhide HG6) hg7 (ys' := ptv ps ++ [.pointer (some ⟨qc, 0, none⟩)]) (by rw [hl7]; exact ho7) (by simpa using hx7) ⟨Nat.zero_le _, (fun x hx => by cases hx), (fun x hx => by cases hx)⟩)
          have HK07 : Hid (Kept [] w w7) := (((unhide HK05).trans (unhide HK6) (by simp)).alloc _).grown hg7 (fun q hq => Or.inr ((unhide HRM5).lt q hq).1)
          clear ho7 hg7 hx1 hx7 hl7 cx5
          go_wp2_with fail
          refine ⟨⟨ps ++ [⟨rb, qc, [rb], [qc], newWS R.toNat⟩], k + 1, a5, a7, c5, c7, by omega, by simp, rfl, rfl, hide ⟨by rw [List.length_append, (unhide HR).1]; rfl, ?_, unhide HK07⟩⟩, by simp [intOf]; omega⟩
          have h1 := unhide HAM
          have e1 : ptw (ps ++ [⟨rb, qc, [rb], [qc], newWS R.toNat⟩]) = ptw ps ++ [.pointer (some ⟨rb, 0, none⟩)] := by simp [ptw]
          have e2 : ptv (ps ++ [⟨rb, qc, [rb], [qc], newWS R.toNat⟩]) = ptv ps ++ [.pointer (some ⟨qc, 0, none⟩)] := by simp [ptv]
          rw [e1, e2]
          exact h1
        · obtain rfl : k = L := by omega
          have hDl : (ptw ps).length = k := by rw [ptw_len]; exact (unhide HR).1
          have hMl : (ptv ps).length = k := by rw [ptv_len]; exact (unhide HR).1
          have HDL := hide hDl
          have HML := hide hMl
          have HKP := hide (unhide HR).2.2
          have HRD4 : Hid (wr.ownsRow w.heap.size 30 1 (.slice ra k rc) k (ptw ps)) := by
            have h1 := (unhide HR).2.1.rd
            rw [hDl] at h1
            exact h1
          clear hDl hMl HA HL
          go_wp2_with (at_builtin; refine wpList_append_own_at _ rfl _ _ 28 rfl w.heap.size 30 id _ 1 8 Try.underlying28 (unhide HID).1 (unhide HID).2.1 (unhide HID).2.2.1 (unhide HID).2.2.2 rfl (by decide) _ _ _ rfl ((unhide HRD4).alloc _) ⟨wr.heap.size, 0, none⟩ 1 1 [.pointer none] rfl rfl (Go.cell_one_new _ _ _) (by simp [Value.oneCell']) (by unfold maxLen; omega) (by omega) (by have := (unhide HKP).size; simp; omega) ?_)
          intro v5 w5 ho5 hg5 hx1 hx5
          obtain ⟨a5, c5, rfl⟩ := own_len ho5
          have hl5 : (ptw ps ++ [Value.pointer none]).length = k + 1 := by rw [List.length_append, unhide HDL]; rfl
          have HAD := hide (((unhide HR).2.1.kept ((Kept.refl [] wr).alloc _)).growD hg5 (xs' := ptw ps ++ [.pointer none]) (by rw [hl5]; exact ho5) (by simpa using hx5))
          have HK05 : Hid (Kept [] w w5) := ((unhide HKP).alloc _).grown hg5 (fun q hq => Or.inr ((unhide HRD4).lt q hq).1)
          have HRM5 : Hid (w5.ownsRow w.heap.size 32 1 (.slice sa k sc) k (ptv ps)) := by
            have h1 := (unhide HAD).rm
            rw [unhide HML] at h1
            exact h1
          clear ho5 hg5 hx1 hx5 hl5 HRD4
          go_wp2_with (at_builtin; refine wpList_append_own_at _ rfl _ _ 29 rfl w.heap.size 32 im _ 1 8 Try.underlying29 (unhide HIM).1 (unhide HIM).2.1 (unhide HIM).2.2.1 (unhide HIM).2.2.2 rfl (by decide) _ _ _ rfl ((unhide HRM5).alloc _) ⟨w5.heap.size, 0, none⟩ 1 1 [.pointer none] rfl rfl (Go.cell_one_new _ _ _) (by simp [Value.oneCell']) (by unfold maxLen; omega) (by omega) (by have := (unhide HK05).size; simp; omega) ?_)
          intro v7 w7 ho7 hg7 hx1 hx7
          obtain ⟨a7, c7, rfl⟩ := own_len ho7
          have hl7 : (ptv ps ++ [Value.pointer none]).length = k + 1 := by rw [List.length_append, unhide HML]; rfl
          have HAM := hide (((unhide HAD).kept ((Kept.refl [] w5).alloc _)).growM hg7 (ys' := ptv ps ++ [.pointer none]) (by rw [hl7]; exact ho7) (by simpa using hx7))
          have HST : Hid (Stw (tot ts 0) w w7 (.slice a5 (k + 1) c5) (.slice a7 (k + 1) c7) k) := ⟨ps, (unhide HR).1, unhide HAM, ((unhide HK05).alloc _).grown hg7 (fun q hq => Or.inr ((unhide HRM5).lt q hq).1)⟩
          clear ho7 hg7 hx1 hx7 hl7 HAM HAD HRM5 HK05 HKP HID HIM HDL HML HR
          generalize j = N at *
          go_wp2_with fail
          go_loopw [12] (fun i wr => ∃ j : Nat, j ≤ N ∧ i = .int .i64 (j : Int) ∧ Hid (Stw (tot ts j) w wr (.slice a5 (k + 1) c5) (.slice a7 (k + 1) c7) k)) (fun i _ => N - (intOf i).toNat)
          case atStart => exact ⟨0, by omega, rfl, HST⟩
          case round =>
            obtain ⟨j, hj, rfl, HS⟩ := hrel
            clear HST
            by_cases hlt2 : j < N
            · obtain ⟨o, ho⟩ : ∃ o, ts[j]? = some o := ⟨ts[j]'(by rw [unhide HN]; exact hlt2), List.getElem?_eq_getElem _⟩
              obtain ⟨hok, ob, off, hya, hbl, q0, q1, q2, q3, q4⟩ := unhide HC j o ho
              subst hya
              have hkp := (unhide HS).base
              have hcells : ∀ W, Kept [] w W → W.cell? ⟨ob, off + j * 5, none⟩ = some (.int .i64 o.kind) ∧ W.cell? ⟨ob, off + j * 5 + 1, none⟩ = some (.int .i64 o.which) ∧ W.cell? ⟨ob, off + j * 5 + 2, none⟩ = some (.int .u64 (o.n : Int)) ∧ W.cell? ⟨ob, off + j * 5 + 3, none⟩ = some (.int .i64 o.i) ∧ W.cell? ⟨ob, off + j * 5 + 4, none⟩ = some (.slice o.pa o.P.length o.pc) := fun W hW =>
                ⟨(hW.cell (p := ⟨ob, off + j * 5, none⟩) hbl (by simp)).trans q0, (hW.cell (p := ⟨ob, off + j * 5 + 1, none⟩) hbl (by simp)).trans q1, (hW.cell (p := ⟨ob, off + j * 5 + 2, none⟩) hbl (by simp)).trans q2, (hW.cell (p := ⟨ob, off + j * 5 + 3, none⟩) hbl (by simp)).trans q3, (hW.cell (p := ⟨ob, off + j * 5 + 4, none⟩) hbl (by simp)).trans q4⟩
              obtain ⟨e0, e1, e2, e3, e4⟩ := hcells wr hkp
              have HRO := fun W => hide (round_far o.which (k + 1) W (by omega) (by omega))
              have hrl := rnd_lt o.which (k + 1) (by omega)
              obtain ⟨t, ht⟩ : ∃ t, rnd o.which (k + 1) = t := ⟨_, rfl⟩
              rw [ht] at HRO hrl
              obtain ⟨g1, g2, vo, vq, hga, hgb, c1, c2, hst⟩ := (unhide HS).step hrl
              subst hga
              subst hgb
              have hts := tot_succ ho
              have htm : tot ts j + 10 + o.P.length ≤ 2000000000 := by
                rw [← hts]
                have h1 := tot_mono ts (show j + 1 ≤ N by omega)
                have h2 := unhide HTN
                omega
              have HTK : Hid (∀ W, Quiet wr W → Calls Try.prog 12 #[vo, vq, .agg #[.int .i64 o.kind, .int .i64 o.which, .int .u64 (o.n : Int), .int .i64 o.i, .slice o.pa o.P.length o.pc]] W fun e w' => e = .returned (.bool true) ∧ Stw (tot ts (j + 1)) w w' (.slice (some ⟨g1, 0, none⟩) (k + 1) c5) (.slice (some ⟨g2, 0, none⟩) (k + 1) c7) k ∧ (w'.cell? ⟨ob, off + j * 5, none⟩ = some (.int .i64 o.kind) ∧ w'.cell? ⟨ob, off + j * 5 + 1, none⟩ = some (.int .i64 o.which) ∧ w'.cell? ⟨ob, off + j * 5 + 2, none⟩ = some (.int .u64 (o.n : Int)) ∧ w'.cell? ⟨ob, off + j * 5 + 3, none⟩ = some (.int .i64 o.i) ∧ w'.cell? ⟨ob, off + j * 5 + 4, none⟩ = some (.slice o.pa o.P.length o.pc)) ∧ w'.cell? ⟨g1, t, none⟩ = some vo ∧ w'.cell? ⟨g2, t, none⟩ = some vq) := by
                intro W hQ
                refine (hst W hQ.kept o.kind o.which o.n o.i o.pa o.P.length o.pc o.P hok.n1 hok.i1 hok.i2 hok.wd rfl hok.pb htm).mono ?_
                rintro e w' ⟨rfl, ⟨s1, _⟩, s2, s3⟩
                rw [hts]
                exact ⟨rfl, s1, hcells w' s1.base, s2, s3⟩
              have t0 : (0 : Int) ≤ (t : Int) := by omega
              have t1 : (t : Int) < (k : Int) + 1 := by omega
              clear hcells hst hkp hok ho ht q0 q1 q2 q3 q4 hbl hts htm
              go_wp2_with (first
                | (go_at_call 11; refine (unhide (HRO _)).mono ?_; rintro e w5 ⟨rfl, hq⟩; subst hq; clear HRO)
                | fail)
              generalize o.kind = o0 at *
              generalize o.which = o1 at *
              generalize ((o.n : Nat) : Int) = o2 at *
              generalize o.i = o3 at *
              generalize (Value.slice o.pa o.P.length o.pc) = o4 at *
              go_region_held3 (fun W => W.cell? ⟨ob, off + j * 5, none⟩ = some (.int .i64 o0) ∧ W.cell? ⟨ob, off + j * 5 + 1, none⟩ = some (.int .i64 o1) ∧ W.cell? ⟨ob, off + j * 5 + 2, none⟩ = some (.int .u64 o2) ∧ W.cell? ⟨ob, off + j * 5 + 3, none⟩ = some (.int .i64 o3) ∧ W.cell? ⟨ob, off + j * 5 + 4, none⟩ = some o4 ∧ W.cell? ⟨g1, t, none⟩ = some vo ∧ W.cell? ⟨g2, t, none⟩ = some vq) (go_keep) (first
                | (go_at_call 12; refine (unhide HTK _ (by first | exact Quiet.refl _ | exact (Quiet.refl _).drew | exact (Quiet.refl _).drewN _)).mono ?_; rintro e w6 ⟨rfl, hs6, ⟨x0, x1, x2, x3, x4⟩, x5, x6⟩; have HS6 := hide hs6; clear HTK hs6))
              go_wp2_with fail
              exact ⟨⟨j + 1, by omega, by simp, HS6⟩, by simp [intOf]; omega⟩
            · obtain rfl : j = N := by omega
              clear HC HN
              have HTA : Hid (tot ts j + 10 + 0 ≤ 2000000000) := by unfold Hid; have := unhide HTN; omega
              generalize tot ts j = A at *
              go_wp2_with fail
              go_loopw [15] (fun i wr => ∃ t : Nat, t ≤ k + 1 ∧ i = .int .i64 (t : Int) ∧ Hid (Stw A w wr (.slice a5 (k + 1) c5) (.slice a7 (k + 1) c7) k)) (fun i _ => k + 1 - (intOf i).toNat)
              case atStart => exact ⟨0, by omega, rfl, HS⟩
              case round =>
                obtain ⟨t, ht, rfl, HT⟩ := hrel
                clear HS
                have HW0 : Hid (Wide w (.slice none 0 0) []) := Or.inl (Or.inl ⟨rfl, rfl⟩)
                by_cases hlt3 : t < k + 1
                · obtain ⟨g1, g2, vo, vq, hga, hgb, c1, c2, hst⟩ := (unhide HT).step hlt3
                  subst hga
                  subst hgb
                  have HTK : Hid (∀ W, Quiet wr W → Calls Try.prog 12 #[vo, vq, .agg #[.int .i64 10, .int .i64 0, .int .u64 0, .int .i64 0, .slice none 0 0]] W fun e w' => e = .returned (.bool true) ∧ Stw A w w' (.slice (some ⟨g1, 0, none⟩) (k + 1) c5) (.slice (some ⟨g2, 0, none⟩) (k + 1) c7) k ∧ w'.cell? ⟨g1, t, none⟩ = some vo ∧ w'.cell? ⟨g2, t, none⟩ = some vq) := fun W hQ => by
                    refine (hst W hQ.kept 10 0 0 0 none 0 0 [] (by omega) (by omega) (by omega) (unhide HW0) rfl (by simp) (unhide HTA)).mono ?_
                    rintro e w' ⟨rfl, ⟨_, s1⟩, s2, s3⟩
                    exact ⟨rfl, s1 (Or.inl rfl), s2, s3⟩
                  have t0 : (0 : Int) ≤ (t : Int) := by omega
                  have t1 : (t : Int) < (k : Int) + 1 := by omega
                  clear hst
                  go_wp2_with fail
                  go_region_held3 (fun W => W.cell? ⟨g1, t, none⟩ = some vo ∧ W.cell? ⟨g2, t, none⟩ = some vq) (go_keep) (first
                    | (go_at_call 12; refine (unhide HTK _ (by first | exact Quiet.refl _ | exact (Quiet.refl _).drew | exact (Quiet.refl _).drewN _)).mono ?_; rintro e w6 ⟨rfl, hs6, x3, x4⟩; have HS6 := hide hs6; clear HTK hs6))
                  obtain ⟨g1', g2', vo', vq', hga', hgb', c1', c2', hst'⟩ := (unhide HS6).step hlt3
                  cases hga'
                  cases hgb'
                  have hvo : vo' = vo := by rw [x3] at c1'; exact (Option.some.inj c1').symm
                  have hvq : vq' = vq := by rw [x4] at c2'; exact (Option.some.inj c2').symm
                  subst hvo
                  subst hvq
                  have HTK : Hid (∀ W, Quiet w6 W → Calls Try.prog 12 #[vo', vq', .agg #[.int .i64 11, .int .i64 0, .int .u64 0, .int .i64 0, .slice none 0 0]] W fun e w' => e = .returned (.bool true) ∧ Stw A w w' (.slice (some ⟨g1, 0, none⟩) (k + 1) c5) (.slice (some ⟨g2, 0, none⟩) (k + 1) c7) k ∧ w'.cell? ⟨g1, t, none⟩ = some vo' ∧ w'.cell? ⟨g2, t, none⟩ = some vq') := fun W hQ => by
                    refine (hst' W hQ.kept 11 0 0 0 none 0 0 [] (by omega) (by omega) (by omega) (unhide HW0) rfl (by simp) (unhide HTA)).mono ?_
                    rintro e w' ⟨rfl, ⟨_, s1⟩, s2, s3⟩
                    exact ⟨rfl, s1 (Or.inr rfl), s2, s3⟩
                  clear hst' c1 c2 c1' c2'
                  go_wp2_with fail
                  go_region_held3 (fun W => W.cell? ⟨g1, t, none⟩ = some vo' ∧ W.cell? ⟨g2, t, none⟩ = some vq') (go_keep) (first
                    | (go_at_call 12; refine (unhide HTK _ (by first | exact Quiet.refl _ | exact (Quiet.refl _).drew | exact (Quiet.refl _).drewN _)).mono ?_; rintro e w8 ⟨rfl, hs8, y3, y4⟩; have HS8 := hide hs8; clear HTK hs8))
                  go_wp2_with fail
                  exact ⟨⟨t + 1, by omega, by simp, HS8⟩, by simp [intOf]; omega⟩
                · obtain rfl : t = k + 1 := by omega
                  obtain ⟨g1, hga, cl⟩ := (unhide HT).last
                  subst hga
                  have HDN := hide (wdone_nil wr)
                  have hw1 : IntKind.i64.wrap ((k : Int) + 1 - 1) = (k : Int) := by rw [IntKind.wrap_i64]; omega
                  go_wp2_with (first | (go_at_call 13; refine (unhide HDN).mono ?_; rintro e w6 ⟨rfl, hq⟩; subst hq; clear HDN))
                  go_ret
                  exact ⟨rfl, (unhide HT).base⟩
end Go.Proofs.Ytiabhgkndejigaa

namespace Go.Proofs.Ytiabhgkndejigaa
open Go.ChangeShapes Go.WideShapes Go.ChangeAt Go.RowKit

theorem cells_put : Try.prog.cellsOf 27 = 5 := by kernel_rfl
theorem cells_u64 : Try.prog.cellsOf 24 = 1 := by kernel_rfl
theorem bytes_put : Try.prog.bytesOf 27 = 56 := by kernel_rfl
theorem bytes_int : Try.prog.bytesOf 3 = 8 := by kernel_rfl
def intOf' : Value → Int
  | .int _ z => z
  | _ => 0

theorem open_rooms {H : Type} {enc : TypeId × Value → H} {W : World} {k : Nat} {a : Option Addr} {n cap : Nat} {d : DataW H} {q : List MemPlace} (h : DataW.trod enc Try.prog W 0 (fun _ => true) true k 22 [.slice a n cap] = some (d, q)) (hw : ∀ x ∈ d.weights Try.prog 22, x ≤ reachBytes) :
    ∃ rs, RowR W (.slice a n cap) rs := by
  rcases Go.Deep.open_slice1 Try.underlying22 cells_int h with ⟨hcs, _⟩ | ⟨y, len, cap', m, k', V, D, Pl, hcs, _, hl, hm, hmm, hxx, hall⟩
  · simp at hcs
    obtain ⟨rfl, rfl, rfl⟩ := hcs
    exact ⟨[], ⟨none, 0, rfl, by simp, fun j t hj => by simp at hj⟩⟩
  · simp at hcs
    obtain ⟨rfl, rfl, rfl⟩ := hcs
    have hmc : m = cap := by simpa using hmm
    subst hmc
    obtain ⟨hxd, _⟩ := Prod.mk.inj hxx
    have hv : ∀ i, i < m → V i = .int .i64 (intOf' (V i)) ∧ intOf' (V i) ≤ 9223372036854775807 := fun i hi => by
      obtain ⟨z, hz, _, hw⟩ := DataW.trod_int Try.underlying3 (hall i (by omega)).2
      have hb := bounds_i64 hw
      have e : V i = .int .i64 z := by simpa using hz
      rw [e]
      exact ⟨rfl, hb.2⟩
    have hlen : ((List.range n).map fun i => intOf' (V i)).length = n := by simp
    refine ⟨(List.range n).map fun i => intOf' (V i), some y, m, by rw [hlen], ?_, fun j p hj => ?_⟩
    · have h3 := hw ((((List.range n).map D).length + ((List.range (m - n)).map fun j => D (n + j)).length) * Try.prog.bytesOf 3) (by rw [hxd]; simp [DataW.weights, Try.underlying22])
      rw [bytes_int] at h3
      simp only [List.length_map, List.length_range, reachBytes] at h3
      rw [hlen]
      omega
    · have hjn : j < n := by have := (List.getElem?_eq_some_iff.1 hj).1; simpa using this
      simp [hjn] at hj
      subst hj
      have h6 := (hall j (by omega)).1
      have hsp : y.spot = none ∧ y.block < W.heap.size := by
        have h7 := (hall 0 (by omega)).1
        have e0 : y.add 0 = y := by simp [Addr.add]
        rw [e0] at h7
        exact ⟨World.cell?_spot h7, World.block_lt_of_cell? W _ h7⟩
      obtain ⟨b, off, sp⟩ := y
      obtain ⟨hs1, hs2⟩ := hsp
      simp only at hs1 hs2
      subst hs1
      rw [add_none] at h6
      exact ⟨(hv j (by omega)).2, b, off, rfl, hs2, by rw [h6, ← (hv j (by omega)).1]⟩

theorem trod_five {H : Type} {enc : TypeId × Value → H} {P : Program} {w : World} {base : Nat} {spare : Nat → Bool} {held : Bool} {t : TypeId} {f0 f1 f2 f3 f4 : Field} {fuel : Nat} {cs : List Value} {d : DataW H} {q : List MemPlace} (ht : P.underlying t = some (.struct #[f0, f1, f2, f3, f4])) (h : DataW.trod enc P w base spare held fuel t cs = some (d, q)) :
    ∃ (y0 y1 y2 y3 y4 : DataW H × List MemPlace) (n : Nat), d = .agg [y0.1, y1.1, y2.1, y3.1, y4.1] ∧ cs.length = P.cellsOf t ∧ DataW.trod enc P w base spare held n f0.type ((cs.drop f0.offset).take (P.cellsOf f0.type)) = some y0 ∧
      DataW.trod enc P w base spare held n f1.type ((cs.drop f1.offset).take (P.cellsOf f1.type)) = some y1 ∧ DataW.trod enc P w base spare held n f2.type ((cs.drop f2.offset).take (P.cellsOf f2.type)) = some y2 ∧ DataW.trod enc P w base spare held n f3.type ((cs.drop f3.offset).take (P.cellsOf f3.type)) = some y3 ∧ DataW.trod enc P w base spare held n f4.type ((cs.drop f4.offset).take (P.cellsOf f4.type)) = some y4 := by
  obtain ⟨xs, n, _, hx, hl, hlen, hf⟩ := DataW.trod_struct ht h
  match xs, hlen with
  | [y0, y1, y2, y3, y4], _ => exact ⟨y0, y1, y2, y3, y4, n, by obtain ⟨hxd, _⟩ := Prod.mk.inj hx; simpa using hxd, hl, by simpa using hf 0 f0 rfl, by simpa using hf 1 f1 rfl, by simpa using hf 2 f2 rfl, by simpa using hf 3 f3 rfl, by simpa using hf 4 f4 rfl⟩
theorem list_five (l : List Value) (h : l.length = 5) : ∃ a b c d e, l = [a, b, c, d, e] := by
  match l, h with
  | [a, b, c, d, e], _ => exact ⟨a, b, c, d, e, rfl⟩
theorem open_put {H : Type} {enc : TypeId × Value → H} {W : World} {k : Nat} {cs : List Value} {d : DataW H} {q : List MemPlace} (h : DataW.trod enc Try.prog W 0 (fun _ => true) true k 27 cs = some (d, q)) (hw : ∀ x ∈ d.weights Try.prog 27, x ≤ reachBytes) :
    ∃ t : Pu, cs = [.int .i64 t.kind, .int .i64 t.which, .int .u64 (t.n : Int), .int .i64 t.i, .slice t.pa t.P.length t.pc] ∧ t.ok W := by
  obtain ⟨y0, y1, y2, y3, y4, n, hd, hl, h0, h1, h2, h3, h4⟩ := trod_five Try.underlying27 h
  rw [cells_put] at hl
  obtain ⟨c0, c1, c2, c3, c4, rfl⟩ := list_five cs hl
  rw [cells_int] at h0 h1 h3
  rw [cells_u64] at h2
  rw [cells22] at h4
  obtain ⟨x0, e0, -, w0⟩ := DataW.trod_int Try.underlying3 h0
  obtain ⟨x1, e1, -, w1⟩ := DataW.trod_int Try.underlying3 h1
  obtain ⟨x2, e2, -, w2⟩ := DataW.trod_int Try.underlying24 h2
  obtain ⟨x3, e3, -, w3⟩ := DataW.trod_int Try.underlying3 h3
  have e0' : c0 = .int .i64 x0 := by simpa using e0
  have e1' : c1 = .int .i64 x1 := by simpa using e1
  have e2' : c2 = .int .u64 x2 := by simpa using e2
  have e3' : c3 = .int .i64 x3 := by simpa using e3
  have b2 := bounds_u64 w2
  have b3 := bounds_i64 w3
  obtain ⟨pa, pn, pc, P, e4, g1, g2, g3, g4⟩ := open_bytesW (d := y4.1) (q := y4.2) (by simpa using h4) (fun x hx' => hw x (by
    rw [hd]
    simp only [DataW.weights, Try.underlying27]
    exact DataW.weights_mem_each (j := 4) (t := 25) (d := y4.1) rfl rfl x hx'))
  subst g3
  have e4' : c4 = .slice pa P.length pc := by simpa using e4
  refine ⟨⟨x0, x1, x2.toNat, x3, pa, pc, P⟩, ?_, ⟨?_, b3.1, b3.2, g1, g2, g4⟩⟩
  · rw [e0', e1', e2', e3', e4']
    simp only
    rw [show ((x2.toNat : Nat) : Int) = x2 by omega]
  · show x2.toNat < _
    omega
theorem open_puts {H : Type} {enc : TypeId × Value → H} {W : World} {k : Nat} {a : Option Addr} {n cap : Nat} {d : DataW H} {q : List MemPlace} (h : DataW.trod enc Try.prog W 0 (fun _ => true) true k 23 [.slice a n cap] = some (d, q)) (hw : ∀ x ∈ d.weights Try.prog 23, x ≤ reachBytes) :
    ∃ ts, RowU W (.slice a n cap) ts := by
  rcases Go.Deep.open_slice Try.underlying23 h with ⟨hcs, _⟩ | ⟨y, len, cap', m, k', D, Pl, hcs, _, hl, hm, hmm, hxx, hall⟩
  · simp at hcs
    obtain ⟨rfl, rfl, rfl⟩ := hcs
    exact ⟨[], none, 0, rfl, by simp, fun j t hj => by simp at hj⟩
  · simp at hcs
    obtain ⟨rfl, rfl, rfl⟩ := hcs
    have hmc : m = cap := by simpa using hmm
    subst hmc
    obtain ⟨hxd, _⟩ := Prod.mk.inj hxx
    rw [cells_put] at hall
    have hnb : n ≤ 4611686018427387904 := by
      have h3 := hw ((((List.range n).map D).length + ((List.range (m - n)).map fun j => D (n + j)).length) * Try.prog.bytesOf 27) (by rw [hxd]; simp [DataW.weights, Try.underlying23])
      rw [bytes_put] at h3
      simp only [List.length_map, List.length_range, reachBytes] at h3
      omega
    have hin : ∀ i, i < n → ∀ y ∈ (D i).weights Try.prog 27, y ≤ reachBytes := by
      intro i hi y hy
      refine hw y ?_
      rw [hxd]
      simp only [DataW.weights, Try.underlying23]
      refine List.mem_cons_of_mem _ (List.mem_append_left _ (weights_all (d := D i) ?_ y hy))
      exact List.mem_map.2 ⟨i, by simpa using hi, rfl⟩
    have hex : ∀ i, ∃ t : Pu, i < n → W.cell? ((y.add (i * 5)).add 0) = some (.int .i64 t.kind) ∧ W.cell? ((y.add (i * 5)).add 1) = some (.int .i64 t.which) ∧ W.cell? ((y.add (i * 5)).add 2) = some (.int .u64 (t.n : Int)) ∧ W.cell? ((y.add (i * 5)).add 3) = some (.int .i64 t.i) ∧ W.cell? ((y.add (i * 5)).add 4) = some (.slice t.pa t.P.length t.pc) ∧ t.ok W := by
      intro i
      by_cases hi : i < n
      · obtain ⟨cs', h1, h2⟩ := hall i (by omega)
        obtain ⟨t, h3, h4⟩ := open_put h2 (hin i hi)
        obtain ⟨_, _, h7⟩ := World.cells?_some h1
        rw [h3] at h7
        exact ⟨t, fun _ => ⟨by simpa using h7 0 (by omega), by simpa using h7 1 (by omega), by simpa using h7 2 (by omega), by simpa using h7 3 (by omega), by simpa using h7 4 (by omega), h4⟩⟩
      · exact ⟨⟨0, 0, 0, 0, none, 0, []⟩, fun h => absurd h hi⟩
    obtain ⟨f, hf⟩ := Classical.axiomOfChoice hex
    have hlen : ((List.range n).map f).length = n := by simp
    refine ⟨(List.range n).map f, some y, m, by rw [hlen], by rw [hlen]; omega, fun j t hj => ?_⟩
    have hjn : j < n := by have := (List.getElem?_eq_some_iff.1 hj).1; simpa using this
    simp [hjn] at hj
    subst hj
    obtain ⟨c1, c2, c3, c4, c5, c6⟩ := hf j hjn
    have hx0 : y.spot = none ∧ y.block < W.heap.size := by
      obtain ⟨cs', h1, _⟩ := hall 0 (by omega)
      obtain ⟨_, h2, h3⟩ := World.cells?_some h1
      have h4 := h3 0 (by omega)
      rw [List.getElem?_eq_getElem (by omega)] at h4
      have e0 : (y.add (0 * 5)).add 0 = y := by simp [Addr.add]
      rw [e0] at h4
      exact ⟨World.cell?_spot h4, World.block_lt_of_cell? W _ h4⟩
    obtain ⟨hsp, hbl⟩ := hx0
    rw [add_add _ _ _ hsp] at c1 c2 c3 c4 c5
    refine ⟨c6, y.block, y.off, ?_, hbl, c1, c2, c3, c4, c5⟩
    obtain ⟨b, off, sp⟩ := y; simp only at hsp; subst hsp; rfl
end Go.Proofs.Ytiabhgkndejigaa
