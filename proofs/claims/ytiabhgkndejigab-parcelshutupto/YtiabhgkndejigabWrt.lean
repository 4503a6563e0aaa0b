/- The writer: its state in memory, and what its methods do to it. -/
import Derived.Test.YtiabhgkndejigabForm
import Derived.Deep.QuietTactic
import Derived.BigQuiet
namespace Go.Proofs.Ytiabhgkndejigab
open Go.RowKit

/-- A writer's state: room, bytes, where the open frames begin (the outermost first), fault. -/
structure WS where
  room : Nat
  bs : List Nat
  sts : List Nat
  fault : Nat

def i64s (l : List Nat) : List Value := l.map fun b : Nat => Value.int .i64 (b : Int)

/-- In w there is a writer at block b, in the state s; F: the blocks of its bytes and its starts. -/
structure Wr (w : World) (b : Nat) (s : WS) (v sv : Value) : Prop where
  blk : Blk w b #[.int .i64 (s.room : Int), v, sv, .int .i64 (s.fault : Int)] 65
  own : w.ownsRow 0 5 1 v s.bs.length (u8s s.bs)
  sown : w.ownsRow 0 3 1 sv s.sts.length (i64s s.sts)
  n1 : v.ownBlock ≠ some b
  n2 : sv.ownBlock ≠ some b
  n3 : ∀ k, v.ownBlock = some k → sv.ownBlock ≠ some k
  broom : s.room < 9223372036854775808
  bbs : s.bs.length ≤ 70368744177664
  bsts : s.sts.length ≤ 16
  bf : s.fault < 1000

def foot (b : Nat) (v sv : Value) : List Nat := b :: (v.ownBlock.toList ++ sv.ownBlock.toList)

theorem blk4 {w : World} {b : Nat} {x0 x1 x2 x3 : Value} {t : TypeId} (h : Blk w b #[x0, x1, x2, x3] t) :
    w.cell? ⟨b, 0, none⟩ = some x0 ∧ w.cell? ⟨b, 1, none⟩ = some x1 ∧ w.cell? ⟨b, 2, none⟩ = some x2 ∧ w.cell? ⟨b, 3, none⟩ = some x3 :=
  ⟨by rw [h.cell]; rfl, by rw [h.cell]; rfl, by rw [h.cell]; rfl, by rw [h.cell]; rfl⟩

/-- What a slice value that owns a row looks like: its length. -/
theorem own_len {w : World} {base : Nat} {e : TypeId} {s : Nat} {v : Value} {n : Nat} {xs : List Value} (h : w.ownsRow base e s v n xs) : ∃ a cap, v = .slice a n cap := by
  rcases h.2 with ⟨h1, h2⟩ | ⟨g, cap, cur, hv, _⟩
  · exact ⟨none, 0, by rw [h1, h2]⟩
  · exact ⟨_, _, hv⟩

set_option maxRecDepth 100000 in
set_option maxHeartbeats 400000 in
theorem fails_no {w : World} {b : Nat} {s : WS} {v sv : Value} (h : Wr w b s v sv) (hf : s.fault = 0) :
    Calls Try.prog 49 #[.pointer (some ⟨b, 0, none⟩)] w fun e w' => e = .returned (.bool false) ∧ w = w' := by
  obtain ⟨c0, c1, c2, c3⟩ := blk4 h.blk
  rw [hf] at c3; clear hf h
  go_enter Try.func49, Try.ntmps49
  go_wp2
  go_ret
  exact ⟨rfl, rfl⟩

set_option maxRecDepth 100000 in
set_option maxHeartbeats 400000 in
theorem fails_yes {w : World} {b : Nat} {s : WS} {v sv : Value} (h : Wr w b s v sv) (hf : s.fault ≠ 0) :
    Calls Try.prog 49 #[.pointer (some ⟨b, 0, none⟩)] w fun e w' => e = .returned (.bool true) ∧ w = w' := by
  obtain ⟨c0, c1, c2, c3⟩ := blk4 h.blk
  have hn : ((s.fault : Int) != 0) = true := by rw [bne_iff_ne]; omega
  clear hf h
  go_enter Try.func49, Try.ntmps49
  go_wp2
  go_ret
  exact ⟨rfl, rfl⟩

set_option maxRecDepth 100000 in
set_option maxHeartbeats 400000 in
theorem hasRoom_any {w : World} {b : Nat} {s : WS} {v sv : Value} (h : Wr w b s v sv) (more : Nat) (_hm : more < 9223372036854775808) (c : Bool) (hc : decide (s.bs.length + more ≤ s.room) = c) :
    Calls Try.prog 53 #[.pointer (some ⟨b, 0, none⟩), .int .i64 more] w fun e w' => e = .returned (.bool c) ∧ Quiet w w' := by
  obtain ⟨c0, c1, c2, c3⟩ := blk4 h.blk
  obtain ⟨a, cap, rfl⟩ := own_len h.own
  have hb := h.bbs
  have hr := h.broom
  have hd : decide ((more : Int) ≤ (s.room : Int) - (s.bs.length : Int)) = c := by rw [← hc]; congr 1; exact propext ⟨fun _ => by omega, fun _ => by omega⟩
  clear h hc
  go_enter Try.func53, Try.ntmps53
  go_wp2
  go_quiet (fail)
  go_wp2
  go_ret
  exact ⟨rfl, (Quiet.refl _).drewN _⟩


theorem own_quiet {w w' : World} {base : Nat} {e : TypeId} {s : Nat} {v : Value} {n : Nat} {xs : List Value} (h : w.ownsRow base e s v n xs) (q : Quiet w w') : w'.ownsRow base e s v n xs := own_kept h q.kept (fun _ _ => by simp)
theorem Wr.quiet {w w' : World} {b : Nat} {s : WS} {v sv : Value} (h : Wr w b s v sv) (q : Quiet w w') : Wr w' b s v sv :=
  ⟨h.blk.kept q.kept (by simp), own_quiet h.own q, own_quiet h.sown q, h.n1, h.n2, h.n3, h.broom, h.bbs, h.bsts, h.bf⟩
theorem Wr.kept {F : List Nat} {w w' : World} {b : Nat} {s : WS} {v sv : Value} (h : Wr w b s v sv) (k : Kept F w w') (hd : ∀ x, x ∈ foot b v sv → x ∉ F) : Wr w' b s v sv :=
  ⟨h.blk.kept k (hd b (by simp [foot])), own_kept h.own k (fun x hx => hd x (by simp [foot, hx])), own_kept h.sown k (fun x hx => hd x (by simp [foot, hx])), h.n1, h.n2, h.n3, h.broom, h.bbs, h.bsts, h.bf⟩
theorem Wr.alloc {w : World} {b : Nat} {s : WS} {v sv : Value} (h : Wr w b s v sv) (o : Obj) : Wr (w.alloc o) b s v sv := h.kept ((Kept.refl [] w).alloc o) (by simp)

/-- Bytes behind the bytes so far. -/
theorem Wr.grow {w w1 : World} {b : Nat} {s : WS} {v sv v' : Value} (h : Wr w b s v sv) (ys : List Nat)
    (hown : w1.ownsRow 0 5 1 v' (s.bs ++ ys).length (u8s (s.bs ++ ys))) (hg : w.grownBy w1 v.ownBlock) (hat : v'.ownBlock = v.ownBlock ∨ v'.ownBlock = some w.heap.size)
    (hl : s.bs.length + ys.length ≤ 70368744177664) :
    Wr (w1.setCell ⟨b, 1, none⟩ v') b { s with bs := s.bs ++ ys } v' sv ∧ Kept (foot b v sv) w (w1.setCell ⟨b, 1, none⟩ v') ∧ ∀ x, x ∈ foot b v' sv → x ∈ foot b v sv ∨ w.heap.size ≤ x := by
  have hb := h.blk.lt
  have k1 : Kept (foot b v sv) w w1 := (Kept.refl _ _).grown hg (fun k hk => Or.inl (by simp [foot, hk]))
  have k2 : Kept (foot b v sv) w (w1.setCell ⟨b, 1, none⟩ v') := k1.setCell (Or.inl (by simp [foot])) v'
  have n1' : v'.ownBlock ≠ some b := by
    rcases hat with e | e <;> rw [e]
    · exact h.n1
    · simp; omega
  have n3' : ∀ k, v'.ownBlock = some k → sv.ownBlock ≠ some k := by
    intro k hk hs
    rcases hat with e | e
    · exact h.n3 k (by rw [← e]; exact hk) hs
    · rw [e] at hk; simp at hk; subst hk
      have := (h.sown.lt _ hs).2; omega
  refine ⟨⟨?_, ?_, ?_, n1', h.n2, n3', h.broom, by simpa using hl, h.bsts, h.bf⟩, k2, ?_⟩
  · have b1 : Blk w1 b #[.int .i64 (s.room : Int), v, sv, .int .i64 (s.fault : Int)] 65 := by
      have := hg.block b hb (fun e => h.n1 e.symm)
      exact this.trans h.blk
    have := b1.set 1 v'
    simpa using this
  · exact own_kept hown ((Kept.refl [b] _).setCell (Or.inl (by simp)) v') (fun k hk => by simp; intro e; exact n1' (by rw [hk, e]))
  · have s1 : w1.ownsRow 0 3 1 sv s.sts.length (i64s s.sts) := by
      refine own_kept h.sown ((Kept.refl v.ownBlock.toList _).grown hg (fun k hk => Or.inl (by simp [hk]))) (fun k hk => ?_)
      simp; intro e; exact h.n3 k e hk
    exact own_kept s1 ((Kept.refl [b] _).setCell (Or.inl (by simp)) v') (fun k hk => by simp; intro e; exact h.n2 (by rw [hk, e]))
  · intro x hx
    simp [foot] at hx ⊢
    rcases hx with hx | hx | hx
    · exact Or.inl (Or.inl hx)
    · rcases hat with e | e
      · exact Or.inl (Or.inr (Or.inl (by rw [← e]; exact hx)))
      · rw [e] at hx; simp at hx; right; omega
    · exact Or.inl (Or.inr (Or.inr hx))

def cat (ps : List (Value × List Nat)) : List Nat := (ps.map (·.2)).flatten
theorem cat_take (ps : List (Value × List Nat)) (k : Nat) (hk : k < ps.length) : cat (ps.take (k + 1)) = cat (ps.take k) ++ ps[k].2 := by
  unfold cat; rw [List.take_succ_eq_append_getElem hk, List.map_append, List.flatten_append]; simp
theorem cat_take_le (ps : List (Value × List Nat)) (k : Nat) : (cat (ps.take k)).length ≤ (cat ps).length := by
  have : cat ps = cat (ps.take k) ++ cat (ps.drop k) := by
    unfold cat; rw [← List.flatten_append, ← List.map_append, List.take_append_drop]
  rw [this]; simp

theorem sees_len {w : World} {v : Value} {bs : List Nat} (h : Sees w v bs) : ∃ a cap, v = .slice a bs.length cap := by
  rcases h with ⟨h1, h2⟩ | ⟨b, off, cap, hv, _⟩
  · exact ⟨none, 0, by rw [h1, h2]; rfl⟩
  · exact ⟨_, _, hv⟩

end Go.Proofs.Ytiabhgkndejigab
