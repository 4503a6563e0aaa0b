/- A text of the base. -/
import Derived.Test.YtfhfkpgfnlmfhaaDoorPkL
import Derived.Test.YtfhfkpgfnlmfhaaDoorPkH
/- The writer's state as a function of the calls: lay, whatever the state; Num, Int, Real, Raw, Text. -/
namespace Go.Proofs.YtfhfkpgfnlmfhaaDoor
open Go.RowKit

/-- A piece, as P1.2 has it. -/
def wLay (s : WS) (ps : List Nat) : WS := if s.fault ≠ 0 then s else if s.bs.length + ps.length ≤ s.room then { s with bs := s.bs ++ ps } else failWS 13
/-- A refusal. -/
def wFail (s : WS) (c : Nat) : WS := if s.fault ≠ 0 then s else failWS c

/-- Behind a call on the writer: it is in the state s'; nothing else that was there has turned. -/
def WPost (w : World) (b : Nat) (v sv : Value) (s' : WS) (w' : World) : Prop :=
  ∃ v' sv', Wr w' b s' v' sv' ∧ Kept (foot b v sv) w w' ∧ ∀ x, x ∈ foot b v' sv' → x ∈ foot b v sv ∨ w.heap.size ≤ x

theorem WPost.from {w W w' : World} {b : Nat} {v sv : Value} {s' : WS} (k : Kept [] w W) (h : WPost W b v sv s' w') : WPost w b v sv s' w' := by
  obtain ⟨v', sv', h1, h2, h3⟩ := h
  refine ⟨v', sv', h1, (k.mono (by simp)).trans h2 (fun x hx => Or.inl hx), fun x hx => ?_⟩
  rcases h3 x hx with h | h
  · exact Or.inl h
  · right; have := k.size; omega

theorem WPost.same {w w' : World} {b : Nat} {s : WS} {v sv : Value} (h : Wr w b s v sv) (q : Kept [] w w') : WPost w b v sv s w' :=
  ⟨v, sv, h.kept q (by simp), q.mono (by simp), fun _ hx => Or.inl hx⟩

theorem WPost.fail {w w' : World} {b : Nat} {v sv : Value} {c : Nat} (h : Wr w' b (failWS c) nilS nilS) (k : Kept [b] w w') : WPost w b v sv (failWS c) w' :=
  ⟨nilS, nilS, h, k.mono (fun x hx => by simp at hx; subst hx; exact Or.inl (by simp [foot])), fun x hx => by simp [foot, nilS, Value.ownBlock] at hx; subst hx; exact Or.inl (by simp [foot])⟩

set_option maxRecDepth 100000 in
set_option maxHeartbeats 400000 in
theorem lay_faulty {w : World} {b : Nat} {s : WS} {v sv : Value} (h : Wr w b s v sv) (hf : s.fault ≠ 0) (pv : Value) :
    Calls Tryd.prog 52 #[.pointer (some ⟨b, 0, none⟩), pv] w fun e w' => e = .returned (.tuple #[]) ∧ w = w' := by
  have HH := hide h
  clear h
  go_enter Tryd.func52, Tryd.ntmps52
  go_wp2_with (first | (go_at_call 74; refine (fails_yes (unhide HH) hf).mono ?_; rintro e w' ⟨rfl, rfl⟩))
  refine bodyPost_ret (results_none rfl _ _ _) rfl ?_
  exact ⟨rfl, rfl⟩

theorem lay_any {w : World} {b : Nat} {s : WS} {v sv : Value} (h : Wr w b s v sv) (pb pc : Nat) (ps : List (Value × List Nat))
    (hpb : Blk w pb (ps.map (·.1)).toArray 23) (hpn : pb ∉ foot b v sv) (hps : ∀ p, p ∈ ps → Sees w p.1 p.2 ∧ ∀ k, p.1.ownBlock = some k → k ∉ foot b v sv)
    (hl : s.bs.length + (cat ps).length ≤ 70368744177664) (hn : ps.length < 1000) :
    Calls Tryd.prog 52 #[.pointer (some ⟨b, 0, none⟩), .slice (some ⟨pb, 0, none⟩) ps.length pc] w fun e w' => e = .returned (.tuple #[]) ∧ WPost w b v sv (wLay s (cat ps)) w' := by
  unfold wLay
  by_cases hf : s.fault = 0
  · rw [if_neg (by omega)]
    by_cases hr : s.bs.length + (cat ps).length ≤ s.room
    · rw [if_pos hr]
      refine (lay_fits h hf pb pc ps hpb hpn hps hl hn hr).mono ?_
      rintro e w' ⟨rfl, v', h1, h2, h3⟩
      exact ⟨rfl, v', sv, h1, h2, h3⟩
    · rw [if_neg hr]
      refine (lay_nofit h hf pb pc ps hpb (fun p hp => (hps p hp).1) hl hn hr).mono ?_
      rintro e w' ⟨rfl, h1, h2⟩
      exact ⟨rfl, WPost.fail h1 h2⟩
  · rw [if_pos hf]
    refine (lay_faulty h hf _).mono ?_
    rintro e w' ⟨rfl, rfl⟩
    exact ⟨rfl, WPost.same h (Kept.refl _ _)⟩

/-- lay with one part, behind what made it: 'w' is the world ahead. -/
theorem lay_part {w w1 : World} {b : Nat} {s : WS} {v sv : Value} (h : Wr w b s v sv) (fv : Value) (fs : List Nat)
    (hfo : Sees w1 fv fs) (hfn : ∀ k, fv.ownBlock = some k → k ∉ foot b v sv) (hk1 : Kept [] w w1)
    (hl : s.bs.length + fs.length ≤ 70368744177664) :
    Calls Tryd.prog 52 #[.pointer (some ⟨b, 0, none⟩), .slice (some ⟨w1.heap.size, 0, none⟩) 1 1] (w1.alloc (.cells #[fv] 23)) fun e w' => e = .returned (.tuple #[]) ∧ WPost w b v sv (wLay s fs) w' := by
  have hfl := foot_lt h
  have hks := hk1.size
  have ec : cat [(fv, fs)] = fs := by simp [cat]
  have h1 : Wr (w1.alloc (.cells #[fv] 23)) b s v sv := (h.kept hk1 (by simp)).alloc _
  refine (lay_any h1 w1.heap.size 1 [(fv, fs)] (Blk.new _ _ _) (fun hm => by have := hfl _ hm; omega) ?_ (by rw [ec]; exact hl) (by simp)).mono ?_
  · intro p hp
    simp at hp; subst hp
    exact ⟨sees_alloc _ hfo, hfn⟩
  · rintro e w' ⟨rfl, hp⟩
    rw [ec] at hp
    exact ⟨rfl, hp.from (hk1.alloc _)⟩

theorem fresh_foot {w : World} {b : Nat} {s : WS} {v sv : Value} (h : Wr w b s v sv) {k : Nat} (hk : w.heap.size ≤ k) : k ∉ foot b v sv := fun hm => by have := foot_lt h k hm; omega

set_option maxRecDepth 100000 in
set_option maxHeartbeats 400000 in
theorem wnum_any {w : World} {b : Nat} {s : WS} {v sv : Value} (h : Wr w b s v sv) (n : Nat) (hn : n < 18446744073709551616) (hl : s.bs.length ≤ 1000000000000) :
    Calls Tryd.prog 121 #[.pointer (some ⟨b, 0, none⟩), .int .u64 n] w fun e w' => e = .returned (.tuple #[]) ∧ WPost w b v sv (wLay s (form n)) w' := by
  have HH := hide h
  clear h
  have h10 := form_le10 n hn
  go_enter Tryd.func121, Tryd.ntmps121
  go_wp2_with (first | (go_at_call 123; refine (form_any' n _ hn).mono ?_; rintro e w1 ⟨fa, fc, rfl, hfo, hk1⟩) | (go_at_call 52; refine (lay_part (unhide HH) _ (form n) (Sees.of_own hfo) (fun k hk => fresh_foot (unhide HH) (hfo.lt k hk).1) hk1 (by omega)).mono ?_; rintro e w2 ⟨rfl, HX⟩))
  go_end0
  exact ⟨rfl, HX⟩

set_option maxRecDepth 100000 in
set_option maxHeartbeats 400000 in
theorem wtext_any {w : World} {b : Nat} {s : WS} {v sv : Value} (h : Wr w b s v sv) (pv : Value) (ps : List Nat) (hp : Sees w pv ps) (hpn : ∀ k, pv.ownBlock = some k → k ∉ foot b v sv) (hl : s.bs.length + ps.length ≤ 35184372088832) :
    Calls Tryd.prog 122 #[.pointer (some ⟨b, 0, none⟩), pv] w fun e w' => e = .returned (.tuple #[]) ∧ WPost w b v sv (wLay s (form ps.length ++ ps)) w' := by
  obtain ⟨pa, pc, rfl⟩ := sees_len hp
  have h10 := form_le10 ps.length (by omega)
  have hlay : ∀ w1 fv, Kept [] w w1 → w1.ownsRow w.heap.size 5 1 fv (form ps.length).length (u8s (form ps.length)) →
      Calls Tryd.prog 52 #[.pointer (some ⟨b, 0, none⟩), .slice (some ⟨w1.heap.size, 0, none⟩) 2 2] (w1.alloc (.cells #[fv, .slice pa ps.length pc] 23)) fun e w' => e = .returned (.tuple #[]) ∧ WPost w b v sv (wLay s (form ps.length ++ ps)) w' := by
    intro w1 fv hk1 hfo
    have hks := hk1.size
    have ec : cat [(fv, form ps.length), (.slice pa ps.length pc, ps)] = form ps.length ++ ps := by simp [cat]
    have h1 : Wr (w1.alloc (.cells #[fv, .slice pa ps.length pc] 23)) b s v sv := (h.kept hk1 (by simp)).alloc _
    refine (lay_any h1 w1.heap.size 2 [(fv, form ps.length), (.slice pa ps.length pc, ps)] (Blk.new _ _ _) (fresh_foot h hks) ?_ (by rw [ec]; simp; omega) (by simp)).mono ?_
    · intro p hpp
      simp at hpp
      rcases hpp with rfl | rfl
      · exact ⟨sees_alloc _ (Sees.of_own hfo), fun k hk => fresh_foot h (hfo.lt k hk).1⟩
      · exact ⟨sees_alloc _ (hp.kept hk1 (by simp)), hpn⟩
    · rintro e w' ⟨rfl, hpo⟩
      rw [ec] at hpo
      exact ⟨rfl, hpo.from (hk1.alloc _)⟩
  have HL := hide hlay
  clear hlay h hp hpn
  go_enter Tryd.func122, Tryd.ntmps122
  go_wp2_with (first | (go_at_call 123; refine (form_any' ps.length _ (by omega)).mono ?_; rintro e w1 ⟨fa, fc, rfl, hfo, hk1⟩) | (go_at_call 52; refine (unhide HL _ _ hk1 hfo).mono ?_; rintro e w2 ⟨rfl, HX⟩))
  go_end0
  exact ⟨rfl, HX⟩
end Go.Proofs.YtfhfkpgfnlmfhaaDoor
