/- Texts laid one behind the other: Wrt Lay Wri. -/
import Derived.Test.YtfhfkpgfnlmfhaaDoorPkB
import Derived.Deep.QuietTactic
import Derived.BigQuiet
/- The writer: its state in memory, and what its methods do to it. -/
namespace Go.Proofs.YtfhfkpgfnlmfhaaDoor
open Go.RowKit

/-- A writer's state: room, bytes, where the open frames begin (the outermost first), fault. -/
structure WS where
  room : Nat
  bs : List Nat
  sts : List Nat
  fault : Nat

def i64s (l : List Nat) : List Value := l.map fun b : Nat => Value.int .i64 (b : Int)

/-- In w there is a writer at block b, in the state s; F: the blocks of its bytes and its starts. -/
structure Wr (w : World) (b : Nat) (s : WS) (v sv : Value) : Prop where
  blk : Blk w b #[.int .i64 (s.room : Int), v, sv, .int .i64 (s.fault : Int)] 77
  own : w.ownsRow 0 5 1 v s.bs.length (u8s s.bs)
  sown : w.ownsRow 0 3 1 sv s.sts.length (i64s s.sts)
  n1 : v.ownBlock ≠ some b
  n2 : sv.ownBlock ≠ some b
  n3 : ∀ k, v.ownBlock = some k → sv.ownBlock ≠ some k
  broom : s.room < 9223372036854775808
  bbs : s.bs.length ≤ 70368744177664
  bsts : s.sts.length ≤ 16
  bf : s.fault < 1000

def foot (b : Nat) (v sv : Value) : List Nat := b :: (v.ownBlock.toList ++ sv.ownBlock.toList)

theorem blk4 {w : World} {b : Nat} {x0 x1 x2 x3 : Value} {t : TypeId} (h : Blk w b #[x0, x1, x2, x3] t) :
    w.cell? ⟨b, 0, none⟩ = some x0 ∧ w.cell? ⟨b, 1, none⟩ = some x1 ∧ w.cell? ⟨b, 2, none⟩ = some x2 ∧ w.cell? ⟨b, 3, none⟩ = some x3 :=
  ⟨by rw [h.cell]; rfl, by rw [h.cell]; rfl, by rw [h.cell]; rfl, by rw [h.cell]; rfl⟩

/-- What a slice value that owns a row looks like: its length. -/
theorem own_len {w : World} {base : Nat} {e : TypeId} {s : Nat} {v : Value} {n : Nat} {xs : List Value} (h : w.ownsRow base e s v n xs) : ∃ a cap, v = .slice a n cap := by
  rcases h.2 with ⟨h1, h2⟩ | ⟨g, cap, cur, hv, _⟩
  · exact ⟨none, 0, by rw [h1, h2]⟩
  · exact ⟨_, _, hv⟩

set_option maxRecDepth 100000 in
set_option maxHeartbeats 400000 in
theorem fails_no {w : World} {b : Nat} {s : WS} {v sv : Value} (h : Wr w b s v sv) (hf : s.fault = 0) :
    Calls Tryd.prog 74 #[.pointer (some ⟨b, 0, none⟩)] w fun e w' => e = .returned (.bool false) ∧ w = w' := by
  obtain ⟨c0, c1, c2, c3⟩ := blk4 h.blk
  rw [hf] at c3; clear hf h
  go_enter Tryd.func74, Tryd.ntmps74
  go_wp2
  go_ret
  exact ⟨rfl, rfl⟩

set_option maxRecDepth 100000 in
set_option maxHeartbeats 400000 in
theorem fails_yes {w : World} {b : Nat} {s : WS} {v sv : Value} (h : Wr w b s v sv) (hf : s.fault ≠ 0) :
    Calls Tryd.prog 74 #[.pointer (some ⟨b, 0, none⟩)] w fun e w' => e = .returned (.bool true) ∧ w = w' := by
  obtain ⟨c0, c1, c2, c3⟩ := blk4 h.blk
  have hn : ((s.fault : Int) != 0) = true := by rw [bne_iff_ne]; omega
  clear hf h
  go_enter Tryd.func74, Tryd.ntmps74
  go_wp2
  go_ret
  exact ⟨rfl, rfl⟩

set_option maxRecDepth 100000 in
set_option maxHeartbeats 400000 in
theorem hasRoom_any {w : World} {b : Nat} {s : WS} {v sv : Value} (h : Wr w b s v sv) (more : Nat) (_hm : more < 9223372036854775808) (c : Bool) (hc : decide (s.bs.length + more ≤ s.room) = c) :
    Calls Tryd.prog 75 #[.pointer (some ⟨b, 0, none⟩), .int .i64 more] w fun e w' => e = .returned (.bool c) ∧ Quiet w w' := by
  obtain ⟨c0, c1, c2, c3⟩ := blk4 h.blk
  obtain ⟨a, cap, rfl⟩ := own_len h.own
  have hb := h.bbs
  have hr := h.broom
  have hd : decide ((more : Int) ≤ (s.room : Int) - (s.bs.length : Int)) = c := by rw [← hc]; congr 1; exact propext ⟨fun _ => by omega, fun _ => by omega⟩
  clear h hc
  go_enter Tryd.func75, Tryd.ntmps75
  go_wp2
  go_quiet (fail)
  go_wp2
  go_ret
  exact ⟨rfl, (Quiet.refl _).drewN _⟩


theorem own_quiet {w w' : World} {base : Nat} {e : TypeId} {s : Nat} {v : Value} {n : Nat} {xs : List Value} (h : w.ownsRow base e s v n xs) (q : Quiet w w') : w'.ownsRow base e s v n xs := own_kept h q.kept (fun _ _ => by simp)
theorem Wr.quiet {w w' : World} {b : Nat} {s : WS} {v sv : Value} (h : Wr w b s v sv) (q : Quiet w w') : Wr w' b s v sv :=
  ⟨h.blk.kept q.kept (by simp), own_quiet h.own q, own_quiet h.sown q, h.n1, h.n2, h.n3, h.broom, h.bbs, h.bsts, h.bf⟩
theorem Wr.kept {F : List Nat} {w w' : World} {b : Nat} {s : WS} {v sv : Value} (h : Wr w b s v sv) (k : Kept F w w') (hd : ∀ x, x ∈ foot b v sv → x ∉ F) : Wr w' b s v sv :=
  ⟨h.blk.kept k (hd b (by simp [foot])), own_kept h.own k (fun x hx => hd x (by simp [foot, hx])), own_kept h.sown k (fun x hx => hd x (by simp [foot, hx])), h.n1, h.n2, h.n3, h.broom, h.bbs, h.bsts, h.bf⟩
theorem Wr.alloc {w : World} {b : Nat} {s : WS} {v sv : Value} (h : Wr w b s v sv) (o : Obj) : Wr (w.alloc o) b s v sv := h.kept ((Kept.refl [] w).alloc o) (by simp)

/-- Bytes behind the bytes so far. -/
theorem Wr.grow {w w1 : World} {b : Nat} {s : WS} {v sv v' : Value} (h : Wr w b s v sv) (ys : List Nat)
    (hown : w1.ownsRow 0 5 1 v' (s.bs ++ ys).length (u8s (s.bs ++ ys))) (hg : w.grownBy w1 v.ownBlock) (hat : v'.ownBlock = v.ownBlock ∨ v'.ownBlock = some w.heap.size)
    (hl : s.bs.length + ys.length ≤ 70368744177664) :
    Wr (w1.setCell ⟨b, 1, none⟩ v') b { s with bs := s.bs ++ ys } v' sv ∧ Kept (foot b v sv) w (w1.setCell ⟨b, 1, none⟩ v') ∧ ∀ x, x ∈ foot b v' sv → x ∈ foot b v sv ∨ w.heap.size ≤ x := by
  have hb := h.blk.lt
  have k1 : Kept (foot b v sv) w w1 := (Kept.refl _ _).grown hg (fun k hk => Or.inl (by simp [foot, hk]))
  have k2 : Kept (foot b v sv) w (w1.setCell ⟨b, 1, none⟩ v') := k1.setCell (Or.inl (by simp [foot])) v'
  have n1' : v'.ownBlock ≠ some b := by
    rcases hat with e | e <;> rw [e]
    · exact h.n1
    · simp; omega
  have n3' : ∀ k, v'.ownBlock = some k → sv.ownBlock ≠ some k := by
    intro k hk hs
    rcases hat with e | e
    · exact h.n3 k (by rw [← e]; exact hk) hs
    · rw [e] at hk; simp at hk; subst hk
      have := (h.sown.lt _ hs).2; omega
  refine ⟨⟨?_, ?_, ?_, n1', h.n2, n3', h.broom, by simpa using hl, h.bsts, h.bf⟩, k2, ?_⟩
  · have b1 : Blk w1 b #[.int .i64 (s.room : Int), v, sv, .int .i64 (s.fault : Int)] 77 := by
      have := hg.block b hb (fun e => h.n1 e.symm)
      exact this.trans h.blk
    have := b1.set 1 v'
    simpa using this
  · exact own_kept hown ((Kept.refl [b] _).setCell (Or.inl (by simp)) v') (fun k hk => by simp; intro e; exact n1' (by rw [hk, e]))
  · have s1 : w1.ownsRow 0 3 1 sv s.sts.length (i64s s.sts) := by
      refine own_kept h.sown ((Kept.refl v.ownBlock.toList _).grown hg (fun k hk => Or.inl (by simp [hk]))) (fun k hk => ?_)
      simp; intro e; exact h.n3 k e hk
    exact own_kept s1 ((Kept.refl [b] _).setCell (Or.inl (by simp)) v') (fun k hk => by simp; intro e; exact h.n2 (by rw [hk, e]))
  · intro x hx
    simp [foot] at hx ⊢
    rcases hx with hx | hx | hx
    · exact Or.inl (Or.inl hx)
    · rcases hat with e | e
      · exact Or.inl (Or.inr (Or.inl (by rw [← e]; exact hx)))
      · rw [e] at hx; simp at hx; right; omega
    · exact Or.inl (Or.inr (Or.inr hx))

def cat (ps : List (Value × List Nat)) : List Nat := (ps.map (·.2)).flatten
theorem cat_take (ps : List (Value × List Nat)) (k : Nat) (hk : k < ps.length) : cat (ps.take (k + 1)) = cat (ps.take k) ++ ps[k].2 := by
  unfold cat; rw [List.take_succ_eq_append_getElem hk, List.map_append, List.flatten_append]; simp
theorem cat_take_le (ps : List (Value × List Nat)) (k : Nat) : (cat (ps.take k)).length ≤ (cat ps).length := by
  have : cat ps = cat (ps.take k) ++ cat (ps.drop k) := by
    unfold cat; rw [← List.flatten_append, ← List.map_append, List.take_append_drop]
  rw [this]; simp

theorem sees_len {w : World} {v : Value} {bs : List Nat} (h : Sees w v bs) : ∃ a cap, v = .slice a bs.length cap := by
  rcases h with ⟨h1, h2⟩ | ⟨b, off, cap, hv, _⟩
  · exact ⟨none, 0, by rw [h1, h2]; rfl⟩
  · exact ⟨_, _, hv⟩

end Go.Proofs.YtfhfkpgfnlmfhaaDoor

/- The writer's lay. -/
namespace Go.Proofs.YtfhfkpgfnlmfhaaDoor
open Go.RowKit

set_option maxRecDepth 100000 in
set_option maxHeartbeats 1000000 in
/-- lay where there is room. -/
theorem lay_fits {w : World} {b : Nat} {s : WS} {v sv : Value} (h : Wr w b s v sv) (hf : s.fault = 0) (pb pc : Nat) (ps : List (Value × List Nat))
    (hpb : Blk w pb (ps.map (·.1)).toArray 23) (hpn : pb ∉ foot b v sv) (hps : ∀ p, p ∈ ps → Sees w p.1 p.2 ∧ ∀ k, p.1.ownBlock = some k → k ∉ foot b v sv)
    (hl : s.bs.length + (cat ps).length ≤ 70368744177664) (hn : ps.length < 1000) (hroom : s.bs.length + (cat ps).length ≤ s.room) :
    Calls Tryd.prog 52 #[.pointer (some ⟨b, 0, none⟩), .slice (some ⟨pb, 0, none⟩) ps.length pc] w fun e w' => e = .returned (.tuple #[]) ∧
      ∃ v', Wr w' b { s with bs := s.bs ++ cat ps } v' sv ∧ Kept (foot b v sv) w w' ∧ ∀ x, x ∈ foot b v' sv → x ∈ foot b v sv ∨ w.heap.size ≤ x := by
  obtain ⟨i0, hi, hz0, hz1, hz2⟩ := info_parts Tryd.info5
  have HH := hide h
  have HPS := hide hps
  have HPB := hide hpb
  clear h hps hpb
  have hnn : (0 : Int) ≤ (ps.length : Int) := by omega
  go_enter Tryd.func52, Tryd.ntmps52
  go_wp2_with (first | (go_at_call 74; refine (fails_no (unhide HH) hf).mono ?_; rintro e w' ⟨rfl, rfl⟩))
  go_loop [4, 13] (fun sz i => ∃ k : Nat, k ≤ ps.length ∧ i = .int .i64 k ∧ sz = .int .i64 ((cat (ps.take k)).length : Nat)) (fun _ i => ps.length - (intOf i).toNat)
  case atStart => exact ⟨0, by omega, rfl, rfl⟩
  case round =>
    obtain ⟨k, hk, rfl, rfl⟩ := hrel
    have hle := cat_take_le ps k
    by_cases hlt : k < ps.length
    · have hce : w.cell? ⟨pb, k, none⟩ = some (ps[k].1) := by rw [(unhide HPB).cell]; simp [hlt]
      obtain ⟨a, cap, hv⟩ := sees_len ((unhide HPS) ps[k] (List.getElem_mem hlt)).1
      have ht : (cat (ps.take (k + 1))).length = (cat (ps.take k)).length + ps[k].2.length := by rw [cat_take ps k hlt]; simp
      have hle2 := cat_take_le ps (k + 1)
      have HT := hide ht
      clear ht
      rw [hv] at hce
      have hle3 : (cat (ps.take k)).length + ps[k].2.length ≤ (cat ps).length := by rw [← unhide HT]; exact hle2
      clear hle2
      clear hv
      go_wp2
      go_round
      case rel => exact ⟨k + 1, by omega, by go_num, by rw [unhide HT]; go_num⟩
      case measure => simp [intOf]; omega
    · have hkl : k = ps.length := by omega
      subst hkl
      rw [List.take_length]
      clear hle hk hlt
      go_wp2_with (first | (go_at_call 75; refine (hasRoom_any (unhide HH) _ (by omega) true (by simpa using hroom)).mono ?_; rintro e w1 ⟨rfl, hq⟩))
      have HH1 := hide ((unhide HH).quiet hq)
      go_loopw [30] (fun i wr => ∃ (k : Nat) (v' : Value), k ≤ ps.length ∧ i = .int .i64 k ∧ Wr wr b { s with bs := s.bs ++ cat (ps.take k) } v' sv ∧ Kept (foot b v sv) w wr ∧ (∀ x, x ∈ foot b v' sv → x ∈ foot b v sv ∨ w.heap.size ≤ x)) (fun i _ => ps.length - (intOf i).toNat)
      case atStart => exact ⟨0, v, by omega, rfl, by simpa [cat] using (unhide HH1), hq.kept.mono (by simp), fun x hx => Or.inl hx⟩
      case round =>
        obtain ⟨k, v1, hk, rfl, hwr, hkept, hfoot⟩ := hrel
        have hle := cat_take_le ps k
        have HK := hide hkept
        have HF := hide hfoot
        have HW := hide hwr
        clear hkept hfoot
        by_cases hlt : k < ps.length
        · have hnf : (∀ x, x ∈ foot b v1 sv → ¬ x = pb) := by
            intro x hx e; subst e
            rcases unhide HF _ hx with h1 | h1
            · exact hpn h1
            · have := (unhide HPB).lt; omega
          have hce : wr.cell? ⟨pb, k, none⟩ = some (ps[k].1) := by rw [((unhide HPB).kept (unhide HK) hpn).cell]; simp [hlt]
          obtain ⟨hs1, hs2⟩ := (unhide HPS) ps[k] (List.getElem_mem hlt)
          have hs3 := hs1.kept (unhide HK) hs2
          have HT := hide (cat_take ps k hlt)
          have hle2 : (cat (ps.take k)).length + ps[k].2.length ≤ (cat ps).length := by
            have h1 := cat_take_le ps (k + 1); rw [unhide HT] at h1; simpa using h1
          obtain ⟨c0, c1, c2, c3⟩ := blk4 hwr.blk
          have f1 := hwr.blk.frozen 1
          have hown := hwr.own
          clear hwr hs1 hs2
          go_wp2_with (at_builtin; refine wpList_append_sees _ rfl _ _ 23 rfl 0 5 i0 (.int .u8 0) Tryd.underlying23 hi hz0 hz1 hz2 rfl _ (s.bs ++ cat (ps.take k)) rfl hown _ ps[k].2 rfl hs3 ?c1 (Nat.zero_le _) ?_)
          case c1 => first | omega | (simp; omega)
          intro v2 w2 hown2 hg hat
          obtain ⟨a2, cap2, hv2⟩ := own_len hown2
          subst hv2
          have HR := hide ((unhide HW).grow ps[k].2 (by simpa [Nat.add_assoc] using hown2) hg hat (by simp; omega))
          have c1' : w2.cell? ⟨b, 1, none⟩ = some v1 := hg.cell c1 (fun e => (unhide HW).n1 e.symm)
          have f1' : w2.frozen? ⟨b, 1, none⟩ = false := (World.frozen?_of_block (hg.block b (unhide HW).blk.lt (fun e => (unhide HW).n1 e.symm))).trans f1
          clear hown hown2 hg hat c0 c1 c2 c3 f1 hs3 hce
          go_wp2
          go_roundw
          case rel =>
            obtain ⟨r1, r2, r3⟩ := unhide HR
            refine ⟨k + 1, .slice a2 (s.bs.length + ((cat (ps.take k)).length + ps[k].2.length)) cap2, by omega, by go_num, ?_, (unhide HK).trans r2 (fun x hx => unhide HF x hx), fun x hx => ?_⟩
            · rw [unhide HT]; simpa using r1
            · rcases r3 x hx with h1 | h1
              · exact unhide HF x h1
              · right; have := (unhide HK).size; omega
          case measure => simp [intOf]; omega
        · have hkl : k = ps.length := by omega
          subst hkl
          clear hwr
          go_wp2
          go_end0
          refine ⟨rfl, v1, ?_, unhide HK, unhide HF⟩
          have := unhide HW
          rwa [List.take_length] at this
end Go.Proofs.YtfhfkpgfnlmfhaaDoor

/- The writer's New, Num, Int, Len, Done. -/
namespace Go.Proofs.YtfhfkpgfnlmfhaaDoor
open Go.RowKit

def newWS (room : Nat) : WS := ⟨room, [], [], 0⟩
def nilS : Value := .slice none 0 0

set_option maxRecDepth 100000 in
set_option maxHeartbeats 400000 in
theorem new_any (room : Nat) (w : World) (hr : room < 9223372036854775808) :
    Calls Tryd.prog 27 #[.int .i64 (room : Int)] w fun e w' => ∃ b, e = .returned (.pointer (some ⟨b, 0, none⟩)) ∧ w.heap.size ≤ b ∧ Wr w' b (newWS room) nilS nilS ∧ Kept [] w w' := by
  go_enter Tryd.func27, Tryd.ntmps27
  go_wp2
  go_ret
  refine ⟨w.heap.size, rfl, Nat.le_refl _, ⟨Blk.new _ _ _, World.ownsRow_nil _ _ _ _, World.ownsRow_nil _ _ _ _, by simp [nilS, Value.ownBlock], by simp [nilS, Value.ownBlock], by simp [nilS, Value.ownBlock], hr, by simp [newWS], by simp [newWS], by simp [newWS]⟩, (Kept.refl _ _).alloc _⟩

theorem sees_alloc {w : World} {v : Value} {bs : List Nat} (o : Obj) (h : Sees w v bs) : Sees (w.alloc o) v bs := h.kept ((Kept.refl [] w).alloc o) (by simp)

theorem foot_lt {w : World} {b : Nat} {s : WS} {v sv : Value} (h : Wr w b s v sv) : ∀ x, x ∈ foot b v sv → x < w.heap.size := by
  intro x hx
  simp [foot] at hx
  rcases hx with rfl | hx | hx
  · exact h.blk.lt
  · exact (h.own.lt _ hx).2
  · exact (h.sown.lt _ hx).2

theorem form_any' (n : Nat) (w : World) (hn : n < 18446744073709551616) :
    Calls Tryd.prog 123 #[.int .u64 n] w fun e w' => ∃ a cap, e = .returned (.slice a (form n).length cap) ∧ w'.ownsRow w.heap.size 5 1 (.slice a (form n).length cap) (form n).length (u8s (form n)) ∧ Kept [] w w' := by
  refine (form_any n w hn).mono ?_
  rintro e w' ⟨v, rfl, h1, h2⟩
  obtain ⟨a, cap, rfl⟩ := own_len h1
  exact ⟨a, cap, rfl, h1, h2⟩

/-- What a call of lay with one part needs, where that part is of new memory. -/
theorem lay_one {w w1 : World} {b : Nat} {s : WS} {v sv : Value} (h : Wr w b s v sv) (hf : s.fault = 0) (fv : Value) (fs : List Nat)
    (hfo : w1.ownsRow w.heap.size 5 1 fv fs.length (u8s fs)) (hk1 : Kept [] w w1)
    (hl : s.bs.length + fs.length ≤ 70368744177664) (hroom : s.bs.length + fs.length ≤ s.room) :
    Calls Tryd.prog 52 #[.pointer (some ⟨b, 0, none⟩), .slice (some ⟨w1.heap.size, 0, none⟩) 1 1] (w1.alloc (.cells #[fv] 23)) fun e w' => e = .returned (.tuple #[]) ∧
      ∃ v', Wr w' b { s with bs := s.bs ++ fs } v' sv ∧ Kept (foot b v sv) w w' ∧ ∀ x, x ∈ foot b v' sv → x ∈ foot b v sv ∨ w.heap.size ≤ x := by
  have hfl := foot_lt h
  have hks := hk1.size
  have ec : cat [(fv, fs)] = fs := by simp [cat]
  have h1 : Wr (w1.alloc (.cells #[fv] 23)) b s v sv := (h.kept hk1 (by simp)).alloc _
  refine (lay_fits h1 hf w1.heap.size 1 [(fv, fs)] (Blk.new _ _ _) (fun hm => by have := hfl _ hm; omega) ?_ (by rw [ec]; exact hl) (by simp) (by rw [ec]; exact hroom)).mono ?_
  · intro p hp
    simp at hp; subst hp
    refine ⟨sees_alloc _ (Sees.of_own hfo), fun k hk hm => ?_⟩
    have := hfl _ hm; have := (hfo.lt k hk).1; omega
  · rintro e w' ⟨rfl, v', hw, hk, hx⟩
    rw [ec] at hw
    refine ⟨rfl, v', hw, (hk1.alloc _).mono (by simp) |>.trans hk (fun x hx => Or.inl hx), fun x hxx => ?_⟩
    rcases hx x hxx with h2 | h2
    · exact Or.inl h2
    · right; simp at h2; omega

set_option maxRecDepth 100000 in
set_option maxHeartbeats 400000 in
theorem wnum_fits {w : World} {b : Nat} {s : WS} {v sv : Value} (h : Wr w b s v sv) (hf : s.fault = 0) (n : Nat) (hn : n < 18446744073709551616) (hl : s.bs.length ≤ 1000000000000) (hroom : s.bs.length + (form n).length ≤ s.room) :
    Calls Tryd.prog 121 #[.pointer (some ⟨b, 0, none⟩), .int .u64 n] w fun e w' => e = .returned (.tuple #[]) ∧
      ∃ v', Wr w' b { s with bs := s.bs ++ form n } v' sv ∧ Kept (foot b v sv) w w' ∧ ∀ x, x ∈ foot b v' sv → x ∈ foot b v sv ∨ w.heap.size ≤ x := by
  have HH := hide h
  clear h
  have h10 := form_le10 n hn
  go_enter Tryd.func121, Tryd.ntmps121
  go_wp2_with (first | (go_at_call 123; refine (form_any' n _ hn).mono ?_; rintro e w1 ⟨fa, fc, rfl, hfo, hk1⟩) | (go_at_call 52; refine (lay_one (unhide HH) hf _ _ hfo hk1 (by omega) hroom).mono ?_; rintro e w2 ⟨rfl, HX⟩))
  go_end0
  exact ⟨rfl, HX⟩

set_option maxRecDepth 100000 in
set_option maxHeartbeats 400000 in
/-- bytes.Clone -/
theorem clone_any {w : World} {x : Value} {bs : List Nat} (h : Sees w x bs) (hl : bs.length ≤ 140737488355328) :
    Calls Tryd.prog 50 #[x] w fun e w' => ∃ a cap, e = .returned (.slice a bs.length cap) ∧ w'.ownsRow w.heap.size 5 1 (.slice a bs.length cap) bs.length (u8s bs) ∧ Kept [] w w' := by
  obtain ⟨i0, hi, hz0, hz1, hz2⟩ := info_parts Tryd.info5
  have e0 := fun (a : Option Addr) (n c : Nat) (w : World) => Lib.run_eql_slice_nil (P := Tryd.prog) w 23 5 a n c 0 0 Tryd.underlying23
  rcases h with ⟨rfl, rfl⟩ | ⟨b, off, cap, rfl, h1, h2, h3, h4⟩
  · go_enter Tryd.func50, Tryd.ntmps50
    go_wp2
    go_ret
    exact ⟨none, 0, rfl, World.ownsRow_nil _ _ _ _, Kept.refl _ _⟩
  · have hs : Sees w (.slice (some ⟨b, off, none⟩) bs.length cap) bs := Or.inr ⟨b, off, cap, rfl, h1, h2, h3, h4⟩
    clear h1 h2 h3 h4
    go_enter Tryd.func50, Tryd.ntmps50
    go_wp2_with (at_builtin; refine wpList_append_sees _ rfl _ _ 23 rfl w.heap.size 5 i0 (.int .u8 0) Tryd.underlying23 hi hz0 hz1 hz2 rfl _ [] rfl (World.ownsRow_made w #[] 0 (Nat.le_refl _) (Nat.zero_le _) rfl) _ bs rfl (sees_alloc _ hs) ?c1 ?c2 ?_)
    case c1 => first | omega | (simp; omega)
    case c2 => simp
    intro v' w1 hown hg hat
    obtain ⟨a, c, hv⟩ := own_len hown
    subst hv
    go_wp2
    go_ret
    exact ⟨a, c, rfl, by simpa using hown, ((Kept.refl [] w).alloc _).grown hg (fun k hk => by simp [Value.ownBlock] at hk; right; omega)⟩

set_option maxRecDepth 100000 in
set_option maxHeartbeats 400000 in
theorem wdone_ok {w : World} {b : Nat} {s : WS} {v sv : Value} (h : Wr w b s v sv) (hf : s.fault = 0) (hs : s.sts = []) :
    Calls Tryd.prog 29 #[.pointer (some ⟨b, 0, none⟩)] w fun e w' => ∃ a cap, e = .returned (.tuple #[.slice a s.bs.length cap, .int .i64 0]) ∧ w'.ownsRow w.heap.size 5 1 (.slice a s.bs.length cap) s.bs.length (u8s s.bs) ∧ Kept [] w w' := by
  obtain ⟨c0, c1, c2, c3⟩ := blk4 h.blk
  have hsee := Sees.of_own h.own
  obtain ⟨a, cap, rfl⟩ := own_len h.own
  obtain ⟨sa, scap, hsv⟩ := own_len h.sown
  rw [hs] at hsv; rw [hsv] at c2; rw [hf] at c3
  have hbb := h.bbs
  clear h hf hs hsv
  go_enter Tryd.func29, Tryd.ntmps29
  go_wp2_with (first | (go_at_call 50; refine (clone_any hsee (by omega)).mono ?_; rintro e w' ⟨ca, cc, rfl, hfo, hk1⟩))
  go_ret2
  exact ⟨ca, cc, rfl, hfo, hk1⟩
end Go.Proofs.YtfhfkpgfnlmfhaaDoor
