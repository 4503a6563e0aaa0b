/- Texts laid one behind the other: Wall Wclose Enter. -/
import Derived.Test.YtfhfkpgfnlmfhaaDoorPkN
import Derived.Deep.RegionHeld3
import Derived.BigRegion
import Derived.Deep.RegionLaw
import Derived.Deep.AppendLies
import Derived.Test.YtfhfkpgfnlmfhaaDoorPkJ
/- The writer's Byte, Fixed, Open, Len, Done, whatever the state. -/
namespace Go.Proofs.YtfhfkpgfnlmfhaaDoor
open Go.RowKit

theorem fail_any {w : World} {b : Nat} {s : WS} {v sv : Value} (h : Wr w b s v sv) (c : Nat) (hc : c < 1000) :
    Calls Tryd.prog 51 #[.pointer (some ⟨b, 0, none⟩), .int .i64 c] w fun e w' => e = .returned (.tuple #[]) ∧ WPost w b v sv (wFail s c) w' := by
  unfold wFail
  by_cases hf : s.fault = 0
  · rw [if_neg (by omega)]
    refine (fail_do h hf c hc).mono ?_
    rintro e w' ⟨rfl, h1, h2⟩
    exact ⟨rfl, WPost.fail h1 h2⟩
  · rw [if_pos hf]
    refine (fail_not h hf c).mono ?_
    rintro e w' ⟨rfl, rfl⟩
    exact ⟨rfl, WPost.same h (Kept.refl _ _)⟩

set_option maxRecDepth 100000 in
set_option maxHeartbeats 400000 in
theorem wbyte_in {w : World} {b : Nat} {s : WS} {v sv : Value} (h : Wr w b s v sv) (n : Nat) (hn : n < 256) (hl : s.bs.length ≤ 1000000000000) :
    Calls Tryd.prog 120 #[.pointer (some ⟨b, 0, none⟩), .int .i64 n] w fun e w' => e = .returned (.tuple #[]) ∧ WPost w b v sv (wLay s [n]) w' := by
  have HH := hide h
  clear h
  have he : [] ++ le n 1 = [n] := by simp [le]; omega
  have hmod : (n : Int) % 256 = (n : Int) := by omega
  go_enter Tryd.func120, Tryd.ntmps120
  go_wp2_with fail
  refine (layu8 (bs := []) (World.ownsRow_nil _ w.heap.size _ _) (Nat.le_refl _) (by simp) n hn).mono ?_
  rintro e w1 ⟨a1, c1, rfl, h1, k1⟩
  rw [he] at h1
  rw [he]
  have H1 := hide h1
  have K1 : Kept [] w w1 := k1.mono (by simp [Value.ownBlock])
  clear h1 k1 he
  go_wp2_with (first | (go_at_call 52; refine (lay_part (unhide HH) _ [n] (Sees.of_own (unhide H1)) (fun k hk => fresh_foot (unhide HH) ((unhide H1).lt k hk).1) K1 (by simp; omega)).mono ?_; rintro e w2 ⟨rfl, HX⟩))
  go_end0
  exact ⟨rfl, HX⟩

set_option maxRecDepth 100000 in
set_option maxHeartbeats 400000 in
theorem wbyte_out {w : World} {b : Nat} {s : WS} {v sv : Value} (h : Wr w b s v sv) (n : Int) (hn : n < 0 ∨ 255 < n) :
    Calls Tryd.prog 120 #[.pointer (some ⟨b, 0, none⟩), .int .i64 n] w fun e w' => e = .returned (.tuple #[]) ∧ WPost w b v sv (wFail s 2) w' := by
  have HC := hide (fail_any h 2 (by omega))
  clear h
  rcases hn with hn | hn
  · go_enter Tryd.func120, Tryd.ntmps120
    go_wp2_with (first | (go_at_call 51; refine (unhide HC).mono ?_; rintro e w2 ⟨rfl, HX⟩))
    refine bodyPost_ret (results_none rfl _ _ _) rfl ?_
    exact ⟨rfl, HX⟩
  · have h0 : ¬ n < 0 := by omega
    go_enter Tryd.func120, Tryd.ntmps120
    go_wp2_with (first | (go_at_call 51; refine (unhide HC).mono ?_; rintro e w2 ⟨rfl, HX⟩))
    refine bodyPost_ret (results_none rfl _ _ _) rfl ?_
    exact ⟨rfl, HX⟩

set_option maxRecDepth 100000 in
set_option maxHeartbeats 400000 in
theorem wfixed_in {w : World} {b : Nat} {s : WS} {v sv : Value} (h : Wr w b s v sv) (n size : Nat) (hn : n < 18446744073709551616) (h1 : 1 ≤ size) (h8 : size ≤ 8) (hl : s.bs.length ≤ 1000000000000) :
    Calls Tryd.prog 30 #[.pointer (some ⟨b, 0, none⟩), .int .u64 n, .int .i64 size] w fun e w' => e = .returned (.tuple #[]) ∧ WPost w b v sv (wLay s (le n size)) w' := by
  have HH := hide h
  clear h
  have hle := le_len n size
  have HLE := hide hle
  clear hle
  go_enter Tryd.func30, Tryd.ntmps30
  go_wp2_with fail
  refine (layFixed_any n size hn h1 h8 _).mono ?_
  rintro e w1 ⟨a1, c1, rfl, h1, k1⟩
  have H1 := hide h1
  clear h1
  go_wp2_with (first | (go_at_call 52; refine (lay_part (unhide HH) _ (le n size) (Sees.of_own (unhide H1)) (fun k hk => fresh_foot (unhide HH) ((unhide H1).lt k hk).1) k1 (by rw [unhide HLE]; omega)).mono ?_; rintro e w2 ⟨rfl, HX⟩))
  go_end0
  exact ⟨rfl, HX⟩

set_option maxRecDepth 100000 in
set_option maxHeartbeats 400000 in
theorem wfixed_out {w : World} {b : Nat} {s : WS} {v sv : Value} (h : Wr w b s v sv) (n : Nat) (size : Int) (hn : size < 1 ∨ 8 < size) :
    Calls Tryd.prog 30 #[.pointer (some ⟨b, 0, none⟩), .int .u64 n, .int .i64 size] w fun e w' => e = .returned (.tuple #[]) ∧ WPost w b v sv (wFail s 2) w' := by
  have HC := hide (fail_any h 2 (by omega))
  clear h
  rcases hn with hn | hn
  · go_enter Tryd.func30, Tryd.ntmps30
    go_wp2_with (first | (go_at_call 51; refine (unhide HC).mono ?_; rintro e w2 ⟨rfl, HX⟩))
    refine bodyPost_ret (results_none rfl _ _ _) rfl ?_
    exact ⟨rfl, HX⟩
  · have h0 : ¬ size < 1 := by omega
    go_enter Tryd.func30, Tryd.ntmps30
    go_wp2_with (first | (go_at_call 51; refine (unhide HC).mono ?_; rintro e w2 ⟨rfl, HX⟩))
    refine bodyPost_ret (results_none rfl _ _ _) rfl ?_
    exact ⟨rfl, HX⟩

theorem Tryd.info3 : (Tryd.prog.info? 3).map (fun i => (i.zero, i.size, i.bytes)) = some (some (.int .i64 0), 1, 8) := by kernel_rfl

/-- Open, as P1.3 has it. -/
def wOpen (s : WS) : WS := if s.fault ≠ 0 then s else if s.sts.length = 16 then failWS 11 else { s with sts := s.sts ++ [s.bs.length] }

/-- Where the open frames begin is written anew. -/
theorem Wr.starts {w w1 : World} {b : Nat} {s : WS} {v sv sv' : Value} (h : Wr w b s v sv) (ts : List Nat)
    (hown : w1.ownsRow 0 3 1 sv' ts.length (i64s ts)) (hk : Kept sv.ownBlock.toList w w1) (hat : sv'.ownBlock = sv.ownBlock ∨ ∀ x, sv'.ownBlock = some x → w.heap.size ≤ x)
    (hl : ts.length ≤ 16) :
    Wr (w1.setCell ⟨b, 2, none⟩ sv') b { s with sts := ts } v sv' ∧ Kept (foot b v sv) w (w1.setCell ⟨b, 2, none⟩ sv') ∧ ∀ x, x ∈ foot b v sv' → x ∈ foot b v sv ∨ w.heap.size ≤ x := by
  have hb := h.blk.lt
  have k2 : Kept (foot b v sv) w (w1.setCell ⟨b, 2, none⟩ sv') := (hk.mono (fun x hx => Or.inl (by simp [foot]; simp at hx; simp [hx]))).setCell (Or.inl (by simp [foot])) sv'
  have n2' : sv'.ownBlock ≠ some b := by
    rcases hat with e | e
    · rw [e]; exact h.n2
    · intro hx; have := e b hx; omega
  have n3' : ∀ k, v.ownBlock = some k → sv'.ownBlock ≠ some k := by
    intro k hk' hs
    rcases hat with e | e
    · exact h.n3 k hk' (by rw [← e]; exact hs)
    · have := e k hs; have := (h.own.lt k hk').2; omega
  refine ⟨⟨?_, ?_, ?_, h.n1, n2', n3', h.broom, h.bbs, hl, h.bf⟩, k2, ?_⟩
  · have b1 : Blk w1 b #[.int .i64 (s.room : Int), v, sv, .int .i64 (s.fault : Int)] 77 := h.blk.kept hk (by simp; exact h.n2)
    simpa using b1.set 2 sv'
  · have o1 := own_kept h.own hk (fun k hk' => by simp; exact h.n3 k hk')
    exact own_kept o1 ((Kept.refl [b] _).setCell (Or.inl (by simp)) sv') (fun k hk' => by simp; intro e; exact h.n1 (by rw [hk', e]))
  · exact own_kept hown ((Kept.refl [b] _).setCell (Or.inl (by simp)) sv') (fun k hk' => by simp; intro e; exact n2' (by rw [hk', e]))
  · intro x hx
    simp [foot] at hx ⊢
    rcases hx with hx | hx | hx
    · exact Or.inl (Or.inl hx)
    · exact Or.inl (Or.inr (Or.inl hx))
    · rcases hat with e | e
      · exact Or.inl (Or.inr (Or.inr (by rw [← e]; exact hx)))
      · exact Or.inr (e x hx)

theorem news_i64 (w : World) (x : Nat) : ∀ j u, [Value.int .i64 (x : Int)][j]? = some u → (w.alloc (.cells #[.int .i64 (x : Int)] 3)).cell? ((⟨w.heap.size, 0, none⟩ : Addr).add j) = some u := by
  intro j u hj
  match j, hj with
  | 0, hj => simp at hj; subst hj; simp [Addr.add]

end Go.Proofs.YtfhfkpgfnlmfhaaDoor

/- The writer's Close. -/
namespace Go.Proofs.YtfhfkpgfnlmfhaaDoor
open Go.RowKit

/-- Close, as P1.3 has it. -/
def wClose (s : WS) : WS :=
  if s.fault ≠ 0 then s else
  match s.sts.getLast? with
  | none => failWS 2
  | some st => if s.bs.length + (form (s.bs.length - st)).length ≤ s.room then { s with bs := s.bs.take st ++ form (s.bs.length - st) ++ s.bs.drop st, sts := s.sts.dropLast } else failWS 13

/-- The bytes are written anew. -/
theorem Wr.bytes {w w1 : World} {b : Nat} {s : WS} {v sv v' : Value} (h : Wr w b s v sv) (bs' : List Nat)
    (hown : w1.ownsRow 0 5 1 v' bs'.length (u8s bs')) (hk : Kept v.ownBlock.toList w w1) (hat : v'.ownBlock = v.ownBlock ∨ ∀ x, v'.ownBlock = some x → w.heap.size ≤ x)
    (hl : bs'.length ≤ 70368744177664) :
    Wr (w1.setCell ⟨b, 1, none⟩ v') b { s with bs := bs' } v' sv ∧ Kept (foot b v sv) w (w1.setCell ⟨b, 1, none⟩ v') ∧ ∀ x, x ∈ foot b v' sv → x ∈ foot b v sv ∨ w.heap.size ≤ x := by
  have hb := h.blk.lt
  have k2 : Kept (foot b v sv) w (w1.setCell ⟨b, 1, none⟩ v') := (hk.mono (fun x hx => Or.inl (by simp [foot]; simp at hx; simp [hx]))).setCell (Or.inl (by simp [foot])) v'
  have n1' : v'.ownBlock ≠ some b := by
    rcases hat with e | e
    · rw [e]; exact h.n1
    · intro hx; have := e b hx; omega
  have n3' : ∀ k, v'.ownBlock = some k → sv.ownBlock ≠ some k := by
    intro k hk' hs
    rcases hat with e | e
    · exact h.n3 k (by rw [← e]; exact hk') hs
    · have := e k hk'; have := (h.sown.lt k hs).2; omega
  refine ⟨⟨?_, ?_, ?_, n1', h.n2, n3', h.broom, hl, h.bsts, h.bf⟩, k2, ?_⟩
  · have b1 : Blk w1 b #[.int .i64 (s.room : Int), v, sv, .int .i64 (s.fault : Int)] 77 := h.blk.kept hk (by simp; exact h.n1)
    simpa using b1.set 1 v'
  · exact own_kept hown ((Kept.refl [b] _).setCell (Or.inl (by simp)) v') (fun k hk' => by simp; intro e; exact n1' (by rw [hk', e]))
  · have o1 := own_kept h.sown hk (fun k hk' => by simp; exact fun e => h.n3 k e hk')
    exact own_kept o1 ((Kept.refl [b] _).setCell (Or.inl (by simp)) v') (fun k hk' => by simp; intro e; exact h.n2 (by rw [hk', e]))
  · intro x hx
    simp [foot] at hx ⊢
    rcases hx with hx | hx | hx
    · exact Or.inl (Or.inl hx)
    · rcases hat with e | e
      · exact Or.inl (Or.inr (Or.inl (by rw [← e]; exact hx)))
      · exact Or.inr (e x hx)
    · exact Or.inl (Or.inr (Or.inr hx))

theorem own_take {w : World} {base : Nat} {e : TypeId} {g n cap k : Nat} {xs : List Value} (h : w.ownsRow base e 1 (.slice (some ⟨g, 0, none⟩) n cap) n xs) (hk : k ≤ n) :
    w.ownsRow base e 1 (.slice (some ⟨g, 0, none⟩) k cap) k (xs.take k) := by
  have hl := h.1
  rcases h.2 with ⟨h1, _⟩ | ⟨g', cap', cur, hv, hb, hh, hc, hm, hs, ht⟩
  · cases h1
  · cases hv
    refine ⟨by simp; omega, Or.inr ⟨g, cap, cur, rfl, hb, hh, by omega, hm, hs, ?_⟩⟩
    rw [← ht, List.take_take]; congr 1; omega

end Go.Proofs.YtfhfkpgfnlmfhaaDoor

/- The reader's frames: Enter and Leave. -/
namespace Go.Proofs.YtfhfkpgfnlmfhaaDoor
open Go.RowKit

/-- A reader with what stands behind each frame that it is in (the outermost first); D: the block of the bytes. -/
structure Rf (w : World) (b : Nat) (lv bv : Value) (hs : List Value) (left : List Nat) (behind : List (List Nat)) (D : Option Nat) : Prop where
  rd : Rd w b lv bv left
  own : w.ownsRow 0 23 1 bv hs.length hs
  hl : hs.length = behind.length
  h16 : behind.length ≤ 16
  see : ∀ i, i < hs.length → Sees w (hs.getD i nilS) (behind.getD i [])
  dl : ∀ k, lv.ownBlock = some k → D = some k
  dh : ∀ i, i < hs.length → ∀ k, (hs.getD i nilS).ownBlock = some k → D = some k
  d1 : D ≠ some b
  d2 : ∀ k, D = some k → bv.ownBlock ≠ some k
  dlt : ∀ k, D = some k → k < w.heap.size
  n2 : bv.ownBlock ≠ some b
  bb : ∀ i, i < hs.length → (behind.getD i []).length ≤ 140737488355328

def rfoot (b : Nat) (bv : Value) : List Nat := b :: bv.ownBlock.toList

theorem Rf.kept {F : List Nat} {w w' : World} {b : Nat} {lv bv : Value} {hs : List Value} {left : List Nat} {behind : List (List Nat)} {D : Option Nat} (h : Rf w b lv bv hs left behind D) (k : Kept F w w') (hF : ∀ x, x ∈ D.toList ++ rfoot b bv → x ∉ F) : Rf w' b lv bv hs left behind D :=
  ⟨h.rd.kept k (hF b (by simp [rfoot])) (fun x hx => hF x (by simp [h.dl x hx])), own_kept h.own k (fun x hx => hF x (by simp [rfoot, hx])), h.hl, h.h16,
   fun i hi => (h.see i hi).kept k (fun x hx => hF x (by simp [h.dh i hi x hx])), h.dl, h.dh, h.d1, h.d2, fun x hx => Nat.lt_of_lt_of_le (h.dlt x hx) k.size, h.n2, h.bb⟩

/-- A call that takes from what is left, and does nothing to the frames. -/
theorem Rf.step {w w' : World} {b : Nat} {lv lv' bv : Value} {hs : List Value} {left left' : List Nat} {behind : List (List Nat)} {D : Option Nat} (h : Rf w b lv bv hs left behind D) (hr : Rd w' b lv' bv left') (ho : lv'.ownBlock = lv.ownBlock) (k : Kept [b] w w') : Rf w' b lv' bv hs left' behind D :=
  ⟨hr, own_kept h.own k (fun x hx => by simp; intro e; subst e; exact h.n2 hx), h.hl, h.h16,
   fun i hi => (h.see i hi).kept k (fun x hx => by simp; intro e; subst e; exact h.d1 (h.dh i hi _ hx)), fun x hx => h.dl x (by rw [← ho]; exact hx), h.dh, h.d1, h.d2, fun x hx => Nat.lt_of_lt_of_le (h.dlt x hx) k.size, h.n2, h.bb⟩

theorem Tryd.info23 : (Tryd.prog.info? 23).map (fun i => (i.zero, i.size, i.bytes)) = some (some (.slice none 0 0), 1, 24) := by kernel_rfl

theorem news_hdr (w : World) (v : Value) : ∀ j u, [v][j]? = some u → (w.alloc (.cells #[v] 23)).cell? ((⟨w.heap.size, 0, none⟩ : Addr).add j) = some u := by
  intro j u hj
  match j, hj with
  | 0, hj => simp at hj; subst hj; have := blk1 (Blk.new w #[v] 23); simp [Addr.add]

/-- What the world is like behind Enter's closure. -/
def Entered (b q : Nat) (bv : Value) (r : List Nat) (behind : List (List Nat)) (D : Option Nat) (n : Nat) (w w' : World) : Prop :=
  (∃ lv' bv' hs', Rf w' b lv' bv' hs' (r.take n) (behind ++ [r.drop n]) D ∧ (bv'.ownBlock = bv.ownBlock ∨ ∀ x, bv'.ownBlock = some x → w.heap.size ≤ x)) ∧ Blk w' q #[.int .i64 (n : Nat)] 3 ∧ Kept (q :: rfoot b bv) w w'

/-- The frame is entered: what the stores of Enter make of the reader. -/
theorem enter_fin {w w2 w3 : World} {b q n : Nat} {D : Option Nat} {lv lv' bv F nb z : Value} {hs : List Value} {l r : List Nat} {behind : List (List Nat)} (h : Rf w b lv bv hs l behind D) (h16 : behind.length < 16) (hq : Blk w q #[z] 3) (hqf : q ∉ D.toList ++ rfoot b bv)
    (hk : Kept [b] w w2) (hrd : Rd w2 b lv' bv (r.drop n)) (hlo : lv'.ownBlock = lv.ownBlock) (hF : Sees w2 F (r.take n)) (hFo : F.ownBlock = lv.ownBlock)
    (hg : (w2.alloc (.cells #[lv'] 23)).drew.grownBy w3 bv.ownBlock) (hown : w3.ownsRow 0 23 1 nb (hs.length + 1) (hs ++ [lv'])) (hat : nb.ownBlock = bv.ownBlock ∨ nb.ownBlock = some (w2.heap.size + 1)) (hrl : r.length ≤ 140737488355328) :
    Entered b q bv r behind D n w (((w3.setCell ⟨b, 1, none⟩ nb).setCell ⟨b, 0, none⟩ F).setCell ⟨q, 0, none⟩ (.int .i64 (n : Nat))) := by
  simp only [rfoot, List.mem_append, List.mem_cons, Option.mem_toList, not_or] at hqf
  obtain ⟨hqD, hqb, hqv⟩ := hqf
  have hqD' : D ≠ some q := hqD
  have hqv' : bv.ownBlock ≠ some q := hqv
  have hqlt := hq.lt
  have hb := h.rd.blk.lt
  have hs2 := hk.size
  have nbb : nb.ownBlock ≠ some b := by
    rcases hat with e | e
    · rw [e]; exact h.n2
    · rw [e]; intro hx; cases hx; omega
  have nbq : nb.ownBlock ≠ some q := by
    rcases hat with e | e
    · rw [e]; exact hqv'
    · rw [e]; intro hx; cases hx; omega
  have nbD : ∀ k, D = some k → nb.ownBlock ≠ some k := by
    intro k hD
    rcases hat with e | e
    · rw [e]; exact h.d2 k hD
    · rw [e]; intro hx; cases hx; have := h.dlt _ hD; omega
  have kg : Kept bv.ownBlock.toList w2 w3 := ((Kept.refl _ w2).alloc _).drew.grown hg (fun k hk => Or.inl (by simp [hk]))
  have k3 : Kept (rfoot b bv) w w3 := (hk.mono (fun x hx => by simp at hx; exact Or.inl (by simp [rfoot, hx]))).trans kg (fun x hx => Or.inl (by simp [rfoot]; simp at hx; exact Or.inr hx))
  have b3 : Blk w3 b #[lv', bv, .int .i64 0] 93 := hrd.blk.kept kg (by simp; exact h.n2)
  have q3 : Blk w3 q #[z] 3 := hq.kept k3 (by simp [rfoot]; exact ⟨fun e => hqb e, hqv'⟩)
  have kS : Kept [b, q] w3 (((w3.setCell ⟨b, 1, none⟩ nb).setCell ⟨b, 0, none⟩ F).setCell ⟨q, 0, none⟩ (.int .i64 (n : Nat))) := (((Kept.refl [b, q] w3).setCell (Or.inl (by simp)) _).setCell (Or.inl (by simp)) _).setCell (Or.inl (by simp)) _
  have hDk : ∀ k, D = some k → k ∉ bv.ownBlock.toList := fun k hD => by simp; exact h.d2 k hD
  have hDS : ∀ k, D = some k → k ∉ [b, q] := fun k hD => by
    simp; exact ⟨fun e => h.d1 (by rw [hD, e]), fun e => hqD' (by rw [hD, e])⟩
  have hDb : ∀ k, D = some k → k ∉ [b] := fun k hD => by simp; exact fun e => h.d1 (by rw [hD, e])
  refine ⟨⟨F, nb, hs ++ [lv'], ⟨⟨?_, ?_, ?_, ?_⟩, ?_, ?_, ?_, ?_, ?_, ?_, h.d1, nbD, ?_, nbb, ?_⟩, ?_⟩, ?_, ?_⟩
  · have : Blk ((w3.setCell ⟨b, 1, none⟩ nb).setCell ⟨b, 0, none⟩ F) b #[F, nb, .int .i64 0] 93 := by simpa using (b3.set 1 nb).set 0 F
    exact this.other _ (fun e => hqb e.symm) _
  · exact (hF.kept kg (fun k hk' => hDk k (h.dl k (by rw [← hFo]; exact hk')))).kept kS (fun k hk' => hDS k (h.dl k (by rw [← hFo]; exact hk')))
  · rw [hFo]; exact fun e => h.d1 (h.dl b e)
  · simp; omega
  · have := own_kept hown kS (fun k hk' => by simp; exact ⟨fun e => nbb (by rw [hk', e]), fun e => nbq (by rw [hk', e])⟩)
    simpa using this
  · simp [h.hl]
  · simp; omega
  · intro i hi
    by_cases hlt : i < hs.length
    · have e1 : (hs ++ [lv']).getD i nilS = hs.getD i nilS := by simp [List.getD, List.getElem?_append_left hlt]
      have e2 : (behind ++ [r.drop n]).getD i [] = behind.getD i [] := by simp [List.getD, List.getElem?_append_left (show i < behind.length by rw [← h.hl]; exact hlt)]
      rw [e1, e2]
      have s1 := (h.see i hlt).kept hk (fun k hk' => hDb k (h.dh i hlt k hk'))
      exact (s1.kept kg (fun k hk' => hDk k (h.dh i hlt k hk'))).kept kS (fun k hk' => hDS k (h.dh i hlt k hk'))
    · have hi2 : i = hs.length := by simp at hi; omega
      subst hi2
      have e1 : (hs ++ [lv']).getD hs.length nilS = lv' := by simp [List.getD]
      have e2 : (behind ++ [r.drop n]).getD hs.length [] = r.drop n := by rw [h.hl]; simp [List.getD]
      rw [e1, e2]
      exact (hrd.see.kept kg (fun k hk' => hDk k (h.dl k (by rw [← hlo]; exact hk')))).kept kS (fun k hk' => hDS k (h.dl k (by rw [← hlo]; exact hk')))
  · intro k hk'; exact h.dl k (by rw [← hFo]; exact hk')
  · intro i hi k hk'
    by_cases hlt : i < hs.length
    · have e1 : (hs ++ [lv']).getD i nilS = hs.getD i nilS := by simp [List.getD, List.getElem?_append_left hlt]
      rw [e1] at hk'; exact h.dh i hlt k hk'
    · have hi2 : i = hs.length := by simp at hi; omega
      subst hi2
      have e1 : (hs ++ [lv']).getD hs.length nilS = lv' := by simp [List.getD]
      rw [e1] at hk'; exact h.dl k (by rw [← hlo]; exact hk')
  · intro k hD
    have := h.dlt k hD; have := kS.size; have := k3.size; omega
  · intro i hi
    by_cases hlt : i < hs.length
    · have e2 : (behind ++ [r.drop n]).getD i [] = behind.getD i [] := by simp [List.getD, List.getElem?_append_left (show i < behind.length by rw [← h.hl]; exact hlt)]
      rw [e2]; exact h.bb i hlt
    · have hi2 : i = hs.length := by simp at hi; omega
      subst hi2
      have e2 : (behind ++ [r.drop n]).getD hs.length [] = r.drop n := by rw [h.hl]; simp [List.getD]
      rw [e2]; simp; omega
  · rcases hat with e | e
    · exact Or.inl e
    · right; intro x hx; rw [e] at hx; cases hx; omega
  · have q4 : Blk ((w3.setCell ⟨b, 1, none⟩ nb).setCell ⟨b, 0, none⟩ F) q #[z] 3 := (q3.other _ hqb _).other _ hqb _
    simpa using q4.set 0 (.int .i64 (n : Nat))
  · exact (k3.mono (fun x hx => Or.inl (by simp [hx]))).trans kS (fun x hx => by simp at hx; rcases hx with rfl | rfl <;> simp [rfoot])
end Go.Proofs.YtfhfkpgfnlmfhaaDoor
