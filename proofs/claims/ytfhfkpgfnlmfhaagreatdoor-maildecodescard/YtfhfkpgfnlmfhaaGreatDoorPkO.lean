/- Texts laid one behind the other: Wall Wclose Enter. -/
import Derived.Test.YtfhfkpgfnlmfhaaGreatDoorPkN
import Derived.Deep.RegionHeld3
import Derived.BigRegion
import Derived.Deep.RegionLaw
import Derived.Deep.AppendLies
import Derived.Test.YtfhfkpgfnlmfhaaGreatDoorPkJ
/- The writer's Byte, Fixed, Open, Len, Done, whatever the state. -/
namespace Go.Proofs.YtfhfkpgfnlmfhaaGreatDoor
open Go.RowKit

theorem Tryz.info3 : (Tryz.prog.info? 3).map (fun i => (i.zero, i.size, i.bytes)) = some (some (.int .i64 0), 1, 8) := by kernel_rfl

/-- Open, as P1.3 has it. -/
def wOpen (s : WS) : WS := if s.fault ≠ 0 then s else if s.sts.length = 16 then failWS 11 else { s with sts := s.sts ++ [s.bs.length] }

theorem news_i64 (w : World) (x : Nat) : ∀ j u, [Value.int .i64 (x : Int)][j]? = some u → (w.alloc (.cells #[.int .i64 (x : Int)] 3)).cell? ((⟨w.heap.size, 0, none⟩ : Addr).add j) = some u := by
  intro j u hj
  match j, hj with
  | 0, hj => simp at hj; subst hj; simp [Addr.add]

end Go.Proofs.YtfhfkpgfnlmfhaaGreatDoor

/- The writer's Close. -/
namespace Go.Proofs.YtfhfkpgfnlmfhaaGreatDoor
open Go.RowKit

/-- Close, as P1.3 has it. -/
def wClose (s : WS) : WS :=
  if s.fault ≠ 0 then s else
  match s.sts.getLast? with
  | none => failWS 2
  | some st => if s.bs.length + (form (s.bs.length - st)).length ≤ s.room then { s with bs := s.bs.take st ++ form (s.bs.length - st) ++ s.bs.drop st, sts := s.sts.dropLast } else failWS 13

theorem own_take {w : World} {base : Nat} {e : TypeId} {g n cap k : Nat} {xs : List Value} (h : w.ownsRow base e 1 (.slice (some ⟨g, 0, none⟩) n cap) n xs) (hk : k ≤ n) :
    w.ownsRow base e 1 (.slice (some ⟨g, 0, none⟩) k cap) k (xs.take k) := by
  have hl := h.1
  rcases h.2 with ⟨h1, _⟩ | ⟨g', cap', cur, hv, hb, hh, hc, hm, hs, ht⟩
  · cases h1
  · cases hv
    refine ⟨by simp; omega, Or.inr ⟨g, cap, cur, rfl, hb, hh, by omega, hm, hs, ?_⟩⟩
    rw [← ht, List.take_take]; congr 1; omega

end Go.Proofs.YtfhfkpgfnlmfhaaGreatDoor

/- The reader's frames: Enter and Leave. -/
namespace Go.Proofs.YtfhfkpgfnlmfhaaGreatDoor
open Go.RowKit

/-- A reader with what stands behind each frame that it is in (the outermost first); D: the block of the bytes. -/
structure Rf (w : World) (b : Nat) (lv bv : Value) (hs : List Value) (left : List Nat) (behind : List (List Nat)) (D : Option Nat) : Prop where
  rd : Rd w b lv bv left
  own : w.ownsRow 0 22 1 bv hs.length hs
  hl : hs.length = behind.length
  h16 : behind.length ≤ 16
  see : ∀ i, i < hs.length → Sees w (hs.getD i nilS) (behind.getD i [])
  dl : ∀ k, lv.ownBlock = some k → D = some k
  dh : ∀ i, i < hs.length → ∀ k, (hs.getD i nilS).ownBlock = some k → D = some k
  d1 : D ≠ some b
  d2 : ∀ k, D = some k → bv.ownBlock ≠ some k
  dlt : ∀ k, D = some k → k < w.heap.size
  n2 : bv.ownBlock ≠ some b
  bb : ∀ i, i < hs.length → (behind.getD i []).length ≤ 140737488355328

def rfoot (b : Nat) (bv : Value) : List Nat := b :: bv.ownBlock.toList

theorem Rf.kept {F : List Nat} {w w' : World} {b : Nat} {lv bv : Value} {hs : List Value} {left : List Nat} {behind : List (List Nat)} {D : Option Nat} (h : Rf w b lv bv hs left behind D) (k : Kept F w w') (hF : ∀ x, x ∈ D.toList ++ rfoot b bv → x ∉ F) : Rf w' b lv bv hs left behind D :=
  ⟨h.rd.kept k (hF b (by simp [rfoot])) (fun x hx => hF x (by simp [h.dl x hx])), own_kept h.own k (fun x hx => hF x (by simp [rfoot, hx])), h.hl, h.h16,
   fun i hi => (h.see i hi).kept k (fun x hx => hF x (by simp [h.dh i hi x hx])), h.dl, h.dh, h.d1, h.d2, fun x hx => Nat.lt_of_lt_of_le (h.dlt x hx) k.size, h.n2, h.bb⟩

/-- A call that takes from what is left, and does nothing to the frames. -/
theorem Rf.step {w w' : World} {b : Nat} {lv lv' bv : Value} {hs : List Value} {left left' : List Nat} {behind : List (List Nat)} {D : Option Nat} (h : Rf w b lv bv hs left behind D) (hr : Rd w' b lv' bv left') (ho : lv'.ownBlock = lv.ownBlock) (k : Kept [b] w w') : Rf w' b lv' bv hs left' behind D :=
  ⟨hr, own_kept h.own k (fun x hx => by simp; intro e; subst e; exact h.n2 hx), h.hl, h.h16,
   fun i hi => (h.see i hi).kept k (fun x hx => by simp; intro e; subst e; exact h.d1 (h.dh i hi _ hx)), fun x hx => h.dl x (by rw [← ho]; exact hx), h.dh, h.d1, h.d2, fun x hx => Nat.lt_of_lt_of_le (h.dlt x hx) k.size, h.n2, h.bb⟩

theorem Tryz.info22 : (Tryz.prog.info? 22).map (fun i => (i.zero, i.size, i.bytes)) = some (some (.slice none 0 0), 1, 24) := by kernel_rfl

theorem news_hdr (w : World) (v : Value) : ∀ j u, [v][j]? = some u → (w.alloc (.cells #[v] 22)).cell? ((⟨w.heap.size, 0, none⟩ : Addr).add j) = some u := by
  intro j u hj
  match j, hj with
  | 0, hj => simp at hj; subst hj; have := blk1 (Blk.new w #[v] 22); simp [Addr.add]

/-- What the world is like behind Enter's closure. -/
def Entered (b q : Nat) (bv : Value) (r : List Nat) (behind : List (List Nat)) (D : Option Nat) (n : Nat) (w w' : World) : Prop :=
  (∃ lv' bv' hs', Rf w' b lv' bv' hs' (r.take n) (behind ++ [r.drop n]) D ∧ (bv'.ownBlock = bv.ownBlock ∨ ∀ x, bv'.ownBlock = some x → w.heap.size ≤ x)) ∧ Blk w' q #[.int .i64 (n : Nat)] 3 ∧ Kept (q :: rfoot b bv) w w'

/-- The frame is entered: what the stores of Enter make of the reader. -/
theorem enter_fin {w w2 w3 : World} {b q n : Nat} {D : Option Nat} {lv lv' bv F nb z : Value} {hs : List Value} {l r : List Nat} {behind : List (List Nat)} (h : Rf w b lv bv hs l behind D) (h16 : behind.length < 16) (hq : Blk w q #[z] 3) (hqf : q ∉ D.toList ++ rfoot b bv)
    (hk : Kept [b] w w2) (hrd : Rd w2 b lv' bv (r.drop n)) (hlo : lv'.ownBlock = lv.ownBlock) (hF : Sees w2 F (r.take n)) (hFo : F.ownBlock = lv.ownBlock)
    (hg : (w2.alloc (.cells #[lv'] 22)).drew.grownBy w3 bv.ownBlock) (hown : w3.ownsRow 0 22 1 nb (hs.length + 1) (hs ++ [lv'])) (hat : nb.ownBlock = bv.ownBlock ∨ nb.ownBlock = some (w2.heap.size + 1)) (hrl : r.length ≤ 140737488355328) :
    Entered b q bv r behind D n w (((w3.setCell ⟨b, 1, none⟩ nb).setCell ⟨b, 0, none⟩ F).setCell ⟨q, 0, none⟩ (.int .i64 (n : Nat))) := by
  simp only [rfoot, List.mem_append, List.mem_cons, Option.mem_toList, not_or] at hqf
  obtain ⟨hqD, hqb, hqv⟩ := hqf
  have hqD' : D ≠ some q := hqD
  have hqv' : bv.ownBlock ≠ some q := hqv
  have hqlt := hq.lt
  have hb := h.rd.blk.lt
  have hs2 := hk.size
  have nbb : nb.ownBlock ≠ some b := by
    rcases hat with e | e
    · rw [e]; exact h.n2
    · rw [e]; intro hx; cases hx; omega
  have nbq : nb.ownBlock ≠ some q := by
    rcases hat with e | e
    · rw [e]; exact hqv'
    · rw [e]; intro hx; cases hx; omega
  have nbD : ∀ k, D = some k → nb.ownBlock ≠ some k := by
    intro k hD
    rcases hat with e | e
    · rw [e]; exact h.d2 k hD
    · rw [e]; intro hx; cases hx; have := h.dlt _ hD; omega
  have kg : Kept bv.ownBlock.toList w2 w3 := ((Kept.refl _ w2).alloc _).drew.grown hg (fun k hk => Or.inl (by simp [hk]))
  have k3 : Kept (rfoot b bv) w w3 := (hk.mono (fun x hx => by simp at hx; exact Or.inl (by simp [rfoot, hx]))).trans kg (fun x hx => Or.inl (by simp [rfoot]; simp at hx; exact Or.inr hx))
  have b3 : Blk w3 b #[lv', bv, .int .i64 0] 69 := hrd.blk.kept kg (by simp; exact h.n2)
  have q3 : Blk w3 q #[z] 3 := hq.kept k3 (by simp [rfoot]; exact ⟨fun e => hqb e, hqv'⟩)
  have kS : Kept [b, q] w3 (((w3.setCell ⟨b, 1, none⟩ nb).setCell ⟨b, 0, none⟩ F).setCell ⟨q, 0, none⟩ (.int .i64 (n : Nat))) := (((Kept.refl [b, q] w3).setCell (Or.inl (by simp)) _).setCell (Or.inl (by simp)) _).setCell (Or.inl (by simp)) _
  have hDk : ∀ k, D = some k → k ∉ bv.ownBlock.toList := fun k hD => by simp; exact h.d2 k hD
  have hDS : ∀ k, D = some k → k ∉ [b, q] := fun k hD => by
    simp; exact ⟨fun e => h.d1 (by rw [hD, e]), fun e => hqD' (by rw [hD, e])⟩
  have hDb : ∀ k, D = some k → k ∉ [b] := fun k hD => by simp; exact fun e => h.d1 (by rw [hD, e])
  refine ⟨⟨F, nb, hs ++ [lv'], ⟨⟨?_, ?_, ?_, ?_⟩, ?_, ?_, ?_, ?_, ?_, ?_, h.d1, nbD, ?_, nbb, ?_⟩, ?_⟩, ?_, ?_⟩
  · have : Blk ((w3.setCell ⟨b, 1, none⟩ nb).setCell ⟨b, 0, none⟩ F) b #[F, nb, .int .i64 0] 69 := by simpa using (b3.set 1 nb).set 0 F
    exact this.other _ (fun e => hqb e.symm) _
  · exact (hF.kept kg (fun k hk' => hDk k (h.dl k (by rw [← hFo]; exact hk')))).kept kS (fun k hk' => hDS k (h.dl k (by rw [← hFo]; exact hk')))
  · rw [hFo]; exact fun e => h.d1 (h.dl b e)
  · simp; omega
  · have := own_kept hown kS (fun k hk' => by simp; exact ⟨fun e => nbb (by rw [hk', e]), fun e => nbq (by rw [hk', e])⟩)
    simpa using this
  · simp [h.hl]
  · simp; omega
  · intro i hi
    by_cases hlt : i < hs.length
    · have e1 : (hs ++ [lv']).getD i nilS = hs.getD i nilS := by simp [List.getD, List.getElem?_append_left hlt]
      have e2 : (behind ++ [r.drop n]).getD i [] = behind.getD i [] := by simp [List.getD, List.getElem?_append_left (show i < behind.length by rw [← h.hl]; exact hlt)]
      rw [e1, e2]
      have s1 := (h.see i hlt).kept hk (fun k hk' => hDb k (h.dh i hlt k hk'))
      exact (s1.kept kg (fun k hk' => hDk k (h.dh i hlt k hk'))).kept kS (fun k hk' => hDS k (h.dh i hlt k hk'))
    · have hi2 : i = hs.length := by simp at hi; omega
      subst hi2
      have e1 : (hs ++ [lv']).getD hs.length nilS = lv' := by simp [List.getD]
      have e2 : (behind ++ [r.drop n]).getD hs.length [] = r.drop n := by rw [h.hl]; simp [List.getD]
      rw [e1, e2]
      exact (hrd.see.kept kg (fun k hk' => hDk k (h.dl k (by rw [← hlo]; exact hk')))).kept kS (fun k hk' => hDS k (h.dl k (by rw [← hlo]; exact hk')))
  · intro k hk'; exact h.dl k (by rw [← hFo]; exact hk')
  · intro i hi k hk'
    by_cases hlt : i < hs.length
    · have e1 : (hs ++ [lv']).getD i nilS = hs.getD i nilS := by simp [List.getD, List.getElem?_append_left hlt]
      rw [e1] at hk'; exact h.dh i hlt k hk'
    · have hi2 : i = hs.length := by simp at hi; omega
      subst hi2
      have e1 : (hs ++ [lv']).getD hs.length nilS = lv' := by simp [List.getD]
      rw [e1] at hk'; exact h.dl k (by rw [← hlo]; exact hk')
  · intro k hD
    have := h.dlt k hD; have := kS.size; have := k3.size; omega
  · intro i hi
    by_cases hlt : i < hs.length
    · have e2 : (behind ++ [r.drop n]).getD i [] = behind.getD i [] := by simp [List.getD, List.getElem?_append_left (show i < behind.length by rw [← h.hl]; exact hlt)]
      rw [e2]; exact h.bb i hlt
    · have hi2 : i = hs.length := by simp at hi; omega
      subst hi2
      have e2 : (behind ++ [r.drop n]).getD hs.length [] = r.drop n := by rw [h.hl]; simp [List.getD]
      rw [e2]; simp; omega
  · rcases hat with e | e
    · exact Or.inl e
    · right; intro x hx; rw [e] at hx; cases hx; omega
  · have q4 : Blk ((w3.setCell ⟨b, 1, none⟩ nb).setCell ⟨b, 0, none⟩ F) q #[z] 3 := (q3.other _ hqb _).other _ hqb _
    simpa using q4.set 0 (.int .i64 (n : Nat))
  · exact (k3.mono (fun x hx => Or.inl (by simp [hx]))).trans kS (fun x hx => by simp at hx; rcases hx with rfl | rfl <;> simp [rfoot])
end Go.Proofs.YtfhfkpgfnlmfhaaGreatDoor
