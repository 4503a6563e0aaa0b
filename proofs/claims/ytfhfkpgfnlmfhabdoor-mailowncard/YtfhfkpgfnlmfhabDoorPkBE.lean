/- A text of the base. -/
import Derived.Test.YtfhfkpgfnlmfhabDoorPkBD
import Derived.Deep.DeepAppendWide
/- MailOwn: what its calls say, behind the turning. -/
namespace Go.Proofs.YtfhfkpgfnlmfhabDoor
open Go.RowKit

theorem encTT {W : World} {p : Ml} {l : Lm} (ht : Tab W) (hm : MW W (trnM p) l) (hs : snd p = true) : Calls Tryd.prog 6 #[.agg (mcc p l)] W fun e w' => ∃ a cap, e = .returned (.tuple #[.slice a (enc (trnM p)).length cap, .int .i64 0]) ∧ w'.ownsRow W.heap.size 5 1 (.slice a (enc (trnM p)).length cap) (enc (trnM p)).length (u8s (enc (trnM p))) ∧ Kept [] W w' := by
  have h := encT ht hm (by rw [snd_trn]; exact hs)
  rw [mcc_trn] at h
  exact h
theorem lentTT {W : World} {p : Ml} {l : Lm} (hm : MW W (trnM p) l) (hs : snd p = true) : Calls Tryd.prog 7 #[.agg (mcc p l)] W fun e w' => ∃ m, e = .returned (.agg (mcc p m)) ∧ MW w' (trnM p) m ∧ Kept [] W w' := by
  have h := lentT hm (by rw [snd_trn]; exact hs)
  rw [mcc_trn] at h
  refine h.mono ?_
  rintro e w' ⟨g1, c1, g2, c2, g3, c3, g4, c4, g5, c5, rfl, hp, k⟩
  rw [mcc_trn]
  exact ⟨_, rfl, ⟨fun _ ho => Or.inl (Sees.of_own (hp.own _ (rows5_mem ho))), hm.len, hm.byt, hm.root⟩, k⟩
theorem decD {W : World} {x : Value} {bs : List Nat} {c : Nat} {pz : Ml} (ht : Tab W) (hx : Wide W x bs) (hb : ∀ y ∈ bs, y < 256) (h : decE bs = c) (h2 : decM bs = pz) : Calls Tryd.prog 10 #[x] W fun e w' => ∃ l, e = .returned (.tuple #[.agg (mcc pz l), .int .i64 (c : Nat)]) ∧ Kept [] W w' := by
  refine (decode_any W x bs ht hx hb).mono ?_
  rintro e w' ⟨hk, l, rfl, -⟩
  rw [h, h2]
  exact ⟨l, rfl, hk⟩
theorem blk_ne {w : World} {b b' : Nat} {cs cs' : Array Value} {t t' : TypeId} (h : Blk w b cs t) (h' : Blk w b' cs' t') (ht : t ≠ t') : b ≠ b' := by
  intro e
  subst e
  have := h.symm.trans h'
  simp at this
  exact ht this.2
theorem OS.far {w0 : World} {rows : List (Value × List Nat)} {boxes : List (Nat × Array Value)} {W Y : World} {b : Nat} {cs : Array Value} (h : OS w0 rows boxes W) (k : Kept [b] W Y) (hb : Blk W b cs 23) (h0 : w0.heap.size ≤ b) : OS w0 rows boxes Y := by
  refine ⟨h.kept.trans k (fun x hx => by simp at hx; subst hx; exact Or.inr h0), ⟨fun r hr => own_kept (h.pool.own r hr) k (fun x hx hm => ?_), h.pool.pw, h.pool.room⟩, fun x hx => (h.bx x hx).kept k (fun hm => ?_)⟩
  · simp at hm; subst hm; exact own_type (h.pool.own r hr) hb (by decide) hx
  · simp at hm; exact blk_ne (h.bx x hx) hb (by decide) hm
/-- And the list of all lists. -/
structure OS2 (w0 : World) (rows : List (Value × List Nat)) (boxes : List (Nat × Array Value)) (ab : Nat) (vs : Array Value) (W : World) : Prop where
  os : OS w0 rows boxes W
  al : Blk W ab vs 23
theorem OS2.go {w0 : World} {rows : List (Value × List Nat)} {boxes : List (Nat × Array Value)} {ab : Nat} {vs : Array Value} {W Y : World} (h : OS2 w0 rows boxes ab vs W) (k : Kept [] W Y) : OS2 w0 rows boxes ab vs Y := ⟨h.os.go k, h.al.kept k (by simp)⟩
theorem OS2.push {w0 : World} {rows : List (Value × List Nat)} {boxes : List (Nat × Array Value)} {ab : Nat} {vs : Array Value} {W Y : World} (h : OS2 w0 rows boxes ab vs W) (k : Kept [] W Y) {v : Value} {l : List Nat} (ho : Y.ownsRow W.heap.size 5 1 v l.length (u8s l)) (hl : l.length ≤ 3000000000) : OS2 w0 ((v, l) :: rows) boxes ab vs Y := ⟨h.os.push k ho hl, h.al.kept k (by simp)⟩
theorem OS2.turnAt {w0 : World} {rows : List (Value × List Nat)} {v : Value} {l l' : List Nat} {boxes : List (Nat × Array Value)} {ab : Nat} {vs : Array Value} {W Y : World} {g : Nat} (h : OS2 w0 rows boxes ab vs W) (i : Nat) (hi : rows[i]? = some (v, l)) (hg : v.ownBlock = some g) (k : Kept [g] W Y) (ho : Y.ownsRow w0.heap.size 5 1 v l'.length (u8s l')) (hl : l'.length = l.length) : OS2 w0 (rows.set i (v, l')) boxes ab vs Y := by
  refine ⟨h.os.turnAt i hi hg k ho hl, h.al.kept k (fun hm => ?_)⟩
  simp at hm
  exact own_type (h.os.row hi) h.al (by decide) (by rw [hm]; exact hg)
theorem skipK (W : World) (z cs : Array Value) : Kept [] W ((W.alloc (.cells z 30)).setRow W.heap.size cs) := ((Kept.refl [] W).alloc (.cells z 30)).setRow (Or.inr (Nat.le_refl _)) cs
theorem blk_cells {W : World} {b : Nat} {vs : List Value} {t : TypeId} (hb : Blk W b vs.toArray t) : ∀ j u, vs[j]? = some u → W.cell? ((⟨b, 0, none⟩ : Addr).add j) = some u := by
  intro j u hu
  have hadd : (⟨b, 0, none⟩ : Addr).add j = ⟨b, j, none⟩ := by unfold Addr.add; split <;> simp_all
  rw [hadd, hb.cell]
  simpa using hu
theorem sls_one (p : Ml) (l : Lm) : ∀ u ∈ sls p l, u.oneCell' = true := by
  intro u hu
  simp [sls] at hu
  rcases hu with rfl | rfl | rfl | rfl | rfl <;> rfl
theorem NewM.mwS {w W : World} {p : Ml} {l : Lm} (h : NewM w p l W) (hl : ∀ o, isT o → (getT p o).length ≤ 262144) (hb : ∀ o, isT o → ∀ x ∈ getT p o, x < 256) (hr : p.root < 18446744073709551616) : MW W p l := ⟨fun o ho => (h.nw o ho).wide, fun o ho => by have := hl o ho; omega, hb, hr⟩
/-- The rows when the bytes are turned too. -/
def rowsZ (p : Ml) (G la lb : Lm) (vy vx vb vw vq vp : Value) : List (Value × List Nat) := (vy, enc (trnM p)) :: (vx, enc (trnM p)) :: (rows5 p lb ++ (rows5 p la ++ ((vb, trn (enc p)) :: (vw, enc p) :: (vq, enc p) :: (vp, enc p) :: rows5K p 5 G)))
end Go.Proofs.YtfhfkpgfnlmfhabDoor
