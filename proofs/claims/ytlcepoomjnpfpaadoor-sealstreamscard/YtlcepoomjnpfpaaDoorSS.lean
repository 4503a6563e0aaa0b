/- What a script of streams keeps in memory. -/
import Derived.Test.YtlcepoomjnpfpaaDoorLent
import Derived.Test.YtlcepoomjnpfpaaDoorRefD
import Derived.Deep.RegionLaw
namespace Go.Proofs.YtlcepoomjnpfpaaDoor
open Go.RowKit

/-- the streams ss, the rows vs of all that was written: al -/
structure SS (w wr : World) (lb ab : Nat) (ss : Nat → Nat) (vs : Nat → Value) (sl al : Nat → List Nat) : Prop where
  lrow : Blk wr lb #[.pointer (some ⟨ss 0, 0, none⟩), .pointer (some ⟨ss 1, 0, none⟩), .pointer none] 29
  arr : Blk wr ab #[vs 0, vs 1, vs 2] 34
  str : ∀ j, j < 2 → Str wr (ss j) (crc (sl j)) (sl j).length
  row : ∀ j, j < 3 → wr.ownsRow w.heap.size 5 1 (vs j) (al j).length (u8s (al j))
  byte : ∀ j, j < 3 → ∀ x ∈ al j, x < 256
  dis : ∀ i j, i < 3 → j < 3 → i ≠ j → ∀ x, (vs i).ownBlock = some x → (vs j).ownBlock ≠ some x
  ne : ss 0 ≠ ss 1
  new : w.heap.size ≤ lb ∧ w.heap.size ≤ ab ∧ w.heap.size ≤ ss 0 ∧ w.heap.size ≤ ss 1
  kept : Kept [] w wr

theorem blk_ne {w : World} {b b' : Nat} {c c' : Array Value} {t t' : TypeId} (h : Blk w b c t) (h' : Blk w b' c' t') (ht : t ≠ t') : b ≠ b' := by
  intro e
  subst e
  unfold Blk at h h'
  rw [h] at h'
  injection h' with e1
  injection e1 with _ e2 _
  exact ht e2
theorem own_blk {w : World} {base : Nat} {v : Value} {n : Nat} {xs : List Value} (h : w.ownsRow base 5 1 v n xs) {k : Nat} (hk : v.ownBlock = some k) : ∃ cur, Blk w k cur 5 := by
  rcases h.2 with ⟨h1, _⟩ | ⟨g, cap, cur, hv, _, hg, _⟩
  · rw [h1] at hk; cases hk
  · rw [hv] at hk
    simp [Value.ownBlock] at hk
    subst hk
    exact ⟨cur, hg⟩

/-- blocks F that are none of these -/
theorem SS.frame {w wr wz : World} {lb ab : Nat} {ss : Nat → Nat} {vs : Nat → Value} {sl al : Nat → List Nat} (h : SS w wr lb ab ss vs sl al) {F : List Nat} (hk : Kept F wr wz)
    (hl : lb ∉ F) (ha : ab ∉ F) (hs : ∀ j, j < 2 → ss j ∉ F) (hv : ∀ j, j < 3 → ∀ x, (vs j).ownBlock = some x → x ∉ F) (hF : ∀ x ∈ F, w.heap.size ≤ x) : SS w wz lb ab ss vs sl al :=
  ⟨h.lrow.kept hk hl, h.arr.kept hk ha, fun j hj => Blk.kept (h.str j hj) hk (hs j hj), fun j hj => own_kept (h.row j hj) hk (hv j hj), h.byte, h.dis, h.ne, h.new, h.kept.trans hk (fun x hx => Or.inr (hF x hx))⟩
theorem SS.quiet {w wr wz : World} {lb ab : Nat} {ss : Nat → Nat} {vs : Nat → Value} {sl al : Nat → List Nat} (h : SS w wr lb ab ss vs sl al) (hk : Kept [] wr wz) : SS w wz lb ab ss vs sl al :=
  h.frame hk (by simp) (by simp) (by simp) (by simp) (by simp)
/-- a text of the call's own is written over -/
theorem SS.over {w wr wz : World} {lb ab : Nat} {ss : Nat → Nat} {vs : Nat → Value} {sl al : Nat → List Nat} (h : SS w wr lb ab ss vs sl al) {base g cap L : Nat} {bs : List Nat} (hg : Lent wr base g cap L bs) (hb : w.heap.size ≤ base) (hn : ∀ j, j < 3 → (vs j).ownBlock ≠ some g) (hk : Kept [g] wr wz) : SS w wz lb ab ss vs sl al := by
  obtain ⟨cur, hcur⟩ := own_blk hg.2.2 (k := g) rfl
  have hge := hg.caps.2.2.1
  refine h.frame hk ?_ ?_ ?_ ?_ ?_
  · simp; exact blk_ne h.lrow hcur (by decide)
  · simp; exact blk_ne h.arr hcur (by decide)
  · intro j hj; simp; exact blk_ne (h.str j hj) hcur (by decide)
  · intro j hj x hx; simp; intro e; subst e; exact hn j hj hx
  · intro x hx; simp at hx; omega
theorem SS.lcell {w wr : World} {lb ab : Nat} {ss : Nat → Nat} {vs : Nat → Value} {sl al : Nat → List Nat} (h : SS w wr lb ab ss vs sl al) {c : Nat} (hc : c < 2) : wr.cell? ⟨lb, c, none⟩ = some (.pointer (some ⟨ss c, 0, none⟩)) := by
  rw [h.lrow.cell]
  obtain rfl | rfl : c = 0 ∨ c = 1 := by omega
  all_goals rfl
theorem SS.lcell2 {w wr : World} {lb ab : Nat} {ss : Nat → Nat} {vs : Nat → Value} {sl al : Nat → List Nat} (h : SS w wr lb ab ss vs sl al) : wr.cell? ⟨lb, 2, none⟩ = some (.pointer none) := by
  rw [h.lrow.cell]; rfl
theorem SS.acell {w wr : World} {lb ab : Nat} {ss : Nat → Nat} {vs : Nat → Value} {sl al : Nat → List Nat} (h : SS w wr lb ab ss vs sl al) {c : Nat} (hc : c < 3) : wr.cell? ⟨ab, c, none⟩ = some (vs c) := by
  rw [h.arr.cell]
  obtain rfl | rfl | rfl : c = 0 ∨ c = 1 ∨ c = 2 := by omega
  all_goals rfl
/-- one of three, changed -/
def put3 {α : Type} (f : Nat → α) (c : Nat) (x : α) : Nat → α := fun j => if j = c then x else f j
theorem put3_same {α : Type} (f : Nat → α) (c : Nat) (x : α) : put3 f c x c = x := by simp [put3]
theorem put3_other {α : Type} (f : Nat → α) {c j : Nat} (x : α) (h : j ≠ c) : put3 f c x j = f j := by simp [put3, h]
theorem put3_row (f : Nat → Value) {c : Nat} (hc : c < 3) (x : Value) : (#[f 0, f 1, f 2] : Array Value).setIfInBounds c x = #[put3 f c x 0, put3 f c x 1, put3 f c x 2] := by
  obtain rfl | rfl | rfl : c = 0 ∨ c = 1 ∨ c = 2 := by omega
  all_goals simp [put3]
/-- a stream has grown -/
theorem SS.wrote {w wr wz : World} {lb ab : Nat} {ss : Nat → Nat} {vs : Nat → Value} {al : Nat → List Nat} (h : SS w wr lb ab ss vs al al) {c : Nat} (hc : c < 2) (hk : Kept [ss c] wr wz) {d : List Nat} (hst : Str wz (ss c) (crc (al c ++ d)) (al c ++ d).length) :
    SS w wz lb ab ss vs (put3 al c (al c ++ d)) al := by
  have hsc := h.str c hc
  refine ⟨h.lrow.kept hk ?_, h.arr.kept hk ?_, ?_, fun j hj => own_kept (h.row j hj) hk ?_, h.byte, h.dis, h.ne, h.new, h.kept.trans hk ?_⟩
  · simp; exact blk_ne h.lrow hsc (by decide)
  · simp; exact blk_ne h.arr hsc (by decide)
  · intro j hj
    by_cases hjc : j = c
    · subst hjc; rw [put3_same]; exact hst
    · rw [put3_other _ _ hjc]
      refine Blk.kept (h.str j hj) hk ?_
      simp
      have := h.ne
      obtain ⟨rfl, rfl⟩ | ⟨rfl, rfl⟩ : (j = 0 ∧ c = 1) ∨ (j = 1 ∧ c = 0) := by omega
      · exact this
      · exact fun e => this e.symm
  · intro x hx hm
    simp at hm
    subst hm
    obtain ⟨cur, hcur⟩ := own_blk (h.row j hj) hx
    exact blk_ne hcur hsc (by decide) rfl
  · intro x hx
    simp at hx
    subst hx
    right
    obtain ⟨_, _, n1, n2⟩ := h.new
    obtain rfl | rfl : c = 0 ∨ c = 1 := by omega
    · exact n1
    · exact n2
theorem SS.wrote2 {w wr : World} {lb ab : Nat} {ss : Nat → Nat} {vs : Nat → Value} {al : Nat → List Nat} (h : SS w wr lb ab ss vs al al) (x : List Nat) : SS w wr lb ab ss vs (put3 al 2 x) al :=
  ⟨h.lrow, h.arr, fun j hj => by rw [put3_other _ _ (by omega)]; exact h.str j hj, h.row, h.byte, h.dis, h.ne, h.new, h.kept⟩
theorem crc_less {bs : List Nat} (h : ∀ b ∈ bs, b < 256) : crc bs < 4294967296 := cpl_lt (takes_lt (cpl_lt (by omega)) bs h)

/-- what l[c].Write does -/
theorem SS.write {w wr : World} {lb ab : Nat} {ss : Nat → Nat} {vs : Nat → Value} {al : Nat → List Nat} (h : SS w wr lb ab ss vs al al) (ht : Tab wr) {c : Nat} (hc : c < 3) {v : Value} {d : List Nat} (hv : Sees wr v d) (hn : (al c).length + d.length ≤ 9223372036854775807) :
    ∃ pv, wr.cell? ⟨lb, c, none⟩ = some pv ∧ Calls Tryd.prog 11 #[pv, v] wr fun e w' => e = .returned (.tuple #[]) ∧ SS w w' lb ab ss vs (put3 al c (al c ++ d)) al ∧ ∃ F, Kept F wr w' ∧ ∀ x ∈ F, ∃ s n, Str wr x s n := by
  by_cases h2 : c < 2
  · refine ⟨_, h.lcell h2, (write_any (h.str c h2) ht hv (crc_less (h.byte c hc)) hn).mono ?_⟩
    rintro e w' ⟨rfl, hs, hk⟩
    refine ⟨rfl, h.wrote h2 hk ?_, _, hk, fun x hx => ?_⟩
    · rw [List.length_append]
      have : crc (al c ++ d) = grown (crc (al c)) d := grown_append 0 _ _
      rw [this]; exact hs
    · simp at hx; subst hx; exact ⟨_, _, h.str c h2⟩
  · obtain rfl : c = 2 := by omega
    refine ⟨_, h.lcell2, (write_nil wr v).mono ?_⟩
    rintro e w' ⟨rfl, rfl⟩
    exact ⟨rfl, h.wrote2 _, [], Kept.refl _ _, by simp⟩
/-- what l[c].Sum and l[c].Len say -/
def askS (c : Nat) (bs : List Nat) : Nat := if c = 2 then 0 else crc bs
def askL (c : Nat) (bs : List Nat) : Nat := if c = 2 then 0 else bs.length
theorem SS.asks {w wr : World} {lb ab : Nat} {ss : Nat → Nat} {vs : Nat → Value} {sl al : Nat → List Nat} (h : SS w wr lb ab ss vs sl al) {c : Nat} (hc : c < 3) :
    ∃ pv, wr.cell? ⟨lb, c, none⟩ = some pv ∧ (∀ m, Calls Tryd.prog 13 #[pv] (wr.drewN m) fun e w' => e = .returned (.int .u32 (askS c (sl c) : Nat)) ∧ w' = wr.drewN m) ∧ ∀ m, Calls Tryd.prog 14 #[pv] (wr.drewN m) fun e w' => e = .returned (.int .i64 (askL c (sl c) : Nat)) ∧ w' = wr.drewN m := by
  by_cases h2 : c < 2
  · have e1 : askS c (sl c) = crc (sl c) := by unfold askS; rw [if_neg (by omega)]
    have e2 : askL c (sl c) = (sl c).length := by unfold askL; rw [if_neg (by omega)]
    rw [e1, e2]
    exact ⟨_, h.lcell h2, fun m => sum_any (h.str c h2), fun m => len_any (h.str c h2)⟩
  · obtain rfl : c = 2 := by omega
    exact ⟨_, h.lcell2, fun m => sum_nil _, fun m => len_nil _⟩

/-- an append as one step of a region that draws -/
theorem step_append_sees {P : Program} (w : World) {ops : Array Oper} {o : Oper} {a : Act} {K : Act → World → Prop} {Q : Exit → Act → World → Prop} {E : Prop} (hgd : o.guard = none) (s x : Operand) (t : TypeId)
    (ho : o.op = .call { callee := .builtin .append, args := #[s, x], argTypes := #[t, t] })
    (base : Nat) (e : TypeId) (i : TypeInfo) (z : Value) (ht : P.underlying t = some (.slice e)) (hi : P.info? e = some i) (hz : i.zero = some z)
    (hsize : i.size = 1) (hby : i.bytes = 1) (hzs : z.cells.size = 1)
    (v : Value) (xs : List Nat) (hs : a.eval s = v) (hown : w.ownsRow base e 1 v xs.length (u8s xs)) (xv : Value) (ys : List Nat) (hxv : a.eval x = xv) (hx : Sees w xv ys)
    (h63 : xs.length + ys.length ≤ 140737488355328) (hbase : base ≤ w.heap.size)
    (h : ∀ v' w', w'.ownsRow base e 1 v' (xs ++ ys).length (u8s (xs ++ ys)) → w.grownBy w' v.ownBlock → (v'.ownBlock = v.ownBlock ∨ v'.ownBlock = some w.heap.size) → K (a.put o.dst v') w') :
    if Region.wanted o (yielded ops a.tmps) = true then Oper.wp P o a w K Q else E := by
  have hw : Region.wanted o (yielded ops a.tmps) = true := by simp [Region.wanted, hgd]
  rw [if_pos hw]
  obtain ⟨v', w', hr, h2, h3, h4⟩ := run_append_sees (P := P) w base t o.type e i z ht hi hz hsize hby hzs v xs hown xv ys hx h63 hbase
  unfold Oper.wp execOp
  simp only [ho, resolve, invoke, builtin, Sem.run_bind, Sem.run_pure, Result.andThen_ok, List.map_toArray, List.map_cons, List.map_nil, hs, hxv, hr]
  exact h v' w' h2 h3 h4

/-- a row has grown and is laid -/
theorem SS.grow {w wr w1 : World} {lb ab : Nat} {ss : Nat → Nat} {vs : Nat → Value} {sl al : Nat → List Nat} (h : SS w wr lb ab ss vs sl al) {c : Nat} (hc : c < 3) {v' : Value} {bs : List Nat} (hb : ∀ x ∈ bs, x < 256)
    (ho : w1.ownsRow w.heap.size 5 1 v' bs.length (u8s bs)) (hg : wr.grownBy w1 (vs c).ownBlock) (hv : v'.ownBlock = (vs c).ownBlock ∨ v'.ownBlock = some wr.heap.size) :
    SS w (w1.setCell ⟨ab, c, none⟩ v') lb ab ss (put3 vs c v') sl (put3 al c bs) := by
  have hF : ∀ k, (vs c).ownBlock = some k → k ∈ (vs c).ownBlock.toList ∨ wr.heap.size ≤ k := fun k hk => Or.inl (by simp [hk])
  have k1 : Kept (vs c).ownBlock.toList wr w1 := (Kept.refl _ wr).grown hg hF
  have hnot : ∀ x cs t, Blk wr x cs t → t ≠ 5 → x ∉ (vs c).ownBlock.toList := by
    intro x cs t hx ht hm
    simp at hm
    obtain ⟨cur, hcur⟩ := own_blk (h.row c hc) hm
    exact blk_ne hx hcur ht rfl
  have hal := h.arr.lt
  have hll := h.lrow.lt
  have hvb : ∀ x, v'.ownBlock = some x → x ≠ ab ∧ w.heap.size ≤ x := by
    intro x hx
    rcases hv with e | e
    · rw [e] at hx
      obtain ⟨cur, hcur⟩ := own_blk (h.row c hc) hx
      exact ⟨blk_ne hcur h.arr (by decide), (own_lt (h.row c hc) hx).1⟩
    · rw [e] at hx
      cases hx
      have := h.kept.size
      exact ⟨by omega, this⟩
  have k2 := (Kept.refl [ab] w1).setCell (p := ⟨ab, c, none⟩) (Or.inl (by simp)) v'
  have hother : ∀ j, j < 3 → j ≠ c → ∀ x, (vs j).ownBlock = some x → x ∉ (vs c).ownBlock.toList ∧ x ≠ ab ∧ v'.ownBlock ≠ some x := by
    intro j hj hjc x hx
    obtain ⟨cur, hcur⟩ := own_blk (h.row j hj) hx
    have hlt := (own_lt (h.row j hj) hx).2
    refine ⟨?_, blk_ne hcur h.arr (by decide), ?_⟩
    · simp; exact h.dis j c hj hc hjc x hx
    · rcases hv with e | e
      · rw [e]; exact h.dis j c hj hc hjc x hx
      · rw [e]; intro q; injection q with q; omega
  refine ⟨(h.lrow.kept k1 (hnot _ _ _ h.lrow (by decide))).kept k2 (by simp; exact blk_ne h.lrow h.arr (by decide)), ?_, fun j hj => Blk.kept (Blk.kept (h.str j hj) k1 (hnot _ _ _ (h.str j hj) (by decide))) k2 (by simp; exact blk_ne (h.str j hj) h.arr (by decide)), ?_, ?_, ?_, h.ne, h.new, (h.kept.trans k1 ?_).trans k2 ?_⟩
  · rw [← put3_row vs hc v']
    exact (h.arr.kept k1 (hnot _ _ _ h.arr (by decide))).set c v'
  · intro j hj
    by_cases hjc : j = c
    · subst hjc; rw [put3_same, put3_same]
      exact own_kept ho k2 (fun k hk => by simp; exact (hvb k hk).1)
    · rw [put3_other _ _ hjc, put3_other _ _ hjc]
      refine own_kept (own_kept (h.row j hj) k1 fun k hk => (hother j hj hjc k hk).1) k2 fun k hk => ?_
      simp; exact (hother j hj hjc k hk).2.1
  · intro j hj
    by_cases hjc : j = c
    · subst hjc; rw [put3_same]; exact hb
    · rw [put3_other _ _ hjc]; exact h.byte j hj
  · intro i j hi hj hij x hx
    by_cases hic : i = c
    · subst hic
      rw [put3_same] at hx
      rw [put3_other _ _ (fun e => hij e.symm)]
      intro hx2
      exact (hother j hj (fun e => hij e.symm) x hx2).2.2 hx
    · rw [put3_other _ _ hic] at hx
      by_cases hjc : j = c
      · subst hjc; rw [put3_same]; exact (hother i hi hic x hx).2.2
      · rw [put3_other _ _ hjc]; exact h.dis i j hi hj hij x hx
  · intro x hx
    simp at hx
    exact Or.inr (own_lt (h.row c hc) hx).1
  · intro x hx
    simp at hx
    subst hx
    exact Or.inr h.new.2.1
end Go.Proofs.YtlcepoomjnpfpaaDoor
