/- A text of the base. -/
import Derived.Test.YtfhfkpgfnlmfhaaGreatDoorPkT
/- Rows of bytes of the call's own; append that leaves what was there. -/
namespace Go.Proofs.YtfhfkpgfnlmfhaaGreatDoor
open Go.RowKit

theorem world_at {R C : World → Prop} {x : World} (h : R x) (H : ∀ wr, R wr → C wr) : C x := H x h
def b8s (l : List Int) : List Value := l.map (Value.int .u8)
theorem b8s_length (l : List Int) : (b8s l).length = l.length := by simp [b8s]
theorem b8s_append (l m : List Int) : b8s (l ++ m) = b8s l ++ b8s m := by simp [b8s]
theorem b8s_at (l : List Int) {j : Nat} (hj : j < l.length) : (b8s l)[j]? = some (.int .u8 (l.getD j 0)) := by
  simp [b8s, List.getElem?_eq_getElem hj]
theorem b8s_set (l : List Int) (k : Nat) (x : Int) : b8s (l.set k x) = (b8s l).set k (.int .u8 x) := by simp [b8s, List.map_set]
theorem info5p : (Tryz.prog.info? 5).map (fun i => (i.zero, i.size, i.bytes)) = some (some (.int .u8 0), 1, 1) := by kernel_rfl
theorem cell_one_new (w : World) (v : Value) (t : TypeId) : ∀ j u, [v][j]? = some u → (w.alloc (.cells #[v] t)).cell? ((⟨w.heap.size, 0, none⟩ : Addr).add j) = some u := by
  intro j u hj
  match j, hj with
  | 0, hj => simp at hj; subst hj; have := blk1 (Blk.new w #[v] t); simp [Addr.add]

theorem rowI_of_own {w : World} {base n : Nat} {v : Value} {l : List Int} (h : w.ownsRow base 5 1 v n (b8s l)) (hn : 0 < n) :
    ∃ g cap, v = .slice (some ⟨g, 0, none⟩) n cap ∧ base ≤ g ∧ g < w.heap.size ∧ n ≤ cap ∧ cap ≤ maxLen := by
  rcases h.2 with ⟨_, h2⟩ | ⟨g, cap, cur, hv, hb, hg, hc, hm, _⟩
  · omega
  · exact ⟨g, cap, hv, hb, (Array.getElem?_eq_some_iff.1 hg).1, hc, hm⟩
theorem ownI_cell {w : World} {base n g cap : Nat} {l : List Int} (h : w.ownsRow base 5 1 (.slice (some ⟨g, 0, none⟩) n cap) n (b8s l)) {k : Nat} (hk : k < l.length) :
    w.cell? ⟨g, k, none⟩ = some (.int .u8 (l.getD k 0)) := by
  have := h.cells (g := g) rfl k (.int .u8 (l.getD k 0)) (b8s_at l hk)
  have hadd : (⟨g, 0, none⟩ : Addr).add k = ⟨g, k, none⟩ := by unfold Addr.add; split <;> simp_all
  rw [hadd] at this
  exact this
theorem ownI_frozen {w : World} {base n g cap : Nat} {xs : List Value} (h : w.ownsRow base 5 1 (.slice (some ⟨g, 0, none⟩) n cap) n xs) (k : Nat) : w.frozen? ⟨g, k, none⟩ = false := by
  rcases h.2 with ⟨h1, _⟩ | ⟨g', cap', cur, hv, hb, hg, _⟩
  · cases h1
  · cases hv
    exact Blk.frozen hg k
theorem ownI_set {w : World} {base n g cap : Nat} {l : List Int} (h : w.ownsRow base 5 1 (.slice (some ⟨g, 0, none⟩) n cap) n (b8s l)) (k : Nat) (y : Int) :
    (w.setCell ⟨g, k, none⟩ (.int .u8 y)).ownsRow base 5 1 (.slice (some ⟨g, 0, none⟩) n cap) n (b8s (l.set k y)) := by
  refine ⟨by rw [b8s_length, List.length_set, ← b8s_length]; exact h.1, ?_⟩
  rcases h.2 with ⟨h1, _⟩ | ⟨g', cap', cur, hv, hb, hg, hc, hm, hs, ht⟩
  · cases h1
  · cases hv
    refine Or.inr ⟨g, cap, cur.setIfInBounds k (.int .u8 y), rfl, hb, Blk.set hg k _, hc, hm, by simpa using hs, ?_⟩
    rw [b8s_set, ← ht]
    rw [Array.toList_setIfInBounds, List.take_set]

/-- one number more: the row's first cells stay where they lay -/
theorem run_append_keep {P : Program} (w : World) (base : Nat) (t ty : TypeId) (i : TypeInfo) (z : Value) (ht : P.underlying t = some (.slice 5)) (hi : P.info? 5 = some i) (hz : i.zero = some z)
    (hsize : i.size = 1) (hby : i.bytes = 1) (hzs : z.cells.size = 1)
    (v : Value) (n : Nat) (xs : List Value) (hown : w.ownsRow base 5 1 v n xs) (a : Addr) (x : Value) (hx1 : x.oneCell' = true) (hnews : ∀ j u, [x][j]? = some u → w.cell? (a.add j) = some u)
    (h63 : n + 1 ≤ 17592186044416) (hbase : base ≤ w.heap.size) :
    ∃ v' w', (Builtin.append_ #[t, t] ty #[v, .slice (some a) 1 1]).run P w = .ok v' w' ∧ w'.ownsRow base 5 1 v' (n + 1) (xs ++ [x]) ∧ w.grownBy w' v.ownBlock ∧ (v'.ownBlock = v.ownBlock ∨ v'.ownBlock = some w.heap.size) ∧
      (∀ b, v.ownBlock = some b → ∀ k, k < n → w'.cell? ⟨b, k, none⟩ = w.cell? ⟨b, k, none⟩) := by
  have h1 : ∀ u ∈ [x], u.oneCell' = true := by intro u hu; simp at hu; rw [hu]; exact hx1
  obtain ⟨v', w', hr, h2, h3, _, h5⟩ := run_append_own_at (P := P) w base t ty 5 i z 1 1 ht hi hz hsize hby hzs (by decide) v n xs hown a 1 1 [x] rfl hnews h1 (by unfold maxLen; omega) (by omega) hbase
  refine ⟨v', w', hr, h2, h3, h5, ?_⟩
  intro b hb k hk
  rcases hown.2 with ⟨rfl, _⟩ | ⟨g, cap, cur, hv, hbg, hg, hnc, hcm, hcs, htake⟩
  · cases hb
  · subst hv
    have hbg2 : g = b := by simpa [Value.ownBlock] using hb
    subst hbg2
    have hadd : ∀ k, (⟨g, 0, none⟩ : Addr).add k = ⟨g, k, none⟩ := fun k => by unfold Addr.add; split <;> simp_all
    have hxl : xs.length = n := by have := hown.1; omega
    have hold : w.cell? ⟨g, k, none⟩ = xs[k]? := by
      have := hown.cells (g := g) rfl k xs[k] (List.getElem?_eq_getElem (by omega))
      rw [hadd] at this
      rw [this, List.getElem?_eq_getElem (by omega)]
    by_cases hroom : n + 1 ≤ cap
    · have hfit : n * i.size + [x].length ≤ cur.size := by rw [hsize, hcs]; simp; omega
      have hr2 := run_append_room (P := P) w t ty 5 i ht hi g n cap cur hg a 1 1 [x] (by rw [hsize]; rfl) hnews h1 hroom hfit
      rw [hr] at hr2
      injection hr2 with e1 e2
      subst e1
      have := h2.cells (g := g) rfl k xs[k] (by rw [List.getElem?_append_left (by omega)]; exact List.getElem?_eq_getElem (by omega))
      rw [hadd] at this
      rw [this, hold, List.getElem?_eq_getElem (by omega)]
    · have holds : ∀ j u, xs[j]? = some u → w.cell? ((⟨g, 0, none⟩ : Addr).add j) = some u := hown.cells (g := g) rfl
      have hr2 := run_append_grow (P := P) w t ty 5 i z ht hi hz ⟨g, 0, none⟩ n cap xs (by rw [hsize]; exact hown.1) holds a 1 1 [x] (by rw [hsize]; rfl) hnews (by omega) (by omega) (growslice_fits (by omega) (by rw [hby]; omega))
      rw [hr] at hr2
      injection hr2 with e1 e2
      subst e2
      have hgl : g < w.heap.size := (Array.getElem?_eq_some_iff.1 hg).1
      exact World.cell?_of_block (w := w) (heap_alloc_old w.drew _ hgl)

theorem wpList_append_keep {P : Program} (w : World) {ops : Array Oper} {rest : List Oper} {o : Oper} {a : Act} {Q : Exit → Act → World → Prop} (hgd : o.guard = none) (s x : Operand) (t : TypeId)
    (ho : o.op = .call { callee := .builtin .append, args := #[s, x], argTypes := #[t, t] })
    (base : Nat) (i : TypeInfo) (z : Value) (ht : P.underlying t = some (.slice 5)) (hi : P.info? 5 = some i) (hz : i.zero = some z)
    (hsize : i.size = 1) (hby : i.bytes = 1) (hzs : z.cells.size = 1)
    (v : Value) (n : Nat) (xs : List Value) (hs : a.eval s = v) (hown : w.ownsRow base 5 1 v n xs) (ad : Addr) (y : Value) (hy1 : y.oneCell' = true) (hxv : a.eval x = .slice (some ad) 1 1) (hnews : ∀ j u, [y][j]? = some u → w.cell? (ad.add j) = some u)
    (h63 : n + 1 ≤ 17592186044416) (hbase : base ≤ w.heap.size)
    (h : ∀ v' w', w'.ownsRow base 5 1 v' (n + 1) (xs ++ [y]) → w.grownBy w' v.ownBlock → (v'.ownBlock = v.ownBlock ∨ v'.ownBlock = some w.heap.size) → (∀ b, v.ownBlock = some b → ∀ k, k < n → w'.cell? ⟨b, k, none⟩ = w.cell? ⟨b, k, none⟩) → wpList P ops Q rest (a.put o.dst v') w') :
    wpList P ops Q (o :: rest) a w := by
  refine wpList_plain hgd fun K hK => ?_
  obtain ⟨v', w', hr, h2, h3, h4, h5⟩ := run_append_keep (P := P) w base t o.type i z ht hi hz hsize hby hzs v n xs hown ad y hy1 hnews h63 hbase
  unfold Oper.wp execOp
  simp only [ho, resolve, invoke, builtin, Sem.run_bind, Sem.run_pure, Result.andThen_ok, List.map_toArray, List.map_cons, List.map_nil, hs, hxv, hr]
  exact hK _ _ (h v' w' h2 h3 h4 h5)

/-- The slice v reads as f, for N numbers. -/
def RdB (w : World) (v : Value) (N : Nat) (f : Nat → Int) : Prop :=
  (∃ a cap, v = .slice a N cap) ∧ N ≤ 9223372036854775807 ∧ (N = 0 ∨ ∃ b cap, v = .slice (some ⟨b, 0, none⟩) N cap ∧ b < w.heap.size ∧ ∀ k, k < N → w.cell? ⟨b, k, none⟩ = some (.int .u8 (f k)))
theorem RdB.kept {F : List Nat} {w w' : World} {v : Value} {N : Nat} {f : Nat → Int} (h : RdB w v N f) (hk : Kept F w w') (hn : ∀ b, v.ownBlock = some b → b ∉ F) : RdB w' v N f := by
  refine ⟨h.1, h.2.1, ?_⟩
  rcases h.2.2 with h0 | ⟨b, cap, hv, hb, hc⟩
  · exact Or.inl h0
  · refine Or.inr ⟨b, cap, hv, Nat.lt_of_lt_of_le hb hk.size, fun k hk' => ?_⟩
    rw [hk.cell (p := ⟨b, k, none⟩) hb (hn b (by rw [hv]; rfl))]
    exact hc k hk'
theorem RdB.of_own {w : World} {base : Nat} {v : Value} {l : List Int} {N : Nat} (hl : l.length = N) (h : w.ownsRow base 5 1 v N (b8s l)) {f : Nat → Int} (hf : ∀ k, k < N → l.getD k 0 = f k) : RdB w v N f := by
  rcases h.2 with ⟨hv, h0⟩ | ⟨g, cap, cur, hv, hb, hg, hc, hm, _⟩
  · exact ⟨⟨none, 0, by rw [hv, h0]⟩, by omega, Or.inl h0⟩
  · refine ⟨⟨_, _, hv⟩, by unfold maxLen at hm; omega, Or.inr ⟨g, cap, hv, (Array.getElem?_eq_some_iff.1 hg).1, fun k hk => ?_⟩⟩
    subst hv
    rw [ownI_cell h (by omega), hf k hk]
theorem RdB.cell {w : World} {v : Value} {N : Nat} {f : Nat → Int} (h : RdB w v N f) {k : Nat} (hk : k < N) : ∃ b cap, v = .slice (some ⟨b, 0, none⟩) N cap ∧ b < w.heap.size ∧ w.cell? ⟨b, k, none⟩ = some (.int .u8 (f k)) := by
  rcases h.2.2 with h0 | ⟨b, cap, hv, hb, hc⟩
  · omega
  · exact ⟨b, cap, hv, hb, hc k hk⟩
end Go.Proofs.YtfhfkpgfnlmfhaaGreatDoor
