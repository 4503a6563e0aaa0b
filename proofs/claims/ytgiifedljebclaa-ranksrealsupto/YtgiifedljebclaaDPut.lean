/- What an Add leaves. -/
import Derived.Test.YtgiifedljebclaaDStep
namespace Go.Proofs.Ytgiifedljebclaa.flo
open Go.RowKit ref

def updV (r : Nat → Value) (i : Nat) (x : Value) : Nat → Value := fun j => if j = i then x else r j
def updL (r : Nat → List Nat) (i : Nat) (x : List Nat) : Nat → List Nat := fun j => if j = i then x else r j
theorem Hp.lt {val : Nat → Nat} {w : World} {p : Value} {F : List Nat} {o : Option Sd} (h : Hp val w p F o) : ∀ x ∈ F, x < w.heap.size := by
  cases o with
  | none => obtain ⟨-, rfl⟩ := h; intro x hx; cases hx
  | some s =>
    obtain ⟨b, v, -, hs, rfl⟩ := h
    intro x hx
    rcases List.mem_cons.1 hx with q | q
    · rw [q]; exact hs.blk.lt
    · exact (hs.row.lt x (by simpa using q)).2
theorem Hq.lt {code : Nat → Int} {w : World} {p : Value} {F : List Nat} {o : Option Sd} (h : Hq code w p F o) : ∀ x ∈ F, x < w.heap.size := by
  cases o with
  | none => obtain ⟨-, rfl⟩ := h; intro x hx; cases hx
  | some s =>
    obtain ⟨b, v, -, hs, rfl⟩ := h
    intro x hx
    rcases List.mem_cons.1 hx with q | q
    · rw [q]; exact hs.blk.lt
    · exact (hs.row.lt x (by simpa using q)).2
theorem three_set (f : Nat → Value) {i : Nat} (hi : i < 3) (x : Value) : (#[f 0, f 1, f 2] : Array Value).setIfInBounds i x = #[updV f i x 0, updV f i x 1, updV f i x 2] := by
  have : i = 0 ∨ i = 1 ∨ i = 2 := by omega
  rcases this with rfl | rfl | rfl <;> simp [updV]
theorem RSt.put {L : Nat} {val : Nat → Nat} {code : Nat → Int} (hO : Ord L val code) {w0 w8 w9 w' : World} {lB mB aB : Nat} {pp qq rr : Nat → Value} {cv : Value} {oo : Nat → Option Sd} {lst : Nat → List Nat} {D : Nat → List Nat} {N j v : Nat} (hj : j < 3) (hv : v < L)
    (h8 : RSt L val code w0 w8 lB mB aB pp qq rr cv (updO oo j (nxtO val (oo j) v)) oo lst D (N + 1)) (hln : (lst j).length ≤ N) {F' : List Nat}
    (hh : Hq code w9 (qq j) F' (nxtO val (oo j) v)) (k9 : Kept (D (3 + j)) w8 w9) (hF : ∀ x ∈ F', x ∈ D (3 + j) ∨ w8.heap.size ≤ x)
    {v' : Value} (own' : w'.ownsRow 0 3 1 v' (lst j ++ [v]).length (ints (nums (lst j ++ [v])))) (k' : Kept (rr j).ownBlock.toList w9 w') (hb' : ∀ x, v'.ownBlock = some x → x ∈ (rr j).ownBlock.toList ∨ w9.heap.size ≤ x) :
    RSt L val code w0 (w'.setCell ⟨aB, j, none⟩ v') lB mB aB pp qq (updV rr j v') cv (updO oo j (nxtO val (oo j) v)) (updO oo j (nxtO val (oo j) v)) (updL lst j (lst j ++ [v])) (upd (upd D (3 + j) F') (10 + j) v'.ownBlock.toList) (N + 1) := by
  obtain ⟨g1, g2, g3, g4, g5, g6, g7, g8, g9, g10⟩ := h8.addQ hO hj hv hh k9 hF hh.lt
  have d10 : upd D (3 + j) F' (10 + j) = (rr j).ownBlock.toList := by rw [upd_other _ _ (by omega)]; exact h8.d10 j hj
  have d9 : upd D (3 + j) F' 9 = [aB] := by rw [upd_other _ _ (by omega)]; exact h8.d9
  have f1 := g1.step (10 + j) (w' := w') (F' := v'.ownBlock.toList) k'.size (fun x hx => by rw [d10]; exact hb' x (by simpa using hx)) (fun x hx => (own'.lt x (by simpa using hx)).2) g2.size
  have ks : Kept [aB] w' (w'.setCell ⟨aB, j, none⟩ v') := (Kept.refl [aB] w').setCell (Or.inl (by simp)) _
  have o10 : ∀ q, q ≠ 10 + j → ∀ x ∈ upd D (3 + j) F' q, x ∉ (rr j).ownBlock.toList := fun q hq x hx => by rw [← d10]; exact g1.off hq x hx
  have o9 : ∀ q, q ≠ 9 → ∀ x ∈ upd D (3 + j) F' q, x ∉ [aB] := fun q hq x hx => by rw [← d9]; exact g1.off hq x hx
  have haB : w0.heap.size ≤ aB := g1.lo 9 aB (by rw [d9]; simp)
  have hab9 : aB ∉ (rr j).ownBlock.toList := o10 9 (by omega) aB (by rw [d9]; simp)
  have hav : ∀ x, v'.ownBlock = some x → x ∉ [aB] := fun x hx hm => by
    rcases hb' x hx with q | q
    · simp at hm; rw [hm] at q; exact hab9 q
    · simp at hm; have := g9.lt; omega
  refine ⟨f1.quiet ks.size, (g2.trans k' (fun x hx => Or.inr (g1.lo (10 + j) x (by rw [d10]; exact hx)))).trans ks (fun x hx => Or.inr (by simp at hx; omega)), fun q hq => ?_, fun q hq => ?_, fun q hq => ?_, h8.gp, ?_, ?_, ?_, ?_, ?_, ?_, ?_, ?_, fun q hq => ?_, fun q hq => ?_, fun q hq s hs => ?_, fun q hq x hx => ?_, fun q hq => ?_⟩
  · rw [upd_other _ _ (by omega)]
    exact ((g3 q hq).kept k' (o10 q (by omega))).kept ks (o9 q (by omega))
  · rw [upd_other _ _ (by omega)]
    exact ((g4 q hq).kept k' (o10 (3 + q) (by omega))).kept ks (o9 (3 + q) (by omega))
  · exact h8.gp q hq
  · exact (g6.kept k' (o10 6 (by omega) lB (by rw [upd_other _ _ (by omega), h8.d6]; simp))).kept ks (o9 6 (by omega) lB (by rw [upd_other _ _ (by omega), h8.d6]; simp))
  · rw [upd_other _ _ (by omega), upd_other _ _ (by omega)]; exact h8.d6
  · exact (g7.kept k' (o10 7 (by omega) mB (by rw [upd_other _ _ (by omega), h8.d7]; simp))).kept ks (o9 7 (by omega) mB (by rw [upd_other _ _ (by omega), h8.d7]; simp))
  · rw [upd_other _ _ (by omega), upd_other _ _ (by omega)]; exact h8.d7
  · refine own_kept (own_kept g8 k' (fun x hx => o10 8 (by omega) x ?_)) ks (fun x hx => o9 8 (by omega) x ?_) <;> (rw [upd_other _ _ (by omega), h8.d8, hx]; simp)
  · rw [upd_other _ _ (by omega), upd_other _ _ (by omega)]; exact h8.d8
  · have := (g9.kept k' hab9).set j v'
    rw [three_set rr hj] at this
    exact this
  · rw [upd_other _ _ (by omega)]; exact d9
  · unfold updV updL
    by_cases c : q = j
    · rw [if_pos c, if_pos c]
      exact own_kept own' ks hav
    · rw [if_neg c, if_neg c]
      refine own_kept (own_kept (g10 q hq) k' (fun x hx => o10 (10 + q) (by omega) x ?_)) ks (fun x hx => o9 (10 + q) (by omega) x ?_) <;> (rw [upd_other _ _ (by omega), h8.d10 q hq, hx]; simp)
  · unfold updV
    by_cases c : q = j
    · rw [if_pos c, c, upd_same]
    · rw [if_neg c, upd_other _ _ (by omega), upd_other _ _ (by omega)]; exact h8.d10 q hq
  · unfold updO at hs
    unfold updL
    by_cases c : q = j
    · rw [if_pos c] at hs ⊢
      cases ho : oo j with
      | none => rw [ho] at hs; cases hs
      | some s0 =>
        rw [ho] at hs
        have h0 := h8.ll j hj s0 ho
        cases hs
        show s0.l ++ [v] = _
        rw [h0]
    · rw [if_neg c] at hs ⊢
      exact h8.ll q hq s hs
  · unfold updL at hx
    by_cases c : q = j
    · rw [if_pos c] at hx
      rcases List.mem_append.1 hx with z | z
      · exact h8.lv j hj x z
      · simp at z; omega
    · rw [if_neg c] at hx; exact h8.lv q hq x hx
  · unfold updL
    by_cases c : q = j
    · rw [if_pos c]; simp; omega
    · rw [if_neg c]; exact h8.ln q hq
theorem nums_app (l : List Nat) (v : Nat) : nums (l ++ [v]) = nums l ++ [(v : Int)] := by simp [nums]
theorem nums_len (l : List Nat) : (nums l).length = l.length := by simp [nums]
/-- one place more among the added -/
theorem app_one {w9 : World} {ra : Option Addr} {rc : Nat} {l : List Nat} (h : w9.ownsRow 0 3 1 (.slice ra l.length rc) l.length (ints (nums l))) (v : Nat) (hl : l.length ≤ 1048576) (ty : TypeId) :
    ∃ a' c' w', (Builtin.append_ #[22, 22] ty #[.slice ra l.length rc, .slice (some ⟨w9.heap.size, 0, none⟩) 1 1]).run Try.prog (w9.alloc (.cells #[.int .i64 (v : Int)] 3)) = .ok (.slice a' (l.length + 1) c') w' ∧ w'.ownsRow 0 3 1 (.slice a' (l.length + 1) c') (l ++ [v]).length (ints (nums (l ++ [v]))) ∧ Kept (Value.slice ra l.length rc).ownBlock.toList w9 w' ∧ ∀ x, (Value.slice a' (l.length + 1) c').ownBlock = some x → x ∈ (Value.slice ra l.length rc).ownBlock.toList ∨ w9.heap.size ≤ x := by
  obtain ⟨i0, hi, hz0, hz1, hz2⟩ := info_parts info3p
  have hk0 : Kept [] w9 (w9.alloc (.cells #[.int .i64 (v : Int)] 3)) := (Kept.refl [] w9).alloc _
  have hsee : SeesI (w9.alloc (.cells #[.int .i64 (v : Int)] 3)) (.slice (some ⟨w9.heap.size, 0, none⟩) 1 1) [(v : Int)] := by
    refine ⟨_, 1, rfl, by simp, by simp [maxLen], Or.inr ⟨w9.heap.size, 0, rfl, by simp, fun j hj => ?_⟩⟩
    have : j = 0 := by simpa using hj
    subst this
    exact (Blk.new w9 _ 3).cell 0
  have ho := own_kept h hk0 (by simp)
  obtain ⟨v', w', hr, h2, h3, h4⟩ := run_append_seesI (P := Try.prog) (w9.alloc (.cells #[.int .i64 (v : Int)] 3)) 0 22 ty i0 _ Try.underlying22 hi hz0 hz1 hz2 rfl (.slice ra l.length rc) (nums l) (by rw [nums_len]; exact ho) _ [(v : Int)] hsee (by rw [nums_len]; simp; omega) (Nat.zero_le _)
  rw [← nums_app, nums_len] at h2
  obtain ⟨a', c', rfl⟩ := own_len h2
  rw [List.length_append] at hr h4
  refine ⟨a', c', w', hr, by rw [List.length_append] at h2 ⊢; exact h2, (hk0.mono (G := (Value.slice ra l.length rc).ownBlock.toList) (fun x hx => by cases hx)).grown h3 (fun k hk => Or.inl (by rw [hk]; simp)), fun x hx => ?_⟩
  rcases h4 with q | q
  · left; rw [← q]
    have : (Value.slice a' (l.length + [v].length) c').ownBlock = some x := hx
    rw [this]; simp
  · right
    have : (Value.slice a' (l.length + [v].length) c').ownBlock = some x := hx
    rw [q] at this
    cases this
    simp
theorem wpList_app_run {w : World} {ops : Array Oper} {rest : List Oper} {o : Oper} {a : Act} {Q : Exit → Act → World → Prop} (hgd : o.guard = none) (s x : Operand) (t : TypeId)
    (ho : o.op = .call { callee := .builtin .append, args := #[s, x], argTypes := #[t, t] }) {vs vx v' : Value} {w' : World} (hs : a.eval s = vs) (hx : a.eval x = vx) (hr : (Builtin.append_ #[t, t] o.type #[vs, vx]).run Try.prog w = .ok v' w')
    (h : wpList Try.prog ops Q rest (a.put o.dst v') w') : wpList Try.prog ops Q (o :: rest) a w := by
  refine wpList_plain hgd fun K hK => ?_
  unfold Oper.wp execOp
  simp only [ho, resolve, invoke, builtin, Sem.run_bind, Sem.run_pure, Result.andThen_ok, List.map_toArray, List.map_cons, List.map_nil, hs, hx, hr]
  exact hK _ _ h
end Go.Proofs.Ytgiifedljebclaa.flo
