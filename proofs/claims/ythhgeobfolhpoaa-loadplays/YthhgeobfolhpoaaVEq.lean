/- Two rhythms held against each other. -/
import Derived.Test.YthhgeobfolhpoaaVWave
import Derived.ChangeKeysEq
namespace Go.Proofs.Ythhgeobfolhpoaa
open Go.RowKit

theorem run_eqItems_cplx {P : Program} (w : World) (d : Nat) {e : TypeId} {kd : FloatKind} (hu : P.underlying e = some (.complex kd)) (xs : Array Value) (f g : Nat → Nat) (hf : ∀ i, (FloatKind.f64.format.order (f i) (f i) == some Ordering.eq) = true) (hg : ∀ i, (FloatKind.f64.format.order (g i) (g i) == some Ordering.eq) = true) :
    ∀ (is : List Nat), (∀ i ∈ is, xs[i]? = some (.complex .f64 (f i) (g i))) → (Op.eqItems (d + 1) e 1 xs xs is).run P w = .ok true w
  | [], _ => by simp [Op.eqItems]
  | i :: is, hx => by
    have hr := run_eqItems_cplx w d hu xs f g hf hg is (fun j hj => hx j (by simp [hj]))
    have hagg : (isAgg e).run P w = .ok false w := by
      unfold isAgg
      rw [Sem.run_bind, run_underlying hu w]
      simp
    have px : (Go.part e xs i).run P w = .ok (.complex .f64 (f i) (g i)) w := by simp [Go.part, Sem.run_bind, hagg, hx i (by simp)]
    have he : (Op.equalIn (d + 1) e (.complex .f64 (f i) (g i)) (.complex .f64 (f i) (g i))).run P w = .ok true w := by
      simp only [Op.equalIn, Sem.run_bind, run_underlying hu w, Result.andThen_ok]
      simp [Op.floatEq, hf i, hg i]
    simp [Op.eqItems, Sem.run_bind, px, he, hr]
theorem guardW : Try.prog.eqGuardType Try.prog.depth 51 = false := by kernel_rfl
theorem cellsC : Try.prog.cellsOf 50 = 1 := by kernel_rfl
theorem infoC : (Try.prog.info? 50).isSome = true := by kernel_rfl
theorem wave_eq (w : World) {l : List Nat} (hl : ∀ j, low (l.getD j 0)) : (binOp .eql 51 (.agg (waveC l).toArray) (.agg (waveC l).toArray)).run Try.prog w = .ok (.bool true) w := by
  obtain ⟨i, hi⟩ := Option.isSome_iff_exists.1 infoC
  have h1 := run_eqItems_cplx w 9998 Try.underlying50 (waveC l).toArray (fun k => wv reW l k 8) (fun k => wv imW l k 8) (fun k => eq_fin (wv_fin re_part hl k 8)) (fun k => eq_fin (wv_fin im_part hl k 8)) (List.range 8) (fun j hj => by
    have hj8 : j < 8 := by simpa using hj
    have := waveAt_at l 8 0 hj8
    rw [waveAt_end] at this
    simpa [ent, hj8] using this)
  have h2 : (Op.equal 51 (.agg (waveC l).toArray) (.agg (waveC l).toArray)).run Try.prog w = .ok true w := by
    unfold Op.equal
    rw [show Op.maxDepth = 9999 + 1 from rfl, run_equalIn_array w 9999 _ _ Try.underlying51 hi, cellsC]
    exact h1
  simp [binOp, h2]

/-- what the law calls right -/
def rgt (o : OpM) (c : Nat) (s : Int) : Prop := (c : Int) ≤ o.now ∧ o.now ≤ 1099511627776 ∧ (o.kind = 2 ∨ o.kind = 1 ∧ 0 ≤ o.shard ∧ o.shard < s ∧ wok o.wt)
instance (o : OpM) (c : Nat) (s : Int) : Decidable (rgt o c s) := by unfold rgt; infer_instance
theorem yes_right {o : OpM} {m : Mt} {s : Int} (hs : (m.loads.length : Int) = s) (hk : o.kind = 1 ∨ o.kind = 2) : o.yes m = decide (rgt o m.clock s) := by
  have key : o.yes m = true ↔ rgt o m.clock s := by
    unfold OpM.yes rgt
    rcases hk with h1 | h2
    · rw [if_pos h1]
      simp only [beq_iff_eq]
      constructor
      · intro h
        obtain ⟨a1, a2, a3, a4⟩ := Mt.hitE_ok h
        obtain ⟨b1, b2, b3⟩ := Mt.goE_ok a4
        exact ⟨b3, b2, Or.inr ⟨h1, a1, by omega, a3⟩⟩
      · rintro ⟨b1, b2, h | ⟨_, a1, a2, a3⟩⟩
        · omega
        · unfold Mt.hitE Mt.goE
          rw [if_neg (by rintro (e | e | e); omega; omega; exact e a3), if_neg (by omega), if_neg (by omega)]
    · rw [if_neg (by omega), h2]
      simp only [decide_true, Bool.true_and, beq_iff_eq]
      constructor
      · intro h
        obtain ⟨b1, b2, b3⟩ := Mt.goE_ok h
        exact ⟨b3, b2, Or.inl trivial⟩
      · rintro ⟨b1, b2, _⟩
        unfold Mt.goE
        rw [if_neg (by omega), if_neg (by omega)]
  by_cases h : rgt o m.clock s
  · rw [decide_eq_true h]; exact key.2 h
  · rw [decide_eq_false h]
    cases hy : o.yes m with
    | false => rfl
    | true => exact absurd (key.1 hy) h
theorem run_len {m : Mt} (os : List OpM) : (runO m os).loads.length = m.loads.length := by
  induction os generalizing m with
  | nil => rfl
  | cons o r ih =>
    show (runO (o.on m) r).loads.length = _
    rw [ih]
    unfold OpM.on
    split
    · unfold Mt.onHit; split
      · simp only [Mt.hit, List.length_set]; exact Mt.go_len _ _
      · rfl
    · split
      · unfold Mt.onGo; split
        · exact Mt.go_len _ _
        · rfl
      · rfl
end Go.Proofs.Ythhgeobfolhpoaa
