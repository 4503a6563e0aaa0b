/- Appends of numbers. -/
import Derived.Test.YtgiifedljebclaaRKit
import Derived.Maps.AppendAt
namespace Go.Proofs.Ytgiifedljebclaa
open Go.RowKit

theorem ints_one (l : List Int) : ∀ u ∈ ints l, u.oneCell' = true := by
  intro u hu; obtain ⟨_, _, rfl⟩ := List.mem_map.1 hu; rfl

/-- 'append(dst, src...)' of numbers: dst is owned, src is any slice that reads as numbers. -/
theorem run_append_seesI {P : Program} (w : World) (base : Nat) (t ty : TypeId) (i : TypeInfo) (z : Value) (ht : P.underlying t = some (.slice 3)) (hi : P.info? 3 = some i) (hz : i.zero = some z)
    (hsize : i.size = 1) (hby : i.bytes = 8) (hzs : z.cells.size = 1)
    (v : Value) (xs : List Int) (hown : w.ownsRow base 3 1 v xs.length (ints xs)) (x : Value) (ys : List Int) (hx : SeesI w x ys)
    (h63 : xs.length + ys.length ≤ 17592186044416) (hbase : base ≤ w.heap.size) :
    ∃ v' w', (Builtin.append_ #[t, t] ty #[v, x]).run P w = .ok v' w' ∧ w'.ownsRow base 3 1 v' (xs ++ ys).length (ints (xs ++ ys)) ∧ w.grownBy w' v.ownBlock ∧ (v'.ownBlock = v.ownBlock ∨ v'.ownBlock = some w.heap.size) := by
  have hmx : xs.length + ys.length ≤ maxLen := by unfold maxLen; omega
  obtain ⟨a, cap, rfl, _, _, h⟩ := hx
  rcases h with rfl | ⟨b, off, rfl, _, hc⟩
  · refine ⟨v, w, ?_, by simpa using hown, ⟨rfl, rfl, rfl, Nat.le_refl _, fun _ _ _ => rfl⟩, Or.inl rfl⟩
    rcases hown.2 with ⟨rfl, h0⟩ | ⟨g, cap, cur, rfl, hbg, hg, hnc, hcm, hcs, htake⟩
    · cases a <;> simp [Builtin.append_, run_underlying ht, sizeOf, typeInfo, hi, Builtin.lenOf, Builtin.firstCells, loadCells, loadCellsFrom]
    · have : xs.length ≤ cap := hnc
      cases a <;> simp [Builtin.append_, run_underlying ht, sizeOf, typeInfo, hi, Builtin.lenOf, Builtin.firstCells, this, storeCells, loadCells, loadCellsFrom]
  · obtain ⟨v', w', hr, h2, h3, _, h5⟩ := run_append_own_at (P := P) w base t ty 3 i z 1 8 ht hi hz hsize hby hzs (by decide) v xs.length (ints xs) hown ⟨b, off, none⟩ ys.length cap (ints ys) (by simp [ints]) (by
      intro j u hu
      have hj : j < ys.length := by
        have := (List.getElem?_eq_some_iff.1 hu).1; simpa [ints] using this
      have hadd : (⟨b, off, none⟩ : Addr).add j = ⟨b, off + j, none⟩ := by unfold Addr.add; split <;> simp_all
      rw [hadd, hc j hj]
      simp [ints, List.getElem?_eq_getElem hj] at hu
      rw [← hu]; simp [List.getElem?_eq_getElem hj]) (ints_one ys) hmx (by omega) hbase
    refine ⟨v', w', hr, ?_, h3, h5⟩
    rw [ints_append, List.length_append]; exact h2

theorem ownI_new_nil (w : World) : (w.alloc (.cells #[] 3)).ownsRow w.heap.size 3 1 (.slice (some ⟨w.heap.size, 0, none⟩) 0 0) ([] : List Int).length (ints []) := by
  refine ⟨by simp [ints], Or.inr ⟨w.heap.size, 0, #[], rfl, Nat.le_refl _, heap_alloc_new w _, by simp, by simp [maxLen], by simp, by simp [ints]⟩⟩

theorem wpList_append_seesI {P : Program} (w : World) {ops : Array Oper} {rest : List Oper} {o : Oper} {a : Act} {Q : Exit → Act → World → Prop} (hgd : o.guard = none) (s x : Operand) (t : TypeId)
    (ho : o.op = .call { callee := .builtin .append, args := #[s, x], argTypes := #[t, t] })
    (base : Nat) (i : TypeInfo) (z : Value) (ht : P.underlying t = some (.slice 3)) (hi : P.info? 3 = some i) (hz : i.zero = some z)
    (hsize : i.size = 1) (hby : i.bytes = 8) (hzs : z.cells.size = 1)
    (v : Value) (xs : List Int) (hs : a.eval s = v) (hown : w.ownsRow base 3 1 v xs.length (ints xs)) (xv : Value) (ys : List Int) (hxv : a.eval x = xv) (hx : SeesI w xv ys)
    (h63 : xs.length + ys.length ≤ 17592186044416) (hbase : base ≤ w.heap.size)
    (h : ∀ v' w', w'.ownsRow base 3 1 v' (xs ++ ys).length (ints (xs ++ ys)) → w.grownBy w' v.ownBlock → (v'.ownBlock = v.ownBlock ∨ v'.ownBlock = some w.heap.size) → wpList P ops Q rest (a.put o.dst v') w') :
    wpList P ops Q (o :: rest) a w := by
  refine wpList_plain hgd fun K hK => ?_
  obtain ⟨v', w', hr, h2, h3, h4⟩ := run_append_seesI (P := P) w base t o.type i z ht hi hz hsize hby hzs v xs hown xv ys hx h63 hbase
  unfold Oper.wp execOp
  simp only [ho, resolve, invoke, builtin, Sem.run_bind, Sem.run_pure, Result.andThen_ok, List.map_toArray, List.map_cons, List.map_nil, hs, hxv, hr]
  exact hK _ _ (h v' w' h2 h3 h4)


/-- 'append(dst, src...)' in a walk: dst is the call's own, src lay there at its start -/
theorem wpList_app_ints {w0 : World} (w : World) {ops : Array Oper} {rest : List Oper} {o : Oper} {a : Act} {Q : Exit → Act → World → Prop} (hgd : o.guard = none) (s x : Operand)
    (ho : o.op = .call { callee := .builtin .append, args := #[s, x], argTypes := #[22, 22] })
    {va : Option Addr} {vn vc : Nat} {xs ys : List Int} (hs : a.eval s = .slice va vn vc) (hk : Hid (Kept [] w0 w)) (hown : Hid (w.ownsRow w0.heap.size 3 1 (.slice va vn vc) vn (ints xs))) (hvn : Hid (xs.length = vn)) {xv : Value} (hxv : a.eval x = xv) (hx : Hid (SeesI w xv ys))
    (N : Nat) (hN : Hid (vn + ys.length = N)) (hl : Hid (N ≤ 17592186044416))
    (h : ∀ va' vc' w', Hid (w'.ownsRow w0.heap.size 3 1 (.slice va' N vc') N (ints (xs ++ ys))) → Hid (Kept [] w0 w') → Hid (w.grownBy w' (Value.slice va vn vc).ownBlock) → wpList Try.prog ops Q rest (a.put o.dst (.slice va' N vc')) w') :
    wpList Try.prog ops Q (o :: rest) a w := by
  obtain ⟨i0, hi, hz0, hz1, hz2⟩ := info_parts info3p
  have hvn' : xs.length = vn := hvn
  have hN' : vn + ys.length = N := hN
  have hl' : N ≤ 17592186044416 := hl
  have hown' : w.ownsRow w0.heap.size 3 1 (.slice va vn vc) vn (ints xs) := hown
  have hk' : Kept [] w0 w := hk
  refine wpList_append_seesI w hgd s x 22 ho w0.heap.size i0 _ Try.underlying22 hi hz0 hz1 hz2 rfl (.slice va vn vc) xs hs (by rw [hvn']; exact hown') xv ys hxv hx (by omega) hk'.size ?_
  intro v' w' h1 h3 h4
  have hlen : (xs ++ ys).length = N := by rw [List.length_append]; omega
  rw [hlen] at h1
  obtain ⟨a', c', rfl⟩ := own_len h1
  exact h a' c' w' h1 (hk'.grown h3 (fun k hkk => Or.inr (hown'.lt k hkk).1)) h3
end Go.Proofs.Ytgiifedljebclaa
