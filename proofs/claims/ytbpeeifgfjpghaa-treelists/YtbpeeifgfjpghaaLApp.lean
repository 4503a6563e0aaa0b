/- Appends to the lists and to the keys. -/
import Derived.Test.YtbpeeifgfjpghaaLRow
import Derived.Maps.AppendAt
namespace Go.Proofs.Ytbpeeifgfjpghaa
open Go.RowKit
set_option linter.unusedVariables false

theorem info_sl : (Try.prog.info? 48).map (fun i => (i.zero, i.size, i.bytes)) = some (some (.slice none 0 0), 1, 24) := by kernel_rfl
theorem info_i : (Try.prog.info? 3).map (fun i => (i.zero, i.size, i.bytes)) = some (some (.int .i64 0), 1, 8) := by kernel_rfl
/-- the memory's side -/
structure Mem (base : Nat) (w : World) (q : Option Addr) (vo vk : Value) (ks : List Int) (vs B : List VT) (t : TI) : Prop where
  tr : Tt w q t
  own : w.ownsRow base 48 1 vo vs.length (vs.map encS)
  of : w.ownsRow base 3 1 vk ks.length (ints ks)
  byt : ∀ x ∈ B, Byt base w x
theorem Mem.kept {base : Nat} {w w' : World} {q : Option Addr} {vo vk : Value} {ks : List Int} {vs B : List VT} {t : TI} (h : Mem base w q vo vk ks vs B t) (hk : Kept [] w w') : Mem base w' q vo vk ks vs B t :=
  ⟨h.tr.kept hk, own_kept h.own hk (by simp), own_kept h.of hk (by simp), fun x hx => (h.byt x hx).touch (Touch.of_kept (T := 0) hk) (by decide)⟩
theorem Sta.mem {base : Nat} {w : World} {q : Option Addr} {vo vk : Value} {ks : List Int} {vs : List VT} {t : TI} (h : Sta base w q vo vk ks vs t) : Mem base w q vo vk ks vs vs t := ⟨h.tr, h.own, h.of, h.byt⟩
theorem row_typed {w : World} {base e s n : Nat} {v : Value} {xs : List Value} (h : w.ownsRow base e s v n xs) : ∀ g, v.ownBlock = some g → ∃ cs fr, w.heap[g]? = some (.cells cs e fr) := by
  intro g hg
  rcases h.2 with ⟨e1, _⟩ | ⟨g', cap', cur, e1, _, hh, _⟩
  · rw [e1] at hg; cases hg
  · rw [e1] at hg; cases hg; exact ⟨_, _, hh⟩

theorem wpList_append_lists {w0 : World} (w : World) {ops : Array Oper} {rest : List Oper} {o : Oper} {a : Act} {Q : Exit → Act → World → Prop} (hgd : o.guard = none) (s x : Operand)
    (ho : o.op = .call { callee := .builtin .append, args := #[s, x], argTypes := #[46, 46] })
    {q : Option Addr} {vo vk : Value} {ks : List Int} {vs B : List VT} {t : TI} (hs : a.eval s = vo) (hk : Hid (Kept [] w0 w)) (hm : Hid (Mem w0.heap.size w q vo vk ks vs B t))
    {b : Nat} (y : VT) (hxv : a.eval x = .slice (some ⟨b, 0, none⟩) 1 1) (hb : Hid (Blk w b #[encS y] 48)) (hl : Hid (vs.length + 1 ≤ 5864062014805))
    (h : ∀ va' n' vc' w', Hid (n' = vs.length + 1) → Hid (Mem w0.heap.size w' q (.slice va' n' vc') vk ks (vs ++ [y]) B t) → Hid (Kept [] w0 w') → wpList Try.prog ops Q rest (a.put o.dst (.slice va' n' vc')) w') :
    wpList Try.prog ops Q (o :: rest) a w := by
  obtain ⟨i0, hi, hz0, hz1, hz2⟩ := info_parts info_sl
  have hm' := unhide hm
  have hk' : Kept [] w0 w := hk
  have hl' : vs.length + 1 ≤ 5864062014805 := hl
  refine wpList_append_own_at w hgd s x 46 ho w0.heap.size 48 i0 _ 1 24 Try.underlying46 hi hz0 hz1 hz2 rfl (by decide) vo vs.length (vs.map encS) hs hm'.own ⟨b, 0, none⟩ 1 1 [encS y] hxv (by simp) (fun j u hj => ?_) (by
      intro u hu; simp at hu; subst hu; rfl) (by unfold maxLen; omega) (by omega) hk'.size ?_
  · have hadd : (⟨b, 0, none⟩ : Addr).add j = ⟨b, j, none⟩ := by unfold Addr.add; split <;> simp_all
    rw [hadd, (unhide hb).cell j]
    simpa using hj
  · intro v' w' q1 q2 q3 q4
    obtain ⟨a', c', rfl⟩ := own_len q1
    have ht := Touch.of_grown q2 (row_typed hm'.own)
    refine h a' (vs.length + 1) c' w' rfl ⟨ht.tt (by decide) (by decide) hm'.tr, ?_, ht.own hm'.of (by decide), fun x hx => (hm'.byt x hx).touch ht (by decide)⟩ (hk'.grown q2 (fun k hkk => Or.inr (hm'.own.lt k hkk).1))
    rw [List.length_append, List.map_append]
    exact q1

theorem wpList_append_keys {w0 : World} (w : World) {ops : Array Oper} {rest : List Oper} {o : Oper} {a : Act} {Q : Exit → Act → World → Prop} (hgd : o.guard = none) (s x : Operand)
    (ho : o.op = .call { callee := .builtin .append, args := #[s, x], argTypes := #[45, 45] })
    {q : Option Addr} {vo vk : Value} {ks : List Int} {vs B : List VT} {t : TI} (hs : a.eval s = vk) (hk : Hid (Kept [] w0 w)) (hm : Hid (Mem w0.heap.size w q vo vk ks vs B t))
    {b : Nat} (y : Int) (hxv : a.eval x = .slice (some ⟨b, 0, none⟩) 1 1) (hb : Hid (Blk w b #[.int .i64 y] 3)) (hl : Hid (ks.length + 1 ≤ 5864062014805))
    (h : ∀ va' n' vc' w', Hid (n' = ks.length + 1) → Hid (Mem w0.heap.size w' q vo (.slice va' n' vc') (ks ++ [y]) vs B t) → Hid (Kept [] w0 w') → wpList Try.prog ops Q rest (a.put o.dst (.slice va' n' vc')) w') :
    wpList Try.prog ops Q (o :: rest) a w := by
  obtain ⟨i0, hi, hz0, hz1, hz2⟩ := info_parts info_i
  have hm' := unhide hm
  have hk' : Kept [] w0 w := hk
  have hl' : ks.length + 1 ≤ 5864062014805 := hl
  refine wpList_append_own_at w hgd s x 45 ho w0.heap.size 3 i0 _ 1 8 Try.underlying45 hi hz0 hz1 hz2 rfl (by decide) vk ks.length (ints ks) hs hm'.of ⟨b, 0, none⟩ 1 1 [.int .i64 y] hxv (by simp) (fun j u hj => ?_) (by
      intro u hu; simp at hu; subst hu; rfl) (by unfold maxLen; omega) (by omega) hk'.size ?_
  · have hadd : (⟨b, 0, none⟩ : Addr).add j = ⟨b, j, none⟩ := by unfold Addr.add; split <;> simp_all
    rw [hadd, (unhide hb).cell j]
    simpa using hj
  · intro v' w' q1 q2 q3 q4
    obtain ⟨a', c', rfl⟩ := own_len q1
    have ht := Touch.of_grown q2 (row_typed hm'.of)
    refine h a' (ks.length + 1) c' w' rfl ⟨ht.tt (by decide) (by decide) hm'.tr, ht.own hm'.own (by decide), ?_, fun x hx => (hm'.byt x hx).touch ht (by decide)⟩ (hk'.grown q2 (fun k hkk => Or.inr (hm'.of.lt k hkk).1))
    rw [List.length_append, ints_append]
    exact q1

/-- 'append([]byte{1}, list...)': a list of the call's own -/
theorem wpList_append_new {w0 : World} (wr : World) {ops : Array Oper} {rest : List Oper} {o : Oper} {a : Act} {Q : Exit → Act → World → Prop} (hgd : o.guard = none) (s x : Operand)
    (ho : o.op = .call { callee := .builtin .append, args := #[s, x], argTypes := #[48, 48] })
    (hs : a.eval s = .slice (some ⟨wr.heap.size, 0, none⟩) 1 1) (hk : Hid (Kept [] w0 wr)) {xv : Value} {ys : List Nat} (hxv : a.eval x = xv) (hx : Hid (Sees wr xv ys)) (hl : Hid (ys.length ≤ 140737488351232))
    (h : ∀ g n c w', Hid (Byt w0.heap.size w' (some ⟨g, 0, none⟩, n, c)) → Hid (Kept [] wr w') → wpList Try.prog ops Q rest (a.put o.dst (.slice (some ⟨g, 0, none⟩) n c)) w') :
    wpList Try.prog ops Q (o :: rest) a (wr.alloc (.cells #[.int .u8 1] 5)) := by
  obtain ⟨i0, hi, hz0, hz1, hz2⟩ := info_parts info5p
  have hk' : Kept [] w0 wr := hk
  have hl' : ys.length ≤ 140737488351232 := hl
  have hka : Kept [] wr (wr.alloc (.cells #[.int .u8 1] 5)) := (Kept.refl [] wr).alloc _
  have hown : (wr.alloc (.cells #[.int .u8 1] 5)).ownsRow wr.heap.size 5 1 (.slice (some ⟨wr.heap.size, 0, none⟩) 1 1) ([1] : List Nat).length (u8s [1]) :=
    ⟨by simp [u8s], Or.inr ⟨wr.heap.size, 1, #[.int .u8 1], rfl, Nat.le_refl _, Blk.new _ _ _, by simp, by unfold maxLen; omega, by simp, by simp [u8s]⟩⟩
  refine wpList_append_sees (P := Try.prog) (wr.alloc (.cells #[.int .u8 1] 5)) hgd s x 48 ho wr.heap.size 5 i0 _ Try.underlying48 hi hz0 hz1 hz2 rfl _ [1] hs hown xv ys hxv ((unhide hx).kept hka (Or.inr (by simp))) (by simp; omega) (by simp) ?_
  intro v' w' q1 q2 q3
  have hkw : Kept [] wr w' := hka.grown q2 (fun k hkk => Or.inr (by cases hkk; exact Nat.le_refl _))
  rcases q1.2 with ⟨_, e2⟩ | ⟨g, cap, cur, e1, hg, hh, hc, hm, hcs, htake⟩
  · simp at e2
  · subst e1
    refine h g _ cap w' ⟨g, _, cap, rfl, by simp, by simp; omega, Nat.le_trans hk'.size hg, cur, 1, hh, ?_⟩ hkw
    have h0 : (cur.toList.take (([1] ++ ys).length * 1))[0]? = some (.int .u8 1) := by rw [htake]; simp [u8s]
    rw [List.getElem?_take_of_lt (by simp)] at h0
    simpa using h0
end Go.Proofs.Ytbpeeifgfjpghaa
