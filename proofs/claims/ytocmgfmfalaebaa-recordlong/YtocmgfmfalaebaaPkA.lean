/- Texts laid one behind the other: Kit Form Wrt Lay Wri Rd Num Take Rnum Rint Pure PureN Cut Wfail Real Rreal Rbyte RrealB Rraw Rtext Ins InsB Wgen Le Fixed Wall Wclose Enter EnterB EnterE LeaveF Leave Frame Rfix RfixB RfixC PE PF Thing Far ThingW ThingR ThingS ThingT. -/
import Derived.Test.YtocmgfmfalaebaaProg
import Derived.WalkKit
import Derived.WalkSpells
import Derived.WalkLawsBesides
import Derived.Maps.AppendAt
import Derived.Laws.BitsAllLaws
import Derived.Laws.DeepNot64
import Derived.Deep.QuietTactic
import Derived.BigQuiet
import Derived.Defers
import Derived.Recover
import Derived.Laws.Pointers
import Derived.Laws.Panics
import Derived.Laws.PanicsMore
import Derived.Deep.RegionWith
import Derived.Deep.RegionHeld3
import Derived.Laws.Cover2
import Derived.Laws.ResultCell
import Derived.Laws.IdiomArrays
import Derived.Lib.Tables
import Derived.Shelf.Spec.SlicesInsert
import Derived.Deep.RegionLaw
import Derived.Lib.AppendZerosOnto
import Derived.BigRegion
import Derived.Deep.AppendLies
import Derived.Deep.DeepCutAuto
/- Plain definitions and small laws for the proofs of this seat: worlds that keep all blocks but some, slices of bytes as lists, the form of a number. -/
namespace Go.Proofs.Ytocmgfmfalaebaa
open Go.RowKit

theorem hide {p : Prop} (h : p) : Hid p := h
theorem unhide {p : Prop} (h : Hid p) : p := h

/-- All blocks that were there are as they were, but those of F. -/
structure Kept (F : List Nat) (w w' : World) : Prop where
  os : w'.os = w.os
  tape : w'.tape = w.tape
  output : w'.output = w.output
  size : w.heap.size ≤ w'.heap.size
  block : ∀ k, k < w.heap.size → k ∉ F → w'.heap[k]? = w.heap[k]?

theorem Kept.refl (F : List Nat) (w : World) : Kept F w w := ⟨rfl, rfl, rfl, Nat.le_refl _, fun _ _ _ => rfl⟩

theorem Kept.trans {F G : List Nat} {a b c : World} (h : Kept F a b) (k : Kept G b c) (hg : ∀ x, x ∈ G → x ∈ F ∨ a.heap.size ≤ x) : Kept F a c :=
  ⟨k.os.trans h.os, k.tape.trans h.tape, k.output.trans h.output, Nat.le_trans h.size k.size, fun i hi hn =>
    (k.block i (Nat.lt_of_lt_of_le hi h.size) (fun hm => by rcases hg i hm with h1 | h1; exact hn h1; omega)).trans (h.block i hi hn)⟩

theorem Kept.mono {F G : List Nat} {w w' : World} (h : Kept F w w') (hs : ∀ x, x ∈ F → x ∈ G ∨ w.heap.size ≤ x) : Kept G w w' :=
  ⟨h.os, h.tape, h.output, h.size, fun k hk hn => h.block k hk (fun hm => by rcases hs k hm with h1 | h1; exact hn h1; omega)⟩

theorem Kept.alloc {F : List Nat} {a w : World} (h : Kept F a w) (o : Obj) : Kept F a (w.alloc o) :=
  h.trans (G := []) ⟨rfl, rfl, rfl, by simp, fun k hk _ => Below.heap_alloc _ _ _ hk⟩ (fun _ hx => by cases hx)

theorem Kept.drew {F : List Nat} {a w : World} (h : Kept F a w) : Kept F a w.drew := ⟨h.os, h.tape, h.output, h.size, h.block⟩

theorem Kept.drewN {F : List Nat} {a w : World} (h : Kept F a w) (n : Nat) : Kept F a (w.drewN n) := ⟨h.os, h.tape, h.output, h.size, h.block⟩

theorem Kept.setCell {F : List Nat} {a w : World} (h : Kept F a w) {p : Addr} (hp : p.block ∈ F ∨ a.heap.size ≤ p.block) (u : Value) : Kept F a (w.setCell p u) :=
  h.trans (G := [p.block]) ⟨rfl, rfl, rfl, by simp [World.setCell], fun k _ hn => Below.heap_setCell _ _ _ _ (by simpa using hn)⟩ (fun x hx => by simp at hx; subst hx; exact hp)

theorem Kept.grown {F : List Nat} {a w w' : World} {row : Option Nat} (h : Kept F a w) (hg : w.grownBy w' row) (hr : ∀ k, row = some k → k ∈ F ∨ a.heap.size ≤ k) : Kept F a w' :=
  h.trans (G := row.toList) ⟨hg.os, hg.tape, hg.output, hg.size, fun k hk hn => hg.block k hk (fun e => hn (by simp [← e]))⟩ (fun x hx => hr x (by simpa using hx))

theorem Kept.below {w w' : World} {F : List Nat} (h : Kept F w w') (B : Nat) (hB : B ≤ w.heap.size) (hF : ∀ x, x ∈ F → B ≤ x) : Below B w w' :=
  ⟨h.os, h.tape, h.output, h.size, fun k hk => h.block k (by omega) (fun hm => by have := hF k hm; omega)⟩

theorem Kept.cell {F : List Nat} {w w' : World} (h : Kept F w w') {p : Addr} (hp : p.block < w.heap.size) (hn : p.block ∉ F) : w'.cell? p = w.cell? p := World.cell?_of_block (h.block _ hp hn)
theorem Kept.frozen {F : List Nat} {w w' : World} (h : Kept F w w') {p : Addr} (hp : p.block < w.heap.size) (hn : p.block ∉ F) : w'.frozen? p = w.frozen? p := World.frozen?_of_block (h.block _ hp hn)

/-- A whole block of cells. -/
def Blk (w : World) (b : Nat) (cs : Array Value) (t : TypeId) : Prop := w.heap[b]? = some (.cells cs t (0, 0))

theorem Blk.lt {w : World} {b : Nat} {cs : Array Value} {t : TypeId} (h : Blk w b cs t) : b < w.heap.size := (Array.getElem?_eq_some_iff.1 h).1
theorem Blk.cell {w : World} {b : Nat} {cs : Array Value} {t : TypeId} (h : Blk w b cs t) (o : Nat) : w.cell? ⟨b, o, none⟩ = cs[o]? := cell_of_row w b o cs t (0, 0) h
theorem Blk.frozen {w : World} {b : Nat} {cs : Array Value} {t : TypeId} (h : Blk w b cs t) (o : Nat) : w.frozen? ⟨b, o, none⟩ = false := by
  unfold Blk at h; simp [World.frozen?, h]
theorem Blk.kept {F : List Nat} {w w' : World} {b : Nat} {cs : Array Value} {t : TypeId} (h : Blk w b cs t) (hk : Kept F w w') (hn : b ∉ F) : Blk w' b cs t := (hk.block b h.lt hn).trans h
theorem Blk.alloc {w : World} {b : Nat} {cs : Array Value} {t : TypeId} (h : Blk w b cs t) (o : Obj) : Blk (w.alloc o) b cs t := (Below.heap_alloc _ _ _ h.lt).trans h
theorem Blk.new (w : World) (cs : Array Value) (t : TypeId) : Blk (w.alloc (.cells cs t)) w.heap.size cs t := heap_alloc_new w _
theorem Blk.set {w : World} {b : Nat} {cs : Array Value} {t : TypeId} (h : Blk w b cs t) (o : Nat) (u : Value) : Blk (w.setCell ⟨b, o, none⟩ u) b (cs.setIfInBounds o u) t := by
  unfold Blk at h ⊢
  simp [World.setCell, Array.getElem?_modify, h]
theorem Blk.other {w : World} {b : Nat} {cs : Array Value} {t : TypeId} (h : Blk w b cs t) (p : Addr) (hn : b ≠ p.block) (u : Value) : Blk (w.setCell p u) b cs t := (Below.heap_setCell _ _ _ _ hn).trans h

/-- The same memory (draws alone lie between). -/
structure Quiet (w w' : World) : Prop where
  os : w'.os = w.os
  tape : w'.tape = w.tape
  output : w'.output = w.output
  heap : w'.heap = w.heap
theorem Quiet.refl (w : World) : Quiet w w := ⟨rfl, rfl, rfl, rfl⟩
theorem Quiet.trans {a b c : World} (h : Quiet a b) (k : Quiet b c) : Quiet a c := ⟨k.os.trans h.os, k.tape.trans h.tape, k.output.trans h.output, k.heap.trans h.heap⟩
theorem Quiet.drew {a w : World} (h : Quiet a w) : Quiet a w.drew := ⟨h.os, h.tape, h.output, h.heap⟩
theorem Quiet.drewN {a w : World} (h : Quiet a w) (n : Nat) : Quiet a (w.drewN n) := ⟨h.os, h.tape, h.output, h.heap⟩
theorem Quiet.kept {w w' : World} (h : Quiet w w') : Kept [] w w' := ⟨h.os, h.tape, h.output, by rw [h.heap]; exact Nat.le_refl _, fun k _ _ => by rw [h.heap]⟩
theorem Quiet.cell {w w' : World} (h : Quiet w w') (p : Addr) : w'.cell? p = w.cell? p := by simp [World.cell?, h.heap]
theorem Quiet.frozen {w w' : World} (h : Quiet w w') (p : Addr) : w'.frozen? p = w.frozen? p := by simp [World.frozen?, h.heap]

/-- Bytes as cells. -/
def u8s (l : List Nat) : List Value := l.map fun b : Nat => Value.int .u8 (b : Int)
theorem u8s_length (l : List Nat) : (u8s l).length = l.length := by simp [u8s]
theorem u8s_append (l m : List Nat) : u8s (l ++ m) = u8s l ++ u8s m := by simp [u8s]
theorem u8s_one (l : List Nat) : ∀ u ∈ u8s l, u.oneCell' = true := by
  intro u hu; obtain ⟨_, _, rfl⟩ := List.mem_map.1 hu; rfl

/-- The slice v reads as the bytes bs. -/
def Sees (w : World) (v : Value) (bs : List Nat) : Prop :=
  (v = .slice none 0 0 ∧ bs = []) ∨
  ∃ b off cap, v = .slice (some ⟨b, off, none⟩) bs.length cap ∧ bs.length ≤ cap ∧ cap ≤ maxLen ∧ b < w.heap.size ∧ ∀ j, j < bs.length → w.cell? ⟨b, off + j, none⟩ = some (.int .u8 (bs.getD j 0 : Nat))

theorem Sees.kept {F : List Nat} {w w' : World} {v : Value} {bs : List Nat} (h : Sees w v bs) (hk : Kept F w w') (hn : ∀ k, v.ownBlock = some k → k ∉ F) : Sees w' v bs := by
  rcases h with h | ⟨b, off, cap, rfl, h1, h2, h3, h4⟩
  · exact Or.inl h
  · refine Or.inr ⟨b, off, cap, rfl, h1, h2, Nat.lt_of_lt_of_le h3 hk.size, fun j hj => ?_⟩
    rw [hk.cell (p := ⟨b, off + j, none⟩) h3 (hn b rfl)]
    exact h4 j hj

theorem Sees.of_own {w : World} {base : Nat} {v : Value} {bs : List Nat} (h : w.ownsRow base 5 1 v bs.length (u8s bs)) : Sees w v bs := by
  rcases h.2 with ⟨h1, h2⟩ | ⟨g, cap, cur, hv, hb, hg, hc, hm, hs, ht⟩
  · exact Or.inl ⟨h1, List.eq_nil_of_length_eq_zero h2⟩
  · refine Or.inr ⟨g, 0, cap, hv, hc, hm, (Array.getElem?_eq_some_iff.1 hg).1, fun j hj => ?_⟩
    have := h.cells (g := g) (by rw [hv]; rfl) j (.int .u8 (bs.getD j 0 : Nat)) (by simp [u8s, List.getElem?_eq_getElem hj])
    have hadd : (⟨g, 0, none⟩ : Addr).add j = ⟨g, j, none⟩ := by unfold Addr.add; split <;> simp_all
    rw [hadd] at this
    simpa using this

theorem own_lt {w : World} {base : Nat} {e : TypeId} {s : Nat} {v : Value} {n : Nat} {xs : List Value} (h : w.ownsRow base e s v n xs) {k : Nat} (hk : v.ownBlock = some k) : base ≤ k ∧ k < w.heap.size := h.lt k hk

theorem own_kept {F : List Nat} {w w' : World} {base : Nat} {e : TypeId} {s : Nat} {v : Value} {n : Nat} {xs : List Value} (h : w.ownsRow base e s v n xs) (hk : Kept F w w') (hn : ∀ k, v.ownBlock = some k → k ∉ F) : w'.ownsRow base e s v n xs := by
  refine ⟨h.1, ?_⟩
  rcases h.2 with h2 | ⟨g, cap, cur, hv, hg, hh, r⟩
  · exact Or.inl h2
  · refine Or.inr ⟨g, cap, cur, hv, hg, ?_, r⟩
    rw [hk.block g (Array.getElem?_eq_some_iff.1 hh).1 (hn g (by rw [hv]; rfl))]
    exact hh

theorem own_base {w : World} {base base' : Nat} {e : TypeId} {s : Nat} {v : Value} {n : Nat} {xs : List Value} (h : w.ownsRow base e s v n xs) (hb : ∀ k, v.ownBlock = some k → base' ≤ k) : w.ownsRow base' e s v n xs := by
  refine ⟨h.1, ?_⟩
  rcases h.2 with h2 | ⟨g, cap, cur, hv, hg, r⟩
  · exact Or.inl h2
  · exact Or.inr ⟨g, cap, cur, hv, hb g (by rw [hv]; rfl), r⟩

/-- 'append(dst, src...)' of bytes: dst is owned, src is any slice that reads as bytes. -/
theorem run_append_sees {P : Program} (w : World) (base : Nat) (t ty e : TypeId) (i : TypeInfo) (z : Value) (ht : P.underlying t = some (.slice e)) (hi : P.info? e = some i) (hz : i.zero = some z)
    (hsize : i.size = 1) (hby : i.bytes = 1) (hzs : z.cells.size = 1)
    (v : Value) (xs : List Nat) (hown : w.ownsRow base e 1 v xs.length (u8s xs)) (x : Value) (ys : List Nat) (hx : Sees w x ys)
    (h63 : xs.length + ys.length ≤ 140737488355328) (hbase : base ≤ w.heap.size) :
    ∃ v' w', (Builtin.append_ #[t, t] ty #[v, x]).run P w = .ok v' w' ∧ w'.ownsRow base e 1 v' (xs ++ ys).length (u8s (xs ++ ys)) ∧ w.grownBy w' v.ownBlock ∧ (v'.ownBlock = v.ownBlock ∨ v'.ownBlock = some w.heap.size) := by
  have hmx : xs.length + ys.length ≤ maxLen := by unfold maxLen; omega
  rcases hx with ⟨rfl, rfl⟩ | ⟨b, off, cap, rfl, _, _, _, hc⟩
  · refine ⟨v, w, ?_, by simpa using hown, ⟨rfl, rfl, rfl, Nat.le_refl _, fun _ _ _ => rfl⟩, Or.inl rfl⟩
    rcases hown.2 with ⟨rfl, h0⟩ | ⟨g, cap, cur, rfl, hbg, hg, hnc, hcm, hcs, htake⟩
    · simp [Builtin.append_, run_underlying ht, sizeOf, typeInfo, hi, Builtin.lenOf, Builtin.firstCells]
    · have : xs.length ≤ cap := hnc
      simp [Builtin.append_, run_underlying ht, sizeOf, typeInfo, hi, Builtin.lenOf, Builtin.firstCells, this, storeCells]
  · obtain ⟨v', w', hr, h2, h3, _, h5⟩ := run_append_own_at (P := P) w base t ty e i z 1 1 ht hi hz hsize hby hzs (by decide) v xs.length (u8s xs) hown ⟨b, off, none⟩ ys.length cap (u8s ys) (by simp [u8s]) (by
      intro j u hu
      have hj : j < ys.length := by
        have := (List.getElem?_eq_some_iff.1 hu).1; simpa [u8s] using this
      have hadd : (⟨b, off, none⟩ : Addr).add j = ⟨b, off + j, none⟩ := by unfold Addr.add; split <;> simp_all
      rw [hadd, hc j hj]
      simp [u8s, List.getElem?_eq_getElem hj] at hu
      rw [← hu]; simp [List.getElem?_eq_getElem hj]) (u8s_one ys) hmx (by omega) hbase
    refine ⟨v', w', hr, ?_, h3, h5⟩
    rw [u8s_append, List.length_append]; exact h2

theorem wpList_append_sees {P : Program} (w : World) {ops : Array Oper} {rest : List Oper} {o : Oper} {a : Act} {Q : Exit → Act → World → Prop} (hgd : o.guard = none) (s x : Operand) (t : TypeId)
    (ho : o.op = .call { callee := .builtin .append, args := #[s, x], argTypes := #[t, t] })
    (base : Nat) (e : TypeId) (i : TypeInfo) (z : Value) (ht : P.underlying t = some (.slice e)) (hi : P.info? e = some i) (hz : i.zero = some z)
    (hsize : i.size = 1) (hby : i.bytes = 1) (hzs : z.cells.size = 1)
    (v : Value) (xs : List Nat) (hs : a.eval s = v) (hown : w.ownsRow base e 1 v xs.length (u8s xs)) (xv : Value) (ys : List Nat) (hxv : a.eval x = xv) (hx : Sees w xv ys)
    (h63 : xs.length + ys.length ≤ 140737488355328) (hbase : base ≤ w.heap.size)
    (h : ∀ v' w', w'.ownsRow base e 1 v' (xs ++ ys).length (u8s (xs ++ ys)) → w.grownBy w' v.ownBlock → (v'.ownBlock = v.ownBlock ∨ v'.ownBlock = some w.heap.size) → wpList P ops Q rest (a.put o.dst v') w') :
    wpList P ops Q (o :: rest) a w := by
  refine wpList_plain hgd fun K hK => ?_
  obtain ⟨v', w', hr, h2, h3, h4⟩ := run_append_sees (P := P) w base t o.type e i z ht hi hz hsize hby hzs v xs hown xv ys hx h63 hbase
  unfold Oper.wp execOp
  simp only [ho, resolve, invoke, builtin, Sem.run_bind, Sem.run_pure, Result.andThen_ok, List.map_toArray, List.map_cons, List.map_nil, hs, hxv, hr]
  exact hK _ _ (h v' w' h2 h3 h4)

end Go.Proofs.Ytocmgfmfalaebaa

/- The form of a number, the fold of an int: plain functions, and what formOf, foldOf and unfold answer. -/
namespace Go.Proofs.Ytocmgfmfalaebaa
open Go.RowKit

def form (n : Nat) : List Nat := if n < 128 then [n] else (n % 128 + 128) :: form (n / 128)

theorem form_small {n : Nat} (h : n < 128) : form n = [n] := by rw [form]; simp [h]
theorem form_big {n : Nat} (h : 128 ≤ n) : form n = (n % 128 + 128) :: form (n / 128) := by
  rw [form]; simp [Nat.not_lt.2 h]
theorem form_len (k n : Nat) (h : n < 2 ^ (7 * k + 7)) : (form n).length ≤ k + 1 := by
  induction k generalizing n with
  | zero => rw [form_small (by simpa using h)]; simp
  | succ k ih =>
    by_cases hn : n < 128
    · rw [form_small hn]; simp
    · rw [form_big (by omega)]
      have : n / 128 < 2 ^ (7 * k + 7) := by
        have e : 2 ^ (7 * (k + 1) + 7) = 2 ^ (7 * k + 7) * 128 := by rw [show 7 * (k + 1) + 7 = (7 * k + 7) + 7 by omega, Nat.pow_add]
        rw [e] at h
        exact Nat.div_lt_of_lt_mul (by omega)
      have := ih _ this
      simp; omega
theorem form_le10 (n : Nat) (h : n < 18446744073709551616) : (form n).length ≤ 10 := form_len 9 n (by omega)
theorem form_pos (n : Nat) : 1 ≤ (form n).length := by
  by_cases h : n < 128
  · rw [form_small h]; simp
  · rw [form_big (by omega)]; simp
theorem form_byte (n : Nat) : ∀ b ∈ form n, b < 256 := by
  induction n using Nat.strongRecOn with
  | _ n ih =>
    by_cases h : n < 128
    · rw [form_small h]; simp; omega
    · rw [form_big (by omega)]
      intro b hb
      rcases List.mem_cons.1 hb with rfl | hb
      · omega
      · exact ih _ (by omega) b hb

theorem ret_int {k : IntKind} {a b : Int} (h : a = b) : Ending.returned (.int k a) = .returned (.int k b) := by rw [h]

theorem or128 (n : Nat) (h : n < 256) : bits .or .u8 (n : Int) 128 = ((n % 128 + 128 : Nat) : Int) := by
  have := u8_or_nat n 128 h (by omega)
  rw [show ((128 : Nat) : Int) = 128 from rfl] at this
  rw [this]
  have : ∀ m, m < 256 → m ||| 128 = m % 128 + 128 := by decide +kernel
  rw [this n h]

theorem Try.info5 : (Try.prog.info? 5).map (fun i => (i.zero, i.size, i.bytes)) = some (some (.int .u8 0), 1, 1) := by kernel_rfl

theorem news_one (w : World) (x : Nat) : Sees (w.alloc (.cells #[.int .u8 (x : Int)] 5)) (.slice (some ⟨w.heap.size, 0, none⟩) 1 1) [x] :=
  Or.inr ⟨w.heap.size, 0, 1, rfl, by simp, by unfold maxLen; omega, by simp, fun j hj => by
    have : j = 0 := by simp at hj; exact hj
    subst this
    simp [go_sem]⟩

set_option maxRecDepth 100000 in
set_option maxHeartbeats 400000 in
theorem form_any (n : Nat) (w : World) (hn : n < 18446744073709551616) :
    Calls Try.prog 99 #[.int .u64 n] w fun e w' => ∃ v, e = .returned v ∧ w'.ownsRow w.heap.size 5 1 v (form n).length (u8s (form n)) ∧ Kept [] w w' := by
  obtain ⟨i0, hi, hz0, hz1, hz2⟩ := info_parts Try.info5
  have hlen := form_le10 n hn
  go_enter Try.func99, Try.ntmps99
  go_wp2
  go_loopw [0, 3] (fun m v wr => ∃ (x : Nat) (pre : List Nat), m = .int .u64 x ∧ x ≤ n ∧ Hid (form n = pre ++ form x) ∧ wr.ownsRow w.heap.size 5 1 v pre.length (u8s pre) ∧ Kept [] w wr) (fun m _ _ => (intOf m).toNat)
  case atStart => exact ⟨n, [], rfl, Nat.le_refl _, rfl, World.ownsRow_nil _ _ _ _, Kept.refl _ _⟩
  case round =>
    obtain ⟨x, pre, rfl, hx, HP, hown, hk⟩ := hrel
    have hpl : pre.length ≤ 10 := by have := congrArg List.length HP.out; simp at this; omega
    have hks := hk.size
    by_cases hb : x < 128
    · go_wp2_with (at_builtin; refine wpList_append_sees _ rfl _ _ 22 rfl w.heap.size 5 i0 (.int .u8 0) Try.underlying22 hi hz0 hz1 hz2 rfl _ pre rfl (hown.alloc _) _ [x] rfl (news_one _ _) ?c1 ?c2 ?_)
      case c1 => simp; omega
      case c2 => simp; omega
      intro v' w1 hown1 hg hat
      go_wp2
      go_ret
      refine ⟨v', rfl, ?_, ?_⟩
      · have := HP.out; rw [form_small hb] at this; rw [this]; simpa using hown1
      · exact (hk.alloc _).grown hg (fun k hk => Or.inr (hown.lt k hk).1)
    · go_wp2_with (at_builtin; refine wpList_append_sees _ rfl _ _ 22 rfl w.heap.size 5 i0 (.int .u8 0) Try.underlying22 hi hz0 hz1 hz2 rfl _ pre rfl (hown.alloc _) _ [x % 128 + 128] rfl ?c0 ?c1 ?c2 ?_)
      case c0 =>
        have e : bits .or .u8 ((x : Int) % 256) 128 = ((x % 128 + 128 : Nat) : Int) := by
          rw [show (x : Int) % 256 = ((x % 256 : Nat) : Int) by omega, or128 _ (by omega)]; omega
        rw [e]; exact news_one _ _
      case c1 => simp; omega
      case c2 => simp; omega
      intro v' w1 hown1 hg hat
      go_wp2
      go_roundw
      case rel => exact ⟨x / 128, pre ++ [x % 128 + 128], by go_num, by omega, (by have := HP.out; rw [form_big (n := x) (by omega)] at this; simpa using this : form n = (pre ++ [x % 128 + 128]) ++ form (x / 128)), by simpa using hown1, (hk.alloc _).grown hg (fun k hk => Or.inr (hown.lt k hk).1)⟩
      case measure => simp [intOf]; omega

def fold (i : Int) : Nat := if i < 0 then (-2 * i - 1).toNat else (2 * i).toNat
def unfoldN (n : Nat) : Int := if n % 2 = 1 then - ((n : Int) / 2) - 1 else (n : Int) / 2
theorem unfold_fold (i : Int) : unfoldN (fold i) = i := by unfold unfoldN fold; split <;> split <;> omega
theorem fold_lt (i : Int) (h1 : -9223372036854775808 ≤ i) (h2 : i ≤ 9223372036854775807) : fold i < 18446744073709551616 := by unfold fold; split <;> omega

theorem not_i64 (i : Int) (h1 : -9223372036854775808 ≤ i) (h2 : i ≤ 9223372036854775807) : bits .xor .i64 (-1) i = -1 - i := by
  by_cases h : 0 ≤ i
  · obtain ⟨a, rfl⟩ := Int.eq_ofNat_of_zero_le h
    exact i64_not a (by omega)
  · show IntKind.i64.wrap ((BitVec.ofInt 64 (-1) ^^^ BitVec.ofInt 64 i).toNat : Int) = _
    have h1 : BitVec.ofInt 64 (-1) = BitVec.allOnes 64 := by decide
    rw [h1, BitVec.allOnes_xor, BitVec.toNat_not, BitVec.toNat_ofInt]
    simp [IntKind.wrap, IntKind.bits, IntKind.signed]
    omega

end Go.Proofs.Ytocmgfmfalaebaa

/- The writer: its state in memory, and what its methods do to it. -/
namespace Go.Proofs.Ytocmgfmfalaebaa
open Go.RowKit

/-- A writer's state: room, bytes, where the open frames begin (the outermost first), fault. -/
structure WS where
  room : Nat
  bs : List Nat
  sts : List Nat
  fault : Nat

def i64s (l : List Nat) : List Value := l.map fun b : Nat => Value.int .i64 (b : Int)

/-- In w there is a writer at block b, in the state s; F: the blocks of its bytes and its starts. -/
structure Wr (w : World) (b : Nat) (s : WS) (v sv : Value) : Prop where
  blk : Blk w b #[.int .i64 (s.room : Int), v, sv, .int .i64 (s.fault : Int)] 78
  own : w.ownsRow 0 5 1 v s.bs.length (u8s s.bs)
  sown : w.ownsRow 0 3 1 sv s.sts.length (i64s s.sts)
  n1 : v.ownBlock ≠ some b
  n2 : sv.ownBlock ≠ some b
  n3 : ∀ k, v.ownBlock = some k → sv.ownBlock ≠ some k
  broom : s.room < 9223372036854775808
  bbs : s.bs.length ≤ 70368744177664
  bsts : s.sts.length ≤ 16
  bf : s.fault < 1000

def foot (b : Nat) (v sv : Value) : List Nat := b :: (v.ownBlock.toList ++ sv.ownBlock.toList)

theorem blk4 {w : World} {b : Nat} {x0 x1 x2 x3 : Value} {t : TypeId} (h : Blk w b #[x0, x1, x2, x3] t) :
    w.cell? ⟨b, 0, none⟩ = some x0 ∧ w.cell? ⟨b, 1, none⟩ = some x1 ∧ w.cell? ⟨b, 2, none⟩ = some x2 ∧ w.cell? ⟨b, 3, none⟩ = some x3 :=
  ⟨by rw [h.cell]; rfl, by rw [h.cell]; rfl, by rw [h.cell]; rfl, by rw [h.cell]; rfl⟩

/-- What a slice value that owns a row looks like: its length. -/
theorem own_len {w : World} {base : Nat} {e : TypeId} {s : Nat} {v : Value} {n : Nat} {xs : List Value} (h : w.ownsRow base e s v n xs) : ∃ a cap, v = .slice a n cap := by
  rcases h.2 with ⟨h1, h2⟩ | ⟨g, cap, cur, hv, _⟩
  · exact ⟨none, 0, by rw [h1, h2]⟩
  · exact ⟨_, _, hv⟩

set_option maxRecDepth 100000 in
set_option maxHeartbeats 400000 in
theorem fails_no {w : World} {b : Nat} {s : WS} {v sv : Value} (h : Wr w b s v sv) (hf : s.fault = 0) :
    Calls Try.prog 49 #[.pointer (some ⟨b, 0, none⟩)] w fun e w' => e = .returned (.bool false) ∧ w = w' := by
  obtain ⟨c0, c1, c2, c3⟩ := blk4 h.blk
  rw [hf] at c3; clear hf h
  go_enter Try.func49, Try.ntmps49
  go_wp2
  go_ret
  exact ⟨rfl, rfl⟩

set_option maxRecDepth 100000 in
set_option maxHeartbeats 400000 in
theorem fails_yes {w : World} {b : Nat} {s : WS} {v sv : Value} (h : Wr w b s v sv) (hf : s.fault ≠ 0) :
    Calls Try.prog 49 #[.pointer (some ⟨b, 0, none⟩)] w fun e w' => e = .returned (.bool true) ∧ w = w' := by
  obtain ⟨c0, c1, c2, c3⟩ := blk4 h.blk
  have hn : ((s.fault : Int) != 0) = true := by rw [bne_iff_ne]; omega
  clear hf h
  go_enter Try.func49, Try.ntmps49
  go_wp2
  go_ret
  exact ⟨rfl, rfl⟩

set_option maxRecDepth 100000 in
set_option maxHeartbeats 400000 in
theorem hasRoom_any {w : World} {b : Nat} {s : WS} {v sv : Value} (h : Wr w b s v sv) (more : Nat) (_hm : more < 9223372036854775808) (c : Bool) (hc : decide (s.bs.length + more ≤ s.room) = c) :
    Calls Try.prog 97 #[.pointer (some ⟨b, 0, none⟩), .int .i64 more] w fun e w' => e = .returned (.bool c) ∧ Quiet w w' := by
  obtain ⟨c0, c1, c2, c3⟩ := blk4 h.blk
  obtain ⟨a, cap, rfl⟩ := own_len h.own
  have hb := h.bbs
  have hr := h.broom
  have hd : decide ((more : Int) ≤ (s.room : Int) - (s.bs.length : Int)) = c := by rw [← hc]; congr 1; exact propext ⟨fun _ => by omega, fun _ => by omega⟩
  clear h hc
  go_enter Try.func97, Try.ntmps97
  go_wp2
  go_quiet (fail)
  go_wp2
  go_ret
  exact ⟨rfl, (Quiet.refl _).drewN _⟩


theorem own_quiet {w w' : World} {base : Nat} {e : TypeId} {s : Nat} {v : Value} {n : Nat} {xs : List Value} (h : w.ownsRow base e s v n xs) (q : Quiet w w') : w'.ownsRow base e s v n xs := own_kept h q.kept (fun _ _ => by simp)
theorem Wr.quiet {w w' : World} {b : Nat} {s : WS} {v sv : Value} (h : Wr w b s v sv) (q : Quiet w w') : Wr w' b s v sv :=
  ⟨h.blk.kept q.kept (by simp), own_quiet h.own q, own_quiet h.sown q, h.n1, h.n2, h.n3, h.broom, h.bbs, h.bsts, h.bf⟩
theorem Wr.kept {F : List Nat} {w w' : World} {b : Nat} {s : WS} {v sv : Value} (h : Wr w b s v sv) (k : Kept F w w') (hd : ∀ x, x ∈ foot b v sv → x ∉ F) : Wr w' b s v sv :=
  ⟨h.blk.kept k (hd b (by simp [foot])), own_kept h.own k (fun x hx => hd x (by simp [foot, hx])), own_kept h.sown k (fun x hx => hd x (by simp [foot, hx])), h.n1, h.n2, h.n3, h.broom, h.bbs, h.bsts, h.bf⟩
theorem Wr.alloc {w : World} {b : Nat} {s : WS} {v sv : Value} (h : Wr w b s v sv) (o : Obj) : Wr (w.alloc o) b s v sv := h.kept ((Kept.refl [] w).alloc o) (by simp)

/-- Bytes behind the bytes so far. -/
theorem Wr.grow {w w1 : World} {b : Nat} {s : WS} {v sv v' : Value} (h : Wr w b s v sv) (ys : List Nat)
    (hown : w1.ownsRow 0 5 1 v' (s.bs ++ ys).length (u8s (s.bs ++ ys))) (hg : w.grownBy w1 v.ownBlock) (hat : v'.ownBlock = v.ownBlock ∨ v'.ownBlock = some w.heap.size)
    (hl : s.bs.length + ys.length ≤ 70368744177664) :
    Wr (w1.setCell ⟨b, 1, none⟩ v') b { s with bs := s.bs ++ ys } v' sv ∧ Kept (foot b v sv) w (w1.setCell ⟨b, 1, none⟩ v') ∧ ∀ x, x ∈ foot b v' sv → x ∈ foot b v sv ∨ w.heap.size ≤ x := by
  have hb := h.blk.lt
  have k1 : Kept (foot b v sv) w w1 := (Kept.refl _ _).grown hg (fun k hk => Or.inl (by simp [foot, hk]))
  have k2 : Kept (foot b v sv) w (w1.setCell ⟨b, 1, none⟩ v') := k1.setCell (Or.inl (by simp [foot])) v'
  have n1' : v'.ownBlock ≠ some b := by
    rcases hat with e | e <;> rw [e]
    · exact h.n1
    · simp; omega
  have n3' : ∀ k, v'.ownBlock = some k → sv.ownBlock ≠ some k := by
    intro k hk hs
    rcases hat with e | e
    · exact h.n3 k (by rw [← e]; exact hk) hs
    · rw [e] at hk; simp at hk; subst hk
      have := (h.sown.lt _ hs).2; omega
  refine ⟨⟨?_, ?_, ?_, n1', h.n2, n3', h.broom, by simpa using hl, h.bsts, h.bf⟩, k2, ?_⟩
  · have b1 : Blk w1 b #[.int .i64 (s.room : Int), v, sv, .int .i64 (s.fault : Int)] 78 := by
      have := hg.block b hb (fun e => h.n1 e.symm)
      exact this.trans h.blk
    have := b1.set 1 v'
    simpa using this
  · exact own_kept hown ((Kept.refl [b] _).setCell (Or.inl (by simp)) v') (fun k hk => by simp; intro e; exact n1' (by rw [hk, e]))
  · have s1 : w1.ownsRow 0 3 1 sv s.sts.length (i64s s.sts) := by
      refine own_kept h.sown ((Kept.refl v.ownBlock.toList _).grown hg (fun k hk => Or.inl (by simp [hk]))) (fun k hk => ?_)
      simp; intro e; exact h.n3 k e hk
    exact own_kept s1 ((Kept.refl [b] _).setCell (Or.inl (by simp)) v') (fun k hk => by simp; intro e; exact h.n2 (by rw [hk, e]))
  · intro x hx
    simp [foot] at hx ⊢
    rcases hx with hx | hx | hx
    · exact Or.inl (Or.inl hx)
    · rcases hat with e | e
      · exact Or.inl (Or.inr (Or.inl (by rw [← e]; exact hx)))
      · rw [e] at hx; simp at hx; right; omega
    · exact Or.inl (Or.inr (Or.inr hx))

def cat (ps : List (Value × List Nat)) : List Nat := (ps.map (·.2)).flatten
theorem cat_take (ps : List (Value × List Nat)) (k : Nat) (hk : k < ps.length) : cat (ps.take (k + 1)) = cat (ps.take k) ++ ps[k].2 := by
  unfold cat; rw [List.take_succ_eq_append_getElem hk, List.map_append, List.flatten_append]; simp
theorem cat_take_le (ps : List (Value × List Nat)) (k : Nat) : (cat (ps.take k)).length ≤ (cat ps).length := by
  have : cat ps = cat (ps.take k) ++ cat (ps.drop k) := by
    unfold cat; rw [← List.flatten_append, ← List.map_append, List.take_append_drop]
  rw [this]; simp

theorem sees_len {w : World} {v : Value} {bs : List Nat} (h : Sees w v bs) : ∃ a cap, v = .slice a bs.length cap := by
  rcases h with ⟨h1, h2⟩ | ⟨b, off, cap, hv, _⟩
  · exact ⟨none, 0, by rw [h1, h2]; rfl⟩
  · exact ⟨_, _, hv⟩

end Go.Proofs.Ytocmgfmfalaebaa

/- The writer's lay. -/
namespace Go.Proofs.Ytocmgfmfalaebaa
open Go.RowKit

set_option maxRecDepth 100000 in
set_option maxHeartbeats 1000000 in
/-- lay where there is room. -/
theorem lay_fits {w : World} {b : Nat} {s : WS} {v sv : Value} (h : Wr w b s v sv) (hf : s.fault = 0) (pb pc : Nat) (ps : List (Value × List Nat))
    (hpb : Blk w pb (ps.map (·.1)).toArray 22) (hpn : pb ∉ foot b v sv) (hps : ∀ p, p ∈ ps → Sees w p.1 p.2 ∧ ∀ k, p.1.ownBlock = some k → k ∉ foot b v sv)
    (hl : s.bs.length + (cat ps).length ≤ 70368744177664) (hn : ps.length < 1000) (hroom : s.bs.length + (cat ps).length ≤ s.room) :
    Calls Try.prog 70 #[.pointer (some ⟨b, 0, none⟩), .slice (some ⟨pb, 0, none⟩) ps.length pc] w fun e w' => e = .returned (.tuple #[]) ∧
      ∃ v', Wr w' b { s with bs := s.bs ++ cat ps } v' sv ∧ Kept (foot b v sv) w w' ∧ ∀ x, x ∈ foot b v' sv → x ∈ foot b v sv ∨ w.heap.size ≤ x := by
  obtain ⟨i0, hi, hz0, hz1, hz2⟩ := info_parts Try.info5
  have HH := hide h
  have HPS := hide hps
  have HPB := hide hpb
  clear h hps hpb
  have hnn : (0 : Int) ≤ (ps.length : Int) := by omega
  go_enter Try.func70, Try.ntmps70
  go_wp2_with (first | (go_at_call 49; refine (fails_no (unhide HH) hf).mono ?_; rintro e w' ⟨rfl, rfl⟩))
  go_loop [4, 13] (fun sz i => ∃ k : Nat, k ≤ ps.length ∧ i = .int .i64 k ∧ sz = .int .i64 ((cat (ps.take k)).length : Nat)) (fun _ i => ps.length - (intOf i).toNat)
  case atStart => exact ⟨0, by omega, rfl, rfl⟩
  case round =>
    obtain ⟨k, hk, rfl, rfl⟩ := hrel
    have hle := cat_take_le ps k
    by_cases hlt : k < ps.length
    · have hce : w.cell? ⟨pb, k, none⟩ = some (ps[k].1) := by rw [(unhide HPB).cell]; simp [hlt]
      obtain ⟨a, cap, hv⟩ := sees_len ((unhide HPS) ps[k] (List.getElem_mem hlt)).1
      have ht : (cat (ps.take (k + 1))).length = (cat (ps.take k)).length + ps[k].2.length := by rw [cat_take ps k hlt]; simp
      have hle2 := cat_take_le ps (k + 1)
      have HT := hide ht
      clear ht
      rw [hv] at hce
      have hle3 : (cat (ps.take k)).length + ps[k].2.length ≤ (cat ps).length := by rw [← unhide HT]; exact hle2
      clear hle2
      clear hv
      go_wp2
      go_round
      case rel => exact ⟨k + 1, by omega, by go_num, by rw [unhide HT]; go_num⟩
      case measure => simp [intOf]; omega
    · have hkl : k = ps.length := by omega
      subst hkl
      rw [List.take_length]
      clear hle hk hlt
      go_wp2_with (first | (go_at_call 97; refine (hasRoom_any (unhide HH) _ (by omega) true (by simpa using hroom)).mono ?_; rintro e w1 ⟨rfl, hq⟩))
      have HH1 := hide ((unhide HH).quiet hq)
      go_loopw [30] (fun i wr => ∃ (k : Nat) (v' : Value), k ≤ ps.length ∧ i = .int .i64 k ∧ Wr wr b { s with bs := s.bs ++ cat (ps.take k) } v' sv ∧ Kept (foot b v sv) w wr ∧ (∀ x, x ∈ foot b v' sv → x ∈ foot b v sv ∨ w.heap.size ≤ x)) (fun i _ => ps.length - (intOf i).toNat)
      case atStart => exact ⟨0, v, by omega, rfl, by simpa [cat] using (unhide HH1), hq.kept.mono (by simp), fun x hx => Or.inl hx⟩
      case round =>
        obtain ⟨k, v1, hk, rfl, hwr, hkept, hfoot⟩ := hrel
        have hle := cat_take_le ps k
        have HK := hide hkept
        have HF := hide hfoot
        have HW := hide hwr
        clear hkept hfoot
        by_cases hlt : k < ps.length
        · have hnf : (∀ x, x ∈ foot b v1 sv → ¬ x = pb) := by
            intro x hx e; subst e
            rcases unhide HF _ hx with h1 | h1
            · exact hpn h1
            · have := (unhide HPB).lt; omega
          have hce : wr.cell? ⟨pb, k, none⟩ = some (ps[k].1) := by rw [((unhide HPB).kept (unhide HK) hpn).cell]; simp [hlt]
          obtain ⟨hs1, hs2⟩ := (unhide HPS) ps[k] (List.getElem_mem hlt)
          have hs3 := hs1.kept (unhide HK) hs2
          have HT := hide (cat_take ps k hlt)
          have hle2 : (cat (ps.take k)).length + ps[k].2.length ≤ (cat ps).length := by
            have h1 := cat_take_le ps (k + 1); rw [unhide HT] at h1; simpa using h1
          obtain ⟨c0, c1, c2, c3⟩ := blk4 hwr.blk
          have f1 := hwr.blk.frozen 1
          have hown := hwr.own
          clear hwr hs1 hs2
          go_wp2_with (at_builtin; refine wpList_append_sees _ rfl _ _ 22 rfl 0 5 i0 (.int .u8 0) Try.underlying22 hi hz0 hz1 hz2 rfl _ (s.bs ++ cat (ps.take k)) rfl hown _ ps[k].2 rfl hs3 ?c1 (Nat.zero_le _) ?_)
          case c1 => first | omega | (simp; omega)
          intro v2 w2 hown2 hg hat
          obtain ⟨a2, cap2, hv2⟩ := own_len hown2
          subst hv2
          have HR := hide ((unhide HW).grow ps[k].2 (by simpa [Nat.add_assoc] using hown2) hg hat (by simp; omega))
          have c1' : w2.cell? ⟨b, 1, none⟩ = some v1 := hg.cell c1 (fun e => (unhide HW).n1 e.symm)
          have f1' : w2.frozen? ⟨b, 1, none⟩ = false := (World.frozen?_of_block (hg.block b (unhide HW).blk.lt (fun e => (unhide HW).n1 e.symm))).trans f1
          clear hown hown2 hg hat c0 c1 c2 c3 f1 hs3 hce
          go_wp2
          go_roundw
          case rel =>
            obtain ⟨r1, r2, r3⟩ := unhide HR
            refine ⟨k + 1, .slice a2 (s.bs.length + ((cat (ps.take k)).length + ps[k].2.length)) cap2, by omega, by go_num, ?_, (unhide HK).trans r2 (fun x hx => unhide HF x hx), fun x hx => ?_⟩
            · rw [unhide HT]; simpa using r1
            · rcases r3 x hx with h1 | h1
              · exact unhide HF x h1
              · right; have := (unhide HK).size; omega
          case measure => simp [intOf]; omega
        · have hkl : k = ps.length := by omega
          subst hkl
          clear hwr
          go_wp2
          go_end0
          refine ⟨rfl, v1, ?_, unhide HK, unhide HF⟩
          have := unhide HW
          rwa [List.take_length] at this
end Go.Proofs.Ytocmgfmfalaebaa

/- The writer's New, Num, Int, Len, Done. -/
namespace Go.Proofs.Ytocmgfmfalaebaa
open Go.RowKit

def newWS (room : Nat) : WS := ⟨room, [], [], 0⟩
def nilS : Value := .slice none 0 0

set_option maxRecDepth 100000 in
set_option maxHeartbeats 400000 in
theorem new_any (room : Nat) (w : World) (hr : room < 9223372036854775808) :
    Calls Try.prog 46 #[.int .i64 (room : Int)] w fun e w' => ∃ b, e = .returned (.pointer (some ⟨b, 0, none⟩)) ∧ w.heap.size ≤ b ∧ Wr w' b (newWS room) nilS nilS ∧ Kept [] w w' := by
  go_enter Try.func46, Try.ntmps46
  go_wp2
  go_ret
  refine ⟨w.heap.size, rfl, Nat.le_refl _, ⟨Blk.new _ _ _, World.ownsRow_nil _ _ _ _, World.ownsRow_nil _ _ _ _, by simp [nilS, Value.ownBlock], by simp [nilS, Value.ownBlock], by simp [nilS, Value.ownBlock], hr, by simp [newWS], by simp [newWS], by simp [newWS]⟩, (Kept.refl _ _).alloc _⟩

theorem sees_alloc {w : World} {v : Value} {bs : List Nat} (o : Obj) (h : Sees w v bs) : Sees (w.alloc o) v bs := h.kept ((Kept.refl [] w).alloc o) (by simp)

theorem foot_lt {w : World} {b : Nat} {s : WS} {v sv : Value} (h : Wr w b s v sv) : ∀ x, x ∈ foot b v sv → x < w.heap.size := by
  intro x hx
  simp [foot] at hx
  rcases hx with rfl | hx | hx
  · exact h.blk.lt
  · exact (h.own.lt _ hx).2
  · exact (h.sown.lt _ hx).2

theorem form_any' (n : Nat) (w : World) (hn : n < 18446744073709551616) :
    Calls Try.prog 99 #[.int .u64 n] w fun e w' => ∃ a cap, e = .returned (.slice a (form n).length cap) ∧ w'.ownsRow w.heap.size 5 1 (.slice a (form n).length cap) (form n).length (u8s (form n)) ∧ Kept [] w w' := by
  refine (form_any n w hn).mono ?_
  rintro e w' ⟨v, rfl, h1, h2⟩
  obtain ⟨a, cap, rfl⟩ := own_len h1
  exact ⟨a, cap, rfl, h1, h2⟩

/-- What a call of lay with one part needs, where that part is of new memory. -/
theorem lay_one {w w1 : World} {b : Nat} {s : WS} {v sv : Value} (h : Wr w b s v sv) (hf : s.fault = 0) (fv : Value) (fs : List Nat)
    (hfo : w1.ownsRow w.heap.size 5 1 fv fs.length (u8s fs)) (hk1 : Kept [] w w1)
    (hl : s.bs.length + fs.length ≤ 70368744177664) (hroom : s.bs.length + fs.length ≤ s.room) :
    Calls Try.prog 70 #[.pointer (some ⟨b, 0, none⟩), .slice (some ⟨w1.heap.size, 0, none⟩) 1 1] (w1.alloc (.cells #[fv] 22)) fun e w' => e = .returned (.tuple #[]) ∧
      ∃ v', Wr w' b { s with bs := s.bs ++ fs } v' sv ∧ Kept (foot b v sv) w w' ∧ ∀ x, x ∈ foot b v' sv → x ∈ foot b v sv ∨ w.heap.size ≤ x := by
  have hfl := foot_lt h
  have hks := hk1.size
  have ec : cat [(fv, fs)] = fs := by simp [cat]
  have h1 : Wr (w1.alloc (.cells #[fv] 22)) b s v sv := (h.kept hk1 (by simp)).alloc _
  refine (lay_fits h1 hf w1.heap.size 1 [(fv, fs)] (Blk.new _ _ _) (fun hm => by have := hfl _ hm; omega) ?_ (by rw [ec]; exact hl) (by simp) (by rw [ec]; exact hroom)).mono ?_
  · intro p hp
    simp at hp; subst hp
    refine ⟨sees_alloc _ (Sees.of_own hfo), fun k hk hm => ?_⟩
    have := hfl _ hm; have := (hfo.lt k hk).1; omega
  · rintro e w' ⟨rfl, v', hw, hk, hx⟩
    rw [ec] at hw
    refine ⟨rfl, v', hw, (hk1.alloc _).mono (by simp) |>.trans hk (fun x hx => Or.inl hx), fun x hxx => ?_⟩
    rcases hx x hxx with h2 | h2
    · exact Or.inl h2
    · right; simp at h2; omega

set_option maxRecDepth 100000 in
set_option maxHeartbeats 400000 in
theorem wnum_fits {w : World} {b : Nat} {s : WS} {v sv : Value} (h : Wr w b s v sv) (hf : s.fault = 0) (n : Nat) (hn : n < 18446744073709551616) (hl : s.bs.length ≤ 1000000000000) (hroom : s.bs.length + (form n).length ≤ s.room) :
    Calls Try.prog 80 #[.pointer (some ⟨b, 0, none⟩), .int .u64 n] w fun e w' => e = .returned (.tuple #[]) ∧
      ∃ v', Wr w' b { s with bs := s.bs ++ form n } v' sv ∧ Kept (foot b v sv) w w' ∧ ∀ x, x ∈ foot b v' sv → x ∈ foot b v sv ∨ w.heap.size ≤ x := by
  have HH := hide h
  clear h
  have h10 := form_le10 n hn
  go_enter Try.func80, Try.ntmps80
  go_wp2_with (first | (go_at_call 99; refine (form_any' n _ hn).mono ?_; rintro e w1 ⟨fa, fc, rfl, hfo, hk1⟩) | (go_at_call 70; refine (lay_one (unhide HH) hf _ _ hfo hk1 (by omega) hroom).mono ?_; rintro e w2 ⟨rfl, HX⟩))
  go_end0
  exact ⟨rfl, HX⟩

set_option maxRecDepth 100000 in
set_option maxHeartbeats 400000 in
theorem wlen_ok {w : World} {b : Nat} {s : WS} {v sv : Value} (h : Wr w b s v sv) (hf : s.fault = 0) :
    Calls Try.prog 31 #[.pointer (some ⟨b, 0, none⟩)] w fun e w' => e = .returned (.int .i64 (s.bs.length : Nat)) ∧ w = w' := by
  obtain ⟨c0, c1, c2, c3⟩ := blk4 h.blk
  obtain ⟨a, cap, rfl⟩ := own_len h.own
  have HH := hide h
  clear h
  go_enter Try.func31, Try.ntmps31
  go_wp2_with (first | (go_at_call 49; refine (fails_no (unhide HH) hf).mono ?_; rintro e w' ⟨rfl, rfl⟩))
  go_ret
  exact ⟨rfl, rfl⟩

set_option maxRecDepth 100000 in
set_option maxHeartbeats 400000 in
/-- bytes.Clone -/
theorem clone_any {w : World} {x : Value} {bs : List Nat} (h : Sees w x bs) (hl : bs.length ≤ 140737488355328) :
    Calls Try.prog 48 #[x] w fun e w' => ∃ a cap, e = .returned (.slice a bs.length cap) ∧ w'.ownsRow w.heap.size 5 1 (.slice a bs.length cap) bs.length (u8s bs) ∧ Kept [] w w' := by
  obtain ⟨i0, hi, hz0, hz1, hz2⟩ := info_parts Try.info5
  have e0 := fun (a : Option Addr) (n c : Nat) (w : World) => Lib.run_eql_slice_nil (P := Try.prog) w 22 5 a n c 0 0 Try.underlying22
  rcases h with ⟨rfl, rfl⟩ | ⟨b, off, cap, rfl, h1, h2, h3, h4⟩
  · go_enter Try.func48, Try.ntmps48
    go_wp2
    go_ret
    exact ⟨none, 0, rfl, World.ownsRow_nil _ _ _ _, Kept.refl _ _⟩
  · have hs : Sees w (.slice (some ⟨b, off, none⟩) bs.length cap) bs := Or.inr ⟨b, off, cap, rfl, h1, h2, h3, h4⟩
    clear h1 h2 h3 h4
    go_enter Try.func48, Try.ntmps48
    go_wp2_with (at_builtin; refine wpList_append_sees _ rfl _ _ 22 rfl w.heap.size 5 i0 (.int .u8 0) Try.underlying22 hi hz0 hz1 hz2 rfl _ [] rfl (World.ownsRow_made w #[] 0 (Nat.le_refl _) (Nat.zero_le _) rfl) _ bs rfl (sees_alloc _ hs) ?c1 ?c2 ?_)
    case c1 => first | omega | (simp; omega)
    case c2 => simp
    intro v' w1 hown hg hat
    obtain ⟨a, c, hv⟩ := own_len hown
    subst hv
    go_wp2
    go_ret
    exact ⟨a, c, rfl, by simpa using hown, ((Kept.refl [] w).alloc _).grown hg (fun k hk => by simp [Value.ownBlock] at hk; right; omega)⟩

set_option maxRecDepth 100000 in
set_option maxHeartbeats 400000 in
theorem wdone_ok {w : World} {b : Nat} {s : WS} {v sv : Value} (h : Wr w b s v sv) (hf : s.fault = 0) (hs : s.sts = []) :
    Calls Try.prog 30 #[.pointer (some ⟨b, 0, none⟩)] w fun e w' => ∃ a cap, e = .returned (.tuple #[.slice a s.bs.length cap, .int .i64 0]) ∧ w'.ownsRow w.heap.size 5 1 (.slice a s.bs.length cap) s.bs.length (u8s s.bs) ∧ Kept [] w w' := by
  obtain ⟨c0, c1, c2, c3⟩ := blk4 h.blk
  have hsee := Sees.of_own h.own
  obtain ⟨a, cap, rfl⟩ := own_len h.own
  obtain ⟨sa, scap, hsv⟩ := own_len h.sown
  rw [hs] at hsv; rw [hsv] at c2; rw [hf] at c3
  have hbb := h.bbs
  clear h hf hs hsv
  go_enter Try.func30, Try.ntmps30
  go_wp2_with (first | (go_at_call 48; refine (clone_any hsee (by omega)).mono ?_; rintro e w' ⟨ca, cc, rfl, hfo, hk1⟩))
  go_ret2
  exact ⟨ca, cc, rfl, hfo, hk1⟩
end Go.Proofs.Ytocmgfmfalaebaa

/- The reader: its state in memory; take, next, number. -/
namespace Go.Proofs.Ytocmgfmfalaebaa
open Go.RowKit

/-- In w there is a reader without a fault at block b; left: what is left; n: how many frames it is in. -/
structure Rd (w : World) (b : Nat) (lv bv : Value) (left : List Nat) : Prop where
  blk : Blk w b #[lv, bv, .int .i64 0] 83
  see : Sees w lv left
  n1 : lv.ownBlock ≠ some b
  bl : left.length ≤ 140737488355328

theorem blk3 {w : World} {b : Nat} {x0 x1 x2 : Value} {t : TypeId} (h : Blk w b #[x0, x1, x2] t) :
    w.cell? ⟨b, 0, none⟩ = some x0 ∧ w.cell? ⟨b, 1, none⟩ = some x1 ∧ w.cell? ⟨b, 2, none⟩ = some x2 :=
  ⟨by rw [h.cell]; rfl, by rw [h.cell]; rfl, by rw [h.cell]; rfl⟩
theorem blk1 {w : World} {b : Nat} {x0 : Value} {t : TypeId} (h : Blk w b #[x0] t) : w.cell? ⟨b, 0, none⟩ = some x0 := by rw [h.cell]; rfl

theorem Rd.kept {F : List Nat} {w w' : World} {b : Nat} {lv bv : Value} {left : List Nat} (h : Rd w b lv bv left) (k : Kept F w w') (hb : b ∉ F) (hl : ∀ x, lv.ownBlock = some x → x ∉ F) : Rd w' b lv bv left :=
  ⟨h.blk.kept k hb, h.see.kept k hl, h.n1, h.bl⟩
theorem Rd.alloc {w : World} {b : Nat} {lv bv : Value} {left : List Nat} (h : Rd w b lv bv left) (o : Obj) : Rd (w.alloc o) b lv bv left := h.kept ((Kept.refl [] w).alloc o) (by simp) (by simp)

theorem recover_idle (p : Addr) (w : World) :
    CallsD Try.prog 73 #[.pointer (some p)] .returning w fun e u' w' => e = .returned (.tuple #[]) ∧ u' = .returning ∧ w' = w := by
  refine callsD_of_wpS Try.func73 rfl fun c₀ cs hu => ?_
  apply wpS_seq
  apply wpS_region
  simp [wpOpsS, go_sem, recoverD, hu, Try.ntmps73, Exit.thenS]
  apply wpS_seq
  apply wpS_region
  simp [wpOpsS, go_sem, Exit.thenS, Array.replicate]
  refine wpS_cond (t := false) (by simp [Act.eval]) ?_
  simp only [Bool.false_eq_true, if_false]
  refine wpS_of_wp (wp_skip ?_)
  cases c₀
  simp_all [bodyPostS, results, Try.results73]

set_option maxRecDepth 100000 in
set_option maxHeartbeats 400000 in
theorem take_ok {w : World} {b g : Nat} {lv bv : Value} {left : List Nat} (h : Rd w b lv bv left) (caps : Array Value) (R : World → Prop) (hen : ∀ w, (callFunc g caps).run Try.prog w = .ok (.enter g caps) w)
    (hc : Calls Try.prog g caps (w.alloc (.cells #[.pointer (some ⟨b, 0, none⟩)] 59)) fun e w1 => e = .returned (.tuple #[]) ∧ R w1) :
    Calls Try.prog 53 #[.pointer (some ⟨b, 0, none⟩), .func (.func g) #[] caps] w fun e w' => e = .returned (.tuple #[]) ∧ R w' := by
  have hmf : ∀ (fn : Fn) (first cap : Array Value) (w : World), (Instr.makeFunc fn first cap).run Try.prog w = .ok (.func fn first cap) w := fun _ _ _ _ => rfl
  obtain ⟨c0, c1, c2⟩ := blk3 h.blk
  have hb := h.blk.lt
  have c2' : (w.alloc (.cells #[.pointer (some ⟨b, 0, none⟩)] 59)).cell? ⟨b, 2, none⟩ = some (.int .i64 0) := (blk3 (h.blk.alloc _)).2.2
  have HC := hide hc
  clear h hc c0 c1 c2
  go_enter_defers Try.func53, Try.ntmps53
  go_wp2_with fail
  refine (unhide HC).mono ?_
  rintro e w1 ⟨rfl, hR⟩
  go_wp2
  refine leaves_cons (f := 73) (args := #[.pointer (some ⟨w.heap.size, 0, none⟩)]) (by simp) (by simp [go_sem]) ?_
  refine (recover_idle ⟨w.heap.size, 0, none⟩ _).mono ?_
  rintro e u' w'' ⟨rfl, rfl, rfl⟩
  simp [Leaves, settle, results, Try.results53, go_sem, hR]


theorem ta_errno (n : Int) (w : World) : (Instr.typeAssert (.iface 27 (.int .i64 n)) 20 27 true).run Try.prog w = .ok (.tuple #[.int .i64 n, .bool true]) w := by kernel_rfl
theorem ta_bounds (v : Value) (w : World) : (Instr.typeAssert (.iface 8 v) 20 27 true).run Try.prog w = .ok (.tuple #[.int .i64 0, .bool false]) w := by kernel_rfl

set_option maxRecDepth 100000 in
set_option maxHeartbeats 400000 in
theorem faultOf_errno (n : Int) (w : World) :
    Calls Try.prog 74 #[.iface 27 (.int .i64 n)] w fun e w' => e = .returned (.int .i64 n) ∧ w = w' := by
  have h1 := ta_errno
  go_enter Try.func74, Try.ntmps74
  go_wp2
  go_ret
  exact ⟨rfl, rfl⟩

set_option maxRecDepth 100000 in
set_option maxHeartbeats 400000 in
theorem faultOf_bounds (v : Value) (w : World) :
    Calls Try.prog 74 #[.iface 8 v] w fun e w' => e = .returned (.int .i64 10) ∧ w = w' := by
  have h1 := ta_bounds
  go_enter Try.func74, Try.ntmps74
  go_wp2
  go_ret
  exact ⟨rfl, rfl⟩

theorem Rd.adv {w : World} {b : Nat} {bv : Value} {x : Nat} {left : List Nat} {bk off cap off' cap' : Nat}
    (h : Rd w b (.slice (some ⟨bk, off, none⟩) (left.length + 1) cap) bv (x :: left)) (ho : cap' = cap - 1 ∧ (off' = off + 1 ∨ cap = 1)) :
    Rd (w.setCell ⟨b, 0, none⟩ (.slice (some ⟨bk, off', none⟩) left.length cap')) b (.slice (some ⟨bk, off', none⟩) left.length cap') bv left ∧
      (Value.slice (some ⟨bk, off', none⟩) left.length cap').ownBlock = (Value.slice (some ⟨bk, off, none⟩) (left.length + 1) cap).ownBlock ∧ Kept [b] w (w.setCell ⟨b, 0, none⟩ (.slice (some ⟨bk, off', none⟩) left.length cap')) := by
  have hn1 := h.n1
  have hbk : bk ≠ b := fun e => hn1 (by rw [← e]; rfl)
  have kk : Kept [b] w (w.setCell ⟨b, 0, none⟩ (.slice (some ⟨bk, off', none⟩) left.length cap')) := (Kept.refl _ _).setCell (Or.inl (by simp)) _
  refine ⟨⟨by simpa using h.blk.set 0 (.slice (some ⟨bk, off', none⟩) left.length cap'), ?_, hn1, by have := h.bl; simp at this; omega⟩, rfl, kk⟩
  rcases h.see with ⟨h1, _⟩ | ⟨bk', o2, c2, hv, hc, hm, hlt, hcell⟩
  · cases h1
  · cases hv
    refine Or.inr ⟨bk, off', cap', rfl, by simp at hc; omega, by omega, Nat.lt_of_lt_of_le hlt kk.size, fun j hj => ?_⟩
    rw [kk.cell (p := ⟨bk, off' + j, none⟩) hlt (by simp; exact hbk)]
    have := hcell (j + 1) (by simp; omega)
    have e : off' + j = off + (j + 1) := by
      simp at hc; omega
    rw [e]; simpa using this

set_option maxRecDepth 100000 in
set_option maxHeartbeats 400000 in
theorem next_ok {w : World} {b : Nat} {lv bv : Value} {x : Nat} {left : List Nat} (h : Rd w b lv bv (x :: left)) :
    Calls Try.prog 76 #[.pointer (some ⟨b, 0, none⟩)] w fun e w' => e = .returned (.int .u8 x) ∧ ∃ lv', Rd w' b lv' bv left ∧ lv'.ownBlock = lv.ownBlock ∧ Kept [b] w w' := by
  obtain ⟨c0, c1, c2⟩ := blk3 h.blk
  have f0 := h.blk.frozen 0
  rcases h.see with ⟨_, h2⟩ | ⟨bk, off, cap, hv, hcap, hm, hlt, hcell⟩
  · cases h2
  have cx := hcell 0 (by simp)
  simp at cx
  subst hv
  have HH := hide h
  have hm' : cap ≤ 9223372036854775807 := by unfold maxLen at hm; omega
  simp only [List.length_cons] at c0 hcap HH
  clear h hcell hm
  go_enter Try.func76, Try.ntmps76
  go_wp2
  · have e1 : cap = 1 := by assumption
    subst e1
    go_ret
    exact ⟨rfl, _, Rd.adv (unhide HH) ⟨by omega, Or.inr rfl⟩⟩
  · go_ret
    exact ⟨rfl, _, Rd.adv (unhide HH) ⟨by omega, Or.inl rfl⟩⟩

set_option maxRecDepth 100000 in
set_option maxHeartbeats 400000 in
theorem refuse_no (n : Int) (w : World) :
    Calls Try.prog 106 #[.bool false, .int .i64 n] w fun e w' => e = .returned (.tuple #[]) ∧ w = w' := by
  go_enter Try.func106, Try.ntmps106
  go_wp2
  go_end0
  exact ⟨rfl, rfl⟩

set_option maxRecDepth 100000 in
set_option maxHeartbeats 400000 in
theorem refuse_yes (n : Int) (w : World) :
    Calls Try.prog 106 #[.bool true, .int .i64 n] w fun e w' => e = .panicked [{ v := .iface 27 (.int .i64 n), recovered := false }] ∧ w = w' := by
  go_enter Try.func106, Try.ntmps106
  go_wp2
  exact ⟨rfl, rfl, rfl⟩

theorem run_boundsPanic_q {P : Program} {α : Type} (w : World) (k : IntKind) (x y : Int) (code : BoundsCode) :
    ∃ s w', (boundsPanic k x y code : Sem α).run P w = .halt (.panic (boundsValue P (IntKind.i64.wrap x) y s code.toNat)) w' ∧ Quiet w w' := by
  unfold boundsPanic boundsValue
  split
  · simp [runtimePanic, goPanic, go_sem]
    exact (Classical.em _).elim (fun hc => Or.inr ⟨_, ⟨hc, rfl⟩, (Quiet.refl _).drew⟩) (fun hc => Or.inl ⟨_, ⟨hc, rfl⟩, (Quiet.refl _).drew⟩)
  · simp [runtimePanic, goPanic, go_sem]
    exact (Classical.em _).elim (fun hc => Or.inl ⟨_, ⟨hc, rfl⟩, Quiet.refl _⟩) (fun hc => Or.inr ⟨_, ⟨hc, rfl⟩, Quiet.refl _⟩)

theorem run_indexAt_out_q {P : Program} (w : World) (t : TypeId) (a0 : Option Addr) (len cap : Nat) (k : IntKind) (i : Int) (h : P.underlying t = some (.slice (P.elem t))) (hnil : a0 = none → len = 0) (ho : i < 0 ∨ (len : Int) ≤ i) :
    ∃ s w', (Instr.indexAt t (.slice a0 len cap) (.int k i)).run P w = .halt (.panic (boundsValue P (IntKind.i64.wrap i) len s 0)) w' ∧ Quiet w w' := by
  cases a0 with
  | some a =>
    rw [run_indexAt_slice (h := h), if_neg (by omega)]
    exact run_boundsPanic_q w k i len .index
  | none =>
    obtain rfl := hnil rfl
    have e : (Instr.indexAt t (.slice none 0 cap) (.int k i)).run P w = (boundsPanic k i 0 .index).run P w := by
      simp [Instr.indexAt, run_underlying h, asIntOf]
    rw [e]
    exact run_boundsPanic_q w k i 0 .index

theorem Try.rtb : Try.prog.rt.boundsError = 8 := by kernel_rfl
theorem Try.elem22 : Try.prog.underlying 22 = some (.slice (Try.prog.elem 22)) := by kernel_rfl

set_option maxRecDepth 100000 in
set_option maxHeartbeats 400000 in
theorem next_end {w : World} {b : Nat} {lv bv : Value} (h : Rd w b lv bv []) :
    Calls Try.prog 76 #[.pointer (some ⟨b, 0, none⟩)] w fun e w' => (∃ pv, e = .panicked [{ v := .iface 8 pv, recovered := false }]) ∧ Quiet w w' := by
  obtain ⟨c0, c1, c2⟩ := blk3 h.blk
  obtain ⟨a, cap, hv⟩ := sees_len h.see
  have hnil : a = none → ([] : List Nat).length = 0 := fun _ => rfl
  obtain ⟨s, w1, hrun, hq⟩ := run_indexAt_out_q (P := Try.prog) w 22 a ([] : List Nat).length cap .i64 0 Try.elem22 hnil (by simp)
  unfold boundsValue at hrun
  rw [Try.rtb] at hrun
  rw [hv] at c0
  simp only [List.length_nil] at hrun c0
  clear h hv hnil
  go_enter Try.func76, Try.ntmps76
  go_wp2
  exact ⟨rfl, ⟨_, rfl⟩, hq⟩

/-- Num's reading, byte by byte: what is answered and what is left, or the refusal. -/
def readNum (k acc : Nat) : List Nat → Nat ⊕ (Nat × List Nat)
  | [] => .inl 10
  | x :: l => if k = 9 ∧ 1 < x then .inl 11 else if x < 128 then (if x = 0 ∧ 0 < k then .inl 11 else .inr (acc + x * 128 ^ k, l)) else readNum (k + 1) (acc + x % 128 * 128 ^ k) l

/-- A panic's value and the fault that comes of it. -/
def Faulty (e : Ending) (c : Nat) : Prop := ∃ u pv, e = .panicked [{ v := .iface u pv, recovered := false }] ∧ ((u = 8 ∧ c = 10) ∨ (u = 27 ∧ pv = .int .i64 c))
end Go.Proofs.Ytocmgfmfalaebaa

/- The reader's number. -/
namespace Go.Proofs.Ytocmgfmfalaebaa
open Go.RowKit

theorem and127 (x : Nat) (h : x < 256) : bits .and .u8 (x : Int) 127 = ((x % 128 : Nat) : Int) := by
  have := u8_and_nat x 127 h (by omega)
  rw [show ((127 : Nat) : Int) = 127 from rfl] at this
  rw [this]
  have : ∀ m, m < 256 → m &&& 127 = m % 128 := by decide +kernel
  rw [this x h]

theorem or_shift (k acc y : Nat) (hk : k ≤ 9) (hacc : acc < 128 ^ k) (hy : y < 128) (h9 : k = 9 → y ≤ 1) :
    bits .or .u64 (acc : Int) (IntKind.u64.wrap ((y : Int) * 2 ^ (7 * k))) = ((acc + y * 128 ^ k : Nat) : Int) ∧ acc + y * 128 ^ k < 128 ^ (k + 1) := by
  have e : 128 ^ k = 2 ^ (7 * k) := by rw [Nat.pow_mul]
  rw [e] at hacc ⊢
  have hs : acc + y * 2 ^ (7 * k) < 128 ^ (k + 1) := by
    have e2 : 128 ^ (k + 1) = 2 ^ (7 * k) * 128 := by rw [Nat.pow_succ, e]
    rw [e2]
    have : y * 2 ^ (7 * k) ≤ 127 * 2 ^ (7 * k) := Nat.mul_le_mul_right _ (by omega)
    omega
  refine ⟨?_, hs⟩
  have hb : y * 2 ^ (7 * k) < 18446744073709551616 := by
    by_cases h : k = 9
    · have := h9 h
      subst h
      have : y * 2 ^ (7 * 9) ≤ 1 * 2 ^ (7 * 9) := Nat.mul_le_mul_right _ this
      omega
    · have h1 : y * 2 ^ (7 * k) ≤ 127 * 2 ^ (7 * k) := Nat.mul_le_mul_right _ (by omega)
      have h2 : 2 ^ (7 * k) ≤ 2 ^ 56 := Nat.pow_le_pow_right (by omega) (by omega)
      omega
  have ha : acc < 18446744073709551616 := by
    have h2 : 2 ^ (7 * k) ≤ 2 ^ 63 := Nat.pow_le_pow_right (by omega) (by omega)
    omega
  have ew : IntKind.u64.wrap ((y : Int) * 2 ^ (7 * k)) = ((y * 2 ^ (7 * k) : Nat) : Int) := by
    rw [IntKind.wrap_u64]
    have : ((y : Int) * 2 ^ (7 * k)) = ((y * 2 ^ (7 * k) : Nat) : Int) := by simp
    rw [this]; omega
  rw [ew, u64_or_nat _ _ ha hb]
  have := Nat.two_pow_add_eq_or_of_lt hacc y
  rw [Nat.mul_comm y, Nat.or_comm, ← this, Nat.add_comm]

set_option maxRecDepth 100000 in
set_option maxHeartbeats 400000 in
theorem number_any {w : World} {b : Nat} {lv bv : Value} {l : List Nat} (h : Rd w b lv bv l) (hl : ∀ x ∈ l, x < 256) :
    Calls Try.prog 101 #[.pointer (some ⟨b, 0, none⟩)] w fun e w' =>
      (∀ n rest, readNum 0 0 l = .inr (n, rest) → e = .returned (.int .u64 (n : Nat)) ∧ ∃ lv', Rd w' b lv' bv rest ∧ lv'.ownBlock = lv.ownBlock) ∧
      (∀ c, readNum 0 0 l = .inl c → Faulty e c ∧ ∃ lv' l', Rd w' b lv' bv l') ∧ Kept [b] w w' := by
  have HH := hide h
  have HL := hide hl
  clear h hl
  go_enter Try.func101, Try.ntmps101
  go_wp2
  go_loopw [3, 4] (fun n i wr => ∃ (k acc : Nat) (lk : List Nat) (lv' : Value), k ≤ 9 ∧ i = .int .i64 k ∧ n = .int .u64 acc ∧ acc < 128 ^ k ∧ Hid (readNum k acc lk = readNum 0 0 l) ∧ Hid (Rd wr b lv' bv lk ∧ (∀ x ∈ lk, x < 256) ∧ lv'.ownBlock = lv.ownBlock ∧ Kept [b] w wr)) (fun _ i _ => 10 - (intOf i).toNat)
  case atStart => exact ⟨0, 0, l, lv, by omega, rfl, rfl, by simp, hide rfl, hide ⟨unhide HH, unhide HL, rfl, Kept.refl _ _⟩⟩
  case round =>
    obtain ⟨k, acc, lk, lv', hk, rfl, rfl, hacc, HE, HR⟩ := hrel
    have hacc' : acc < 9223372036854775808 := Nat.lt_of_lt_of_le hacc (by
      have : 128 ^ k ≤ 128 ^ 9 := Nat.pow_le_pow_right (by omega) hk
      exact this)
    cases lk with
    | nil =>
      go_wp2_with (first | (go_at_call 76; refine (next_end (unhide HR).1).mono ?_; rintro e w' ⟨⟨pv, rfl⟩, hq⟩))
      refine ⟨rfl, fun n rest hr => ?_, fun c hr => ?_, ?_⟩
      · rw [← unhide HE] at hr; simp [readNum] at hr
      · rw [← unhide HE] at hr; simp [readNum] at hr
        exact ⟨⟨8, pv, rfl, Or.inl ⟨rfl, hr.symm⟩⟩, lv', [], (unhide HR).1.kept hq.kept (by simp) (by simp)⟩
      · exact (unhide HR).2.2.2.trans hq.kept (by simp)
    | cons x lk =>
      have hx : x < 256 := (unhide HR).2.1 x (by simp)
      have hand := and127 x hx
      have HO : Hid ((k = 9 → x % 128 ≤ 1) → bits .or .u64 (acc : Int) (IntKind.u64.wrap ((x : Int) % 128 * 2 ^ (7 * k))) = ((acc + x % 128 * 128 ^ k : Nat) : Int) ∧ acc + x % 128 * 128 ^ k < 128 ^ (k + 1)) := by
        have e : ((x : Int) % 128) = ((x % 128 : Nat) : Int) := by omega
        rw [e]; exact hide (or_shift k acc (x % 128) hk hacc (by omega))
      clear hacc
      by_cases hA : k = 9 ∧ 1 < x
      · have b1 : ((k : Int) == 9) = true := by rw [beq_iff_eq]; omega
        have b2 : decide (1 < (x : Int)) = true := by simp; omega
        have HA := hide hA
        clear hA
        go_wp2_with (first | (go_at_call 76; refine (next_ok (unhide HR).1).mono ?_; rintro e w' ⟨rfl, lv2, hr2, ho2, hk2⟩) | (go_at_call_of 106 (Value.bool false); refine (refuse_no _ _).mono ?_; rintro e w'' ⟨rfl, rfl⟩) | (go_at_call_of 106 (Value.bool true); refine (refuse_yes _ _).mono ?_; rintro e w'' ⟨rfl, rfl⟩))
        refine ⟨rfl, fun n rest hr => ?_, fun c hr => ?_, ?_⟩
        · rw [← unhide HE, readNum, if_pos (unhide HA)] at hr; cases hr
        · rw [← unhide HE, readNum, if_pos (unhide HA)] at hr; cases hr
          exact ⟨⟨27, _, rfl, Or.inr ⟨rfl, rfl⟩⟩, lv2, lk, hr2⟩
        · exact (unhide HR).2.2.2.trans hk2 (fun y hy => Or.inl hy)
      · have hB : ((k : Int) == 9) = false ∨ (((k : Int) == 9) = true ∧ decide (1 < (x : Int)) = false) := by
          by_cases h9 : k = 9
          · right; exact ⟨by rw [beq_iff_eq]; omega, by simp; omega⟩
          · left; rw [beq_eq_false_iff_ne]; omega
        have HA := hide hA
        have hO := unhide HO (by omega)
        have HO2 := hide hO
        clear hA hO HO
        by_cases hx8 : x < 128
        · by_cases h0 : x = 0 ∧ 0 < k
          · have b3 : ((x : Int) == 0) = true := by rw [beq_iff_eq]; omega
            have b4 : decide (0 < k) = true := by simp; omega
            have H0 := hide h0
            clear h0
            rcases hB with b1 | ⟨b1, b2⟩
            all_goals
              go_wp2_with (first | (go_at_call 76; refine (next_ok (unhide HR).1).mono ?_; rintro e w' ⟨rfl, lv2, hr2, ho2, hk2⟩) | (go_at_call_of 106 (Value.bool false); refine (refuse_no _ _).mono ?_; rintro e w'' ⟨rfl, rfl⟩) | (go_at_call_of 106 (Value.bool true); refine (refuse_yes _ _).mono ?_; rintro e w'' ⟨rfl, rfl⟩))
              refine ⟨rfl, fun n rest hr => ?_, fun c hr => ?_, ?_⟩
              · rw [← unhide HE, readNum, if_neg (unhide HA), if_pos hx8, if_pos (unhide H0)] at hr; cases hr
              · rw [← unhide HE, readNum, if_neg (unhide HA), if_pos hx8, if_pos (unhide H0)] at hr; cases hr
                exact ⟨⟨27, _, rfl, Or.inr ⟨rfl, rfl⟩⟩, lv2, lk, hr2⟩
              · exact (unhide HR).2.2.2.trans hk2 (fun y hy => Or.inl hy)
          · have hC : ((x : Int) == 0) = false ∨ (((x : Int) == 0) = true ∧ decide (0 < k) = false) := by
              by_cases h9 : x = 0
              · right; exact ⟨by rw [beq_iff_eq]; omega, by simp; omega⟩
              · left; rw [beq_eq_false_iff_ne]; omega
            have H0 := hide h0
            clear h0
            rcases hB with b1 | ⟨b1, b2⟩ <;> rcases hC with b3 | ⟨b3, b4⟩
            all_goals
              go_wp2_with (first | (go_at_call 76; refine (next_ok (unhide HR).1).mono ?_; rintro e w' ⟨rfl, lv2, hr2, ho2, hk2⟩) | (go_at_call_of 106 (Value.bool false); refine (refuse_no _ _).mono ?_; rintro e w'' ⟨rfl, rfl⟩) | (go_at_call_of 106 (Value.bool true); refine (refuse_yes _ _).mono ?_; rintro e w'' ⟨rfl, rfl⟩))
              go_ret
              obtain ⟨o1, _⟩ := unhide HO2
              refine ⟨fun n rest hr => ?_, fun c hr => ?_, ?_⟩
              · rw [← unhide HE, readNum, if_neg (unhide HA), if_pos hx8, if_neg (unhide H0)] at hr
                cases hr
                refine ⟨ret_int ?_, lv2, hr2, ho2.trans (unhide HR).2.2.1⟩
                rw [o1, Nat.mod_eq_of_lt hx8]
              · rw [← unhide HE, readNum, if_neg (unhide HA), if_pos hx8, if_neg (unhide H0)] at hr; cases hr
              · exact (unhide HR).2.2.2.trans hk2 (fun y hy => Or.inl hy)
        · have h9b : ((k : Int) == 9) = false := by
            have := unhide HA; rw [beq_eq_false_iff_ne]; omega
          clear hB
          go_wp2_with (first | (go_at_call 76; refine (next_ok (unhide HR).1).mono ?_; rintro e w' ⟨rfl, lv2, hr2, ho2, hk2⟩) | (go_at_call_of 106 (Value.bool false); refine (refuse_no _ _).mono ?_; rintro e w'' ⟨rfl, rfl⟩) | (go_at_call_of 106 (Value.bool true); refine (refuse_yes _ _).mono ?_; rintro e w'' ⟨rfl, rfl⟩))
          obtain ⟨o1, o2⟩ := unhide HO2
          refine ⟨⟨k + 1, acc + x % 128 * 128 ^ k, lk, lv2, by have := unhide HA; omega, by go_num, by rw [o1], o2, ?_, hide ⟨hr2, fun y hy => (unhide HR).2.1 y (by simp [hy]), ho2.trans (unhide HR).2.2.1, (unhide HR).2.2.2.trans hk2 (fun y hy => Or.inl hy)⟩⟩, by have := unhide HA; simp [intOf]; omega⟩
          rw [← unhide HE]
          show _ = _
          rw [readNum, if_neg (unhide HA), if_neg hx8]
end Go.Proofs.Ytocmgfmfalaebaa

/- The reader's take where the reading gives up; Read, Num, Int, Done; same. -/
namespace Go.Proofs.Ytocmgfmfalaebaa
open Go.RowKit

/-- A reader with a fault. -/
def RdF (w : World) (b : Nat) (c : Nat) : Prop := Blk w b #[nilS, nilS, .int .i64 (c : Int)] 83

theorem Blk.set3 {w : World} {b : Nat} {x0 x1 x2 y0 y1 y2 : Value} {t : TypeId} (h : Blk w b #[x0, x1, x2] t) :
    Blk (((w.setCell ⟨b, 0, none⟩ y0).setCell ⟨b, 1, none⟩ y1).setCell ⟨b, 2, none⟩ y2) b #[y0, y1, y2] t := by
  have h1 := h.set 0 y0
  have h2 := h1.set 1 y1
  have h3 := h2.set 2 y2
  simpa using h3

set_option maxRecDepth 100000 in
set_option maxHeartbeats 400000 in
theorem recover_panicking {w : World} (p b : Nat) (lv bv : Value) (l : List Nat) (u : TypeId) (pv : Value) (c : Nat) (hp : w.cell? ⟨p, 0, none⟩ = some (.pointer (some ⟨b, 0, none⟩)))
    (h : Rd w b lv bv l) (hf : (u = 8 ∧ c = 10) ∨ (u = 27 ∧ pv = .int .i64 c)) :
    CallsD Try.prog 73 #[.pointer (some ⟨p, 0, none⟩)] (.panicking [{ v := .iface u pv, recovered := false }]) w fun e u' w' =>
      e = .returned (.tuple #[]) ∧ u' = .panicking [{ v := .iface u pv, recovered := true }] ∧ RdF w' b c ∧ Kept [b] w w' := by
  have hcall : ∀ w, Calls Try.prog 74 #[.iface u pv] w fun e w' => e = .returned (.int .i64 c) ∧ w = w' := by
    intro w
    rcases hf with ⟨rfl, rfl⟩ | ⟨rfl, rfl⟩
    · exact faultOf_bounds pv w
    · exact faultOf_errno c w
  have HC := hide hcall
  obtain ⟨c0, c1, c2⟩ := blk3 h.blk
  have f0 := h.blk.frozen 0
  have f1 := h.blk.frozen 1
  have f2 := h.blk.frozen 2
  clear hcall hf
  refine callsD_of_wpS Try.func73 rfl fun c₀ cs hu => ?_
  apply wpS_seq
  apply wpS_region
  simp [wpOpsS, go_sem, recoverD, hu, Try.ntmps73, Exit.thenS]
  apply wpS_seq
  apply wpS_region
  simp [wpOpsS, go_sem, Exit.thenS, Array.replicate]
  refine wpS_cond (t := true) (by simp [Act.eval]) ?_
  simp only [if_true]
  refine wpS_of_wp ?_
  have HB := hide h
  clear h
  go_region_with (go_at_call 74; refine (unhide HC _).mono ?_; rintro e w' ⟨rfl, rfl⟩)
  all_goals
    simp [bodyPostS, results, Try.results73]
    exact ⟨(unhide HB).blk.set3.kept ((Kept.refl [] _).drew) (by simp), ((((Kept.refl [b] w).setCell (Or.inl (by simp)) _).setCell (Or.inl (by simp)) _).setCell (Or.inl (by simp)) _).drew⟩

set_option maxRecDepth 100000 in
set_option maxHeartbeats 400000 in
/-- take, whatever the reading does: it ends well, or it gives up and the reader has a fault. -/
theorem take_any {w : World} {b g : Nat} {lv bv : Value} {left : List Nat} (h : Rd w b lv bv left) (caps : Array Value) (R : World → Prop) (c : Nat) (F : List Nat) (hen : ∀ w, (callFunc g caps).run Try.prog w = .ok (.enter g caps) w) (hF : w.heap.size ∉ F)
    (hc : Calls Try.prog g caps (w.alloc (.cells #[.pointer (some ⟨b, 0, none⟩)] 59)) fun e w1 => (e = .returned (.tuple #[]) ∧ R w1) ∨ (Faulty e c ∧ (∃ lv' l', Rd w1 b lv' bv l') ∧ Kept F (w.alloc (.cells #[.pointer (some ⟨b, 0, none⟩)] 59)) w1)) :
    Calls Try.prog 53 #[.pointer (some ⟨b, 0, none⟩), .func (.func g) #[] caps] w fun e w' => e = .returned (.tuple #[]) ∧ (R w' ∨ (RdF w' b c ∧ Kept (b :: F) w w')) := by
  have hmf : ∀ (fn : Fn) (first cap : Array Value) (w : World), (Instr.makeFunc fn first cap).run Try.prog w = .ok (.func fn first cap) w := fun _ _ _ _ => rfl
  have hb := h.blk.lt
  have c2' : (w.alloc (.cells #[.pointer (some ⟨b, 0, none⟩)] 59)).cell? ⟨b, 2, none⟩ = some (.int .i64 0) := (blk3 (h.blk.alloc _)).2.2
  have HC := hide hc
  clear h hc
  go_enter_defers Try.func53, Try.ntmps53
  go_wp2_with fail
  refine (unhide HC).mono ?_
  rintro e w1 (⟨rfl, hR⟩ | ⟨⟨u, pv, rfl, hu⟩, ⟨lv', l', hrd⟩, hk⟩)
  · go_wp2
    refine leaves_cons (f := 73) (args := #[.pointer (some ⟨w.heap.size, 0, none⟩)]) (by simp) (by simp [go_sem]) ?_
    refine (recover_idle ⟨w.heap.size, 0, none⟩ _).mono ?_
    rintro e u' w'' ⟨rfl, rfl, rfl⟩
    simp [Leaves, settle, results, Try.results53, go_sem, hR]
  · go_wp2
    refine leaves_cons (f := 73) (args := #[.pointer (some ⟨w.heap.size, 0, none⟩)]) (by simp) (by simp [go_sem]) ?_
    have hp : w1.cell? ⟨w.heap.size, 0, none⟩ = some (.pointer (some ⟨b, 0, none⟩)) := by
      rw [hk.cell (p := ⟨w.heap.size, 0, none⟩) (by simp) hF]; exact blk1 (Blk.new _ _ _)
    refine (recover_panicking w.heap.size b lv' bv l' u pv c hp hrd hu).mono ?_
    rintro e u' w'' ⟨rfl, rfl, h1, h2⟩
    simp [Leaves, settle, results, Try.results53, go_sem]
    right
    refine ⟨h1, ?_⟩
    have k1 : Kept (b :: F) w w1 := ((Kept.refl [] w).alloc _ |>.mono (G := b :: F) (by simp)).trans hk (fun x hx => Or.inl (by simp [hx]))
    exact k1.trans h2 (fun x hx => Or.inl (by simp at hx; simp [hx]))

/-- The face of a call that takes: the reading ends well. q: the variable into which it lays its answer. -/
theorem face_ok {W : World} {b g : Nat} {lv bv : Value} {l : List Nat} (h : Rd W b lv bv l) (caps : Array Value) (hen : ∀ w, (callFunc g caps).run Try.prog w = .ok (.enter g caps) w) (Post : World → World → Prop)
    (hmono : ∀ w3 w', Kept [] W w3 → Post w3 w' → Post W w')
    (hc : ∀ w3, Kept [] W w3 → Calls Try.prog g caps w3 fun e w' => e = .returned (.tuple #[]) ∧ Post w3 w') :
    Calls Try.prog 53 #[.pointer (some ⟨b, 0, none⟩), .func (.func g) #[] caps] W fun e w' => e = .returned (.tuple #[]) ∧ Post W w' := by
  have k0 : Kept [] W (W.alloc (.cells #[.pointer (some ⟨b, 0, none⟩)] 59)) := (Kept.refl _ _).alloc _
  refine take_ok h caps (fun w' => Post W w') hen ?_
  refine (hc _ k0).mono ?_
  rintro e w' ⟨rfl, hp⟩
  exact ⟨rfl, hmono _ _ k0 hp⟩

/-- The face of a call that takes: the reading gives up. -/
theorem face_err {W : World} {b g : Nat} {lv bv : Value} {l : List Nat} (h : Rd W b lv bv l) (caps : Array Value) (c : Nat) (hen : ∀ w, (callFunc g caps).run Try.prog w = .ok (.enter g caps) w)
    (hc : ∀ w3, Kept [] W w3 → Calls Try.prog g caps w3 fun e w' => Faulty e c ∧ (∃ lv' l', Rd w' b lv' bv l') ∧ Kept [b] w3 w') :
    Calls Try.prog 53 #[.pointer (some ⟨b, 0, none⟩), .func (.func g) #[] caps] W fun e w' => e = .returned (.tuple #[]) ∧ RdF w' b c ∧ Kept [b] W w' := by
  have k0 : Kept [] W (W.alloc (.cells #[.pointer (some ⟨b, 0, none⟩)] 59)) := (Kept.refl _ _).alloc _
  have hb := h.blk.lt
  refine (take_any h caps (fun _ => False) c [b] hen (by simp; omega) ?_).mono ?_
  · refine (hc _ k0).mono ?_
    intro e w' hp
    exact Or.inr hp
  · rintro e w' ⟨rfl, hp | ⟨h1, h2⟩⟩
    · exact hp.elim
    · exact ⟨rfl, h1, h2.mono (fun x hx => by simp at hx; exact Or.inl (by simp [hx]))⟩
end Go.Proofs.Ytocmgfmfalaebaa

/- The reader's Num and Int. -/
namespace Go.Proofs.Ytocmgfmfalaebaa
open Go.RowKit

theorem en74 (a : Array Value) (w : World) : (callFunc 100 a).run Try.prog w = .ok (.enter 100 a) w := by kernel_rfl
theorem readNum_lt (l : List Nat) (k acc : Nat) (hk : k ≤ 9) (ha : acc < 128 ^ k) (hl : ∀ x ∈ l, x < 256) {n : Nat} {rest : List Nat} (h : readNum k acc l = .inr (n, rest)) : n < 18446744073709551616 ∧ (∀ x ∈ rest, x < 256) ∧ rest.length < l.length := by
  induction l generalizing k acc with
  | nil => simp [readNum] at h
  | cons x l ih =>
    rw [readNum] at h
    split at h
    · cases h
    · rename_i hA
      split at h
      · split at h
        · cases h
        · simp at h
          obtain ⟨rfl, rfl⟩ := h
          refine ⟨?_, fun y hy => hl y (by simp [hy]), by simp⟩
          by_cases h9 : k = 9
          · subst h9
            have : x ≤ 1 := by omega
            have : x * 128 ^ 9 ≤ 1 * 128 ^ 9 := Nat.mul_le_mul_right _ this
            omega
          · have h1 : x * 128 ^ k ≤ 127 * 128 ^ k := Nat.mul_le_mul_right _ (by omega)
            have h2 : 128 ^ k ≤ 128 ^ 8 := Nat.pow_le_pow_right (by omega) (by omega)
            omega
      · have h9 : k ≠ 9 := by
          intro e; subst e; omega
        have := ih (k + 1) _ (by omega) (or_shift k acc (x % 128) hk ha (by omega) (fun e => absurd e h9)).2 (fun y hy => hl y (by simp [hy])) h
        exact ⟨this.1, this.2.1, by simp; omega⟩

set_option maxRecDepth 100000 in
set_option maxHeartbeats 400000 in
theorem clos_num_ok {w : World} {b : Nat} {lv bv : Value} {l : List Nat} (h : Rd w b lv bv l) (hl : ∀ x ∈ l, x < 256) (p q : Nat) (z : Value) (hp : w.cell? ⟨p, 0, none⟩ = some (.pointer (some ⟨b, 0, none⟩))) (hq : Blk w q #[z] 56) (hqb : q ≠ b) (hql : lv.ownBlock ≠ some q) {n : Nat} {rest : List Nat} (hr : readNum 0 0 l = .inr (n, rest)) :
    Calls Try.prog 100 #[.pointer (some ⟨p, 0, none⟩), .pointer (some ⟨q, 0, none⟩)] w fun e w' => e = .returned (.tuple #[]) ∧ (∃ lv', Rd w' b lv' bv rest ∧ lv'.ownBlock = lv.ownBlock) ∧ Blk w' q #[.int .u64 (n : Nat)] 56 ∧ Kept [b, q] w w' := by
  have HC := hide (number_any h hl)
  have HH := hide h
  have HQ := hide hq
  have HR := hide hr
  clear h hl hq hr
  go_enter Try.func100, Try.ntmps100
  go_wp2_with fail
  refine (unhide HC).mono ?_
  rintro e w1 ⟨g1, _, hk⟩
  obtain ⟨rfl, lv', hrd, ho⟩ := g1 n rest (unhide HR)
  have hq1 : Blk w1 q #[z] 56 := (unhide HQ).kept hk (by simpa using hqb)
  have hc1 := blk1 hq1
  have hf1 := hq1.frozen 0
  have HQ1 := hide hq1
  have HRD := hide hrd
  clear hq1 g1 hrd
  go_wp2
  go_end0
  refine ⟨rfl, ⟨lv', (unhide HRD).kept ((Kept.refl [q] _).setCell (Or.inl (by simp)) _) (by simp; exact fun e => hqb e.symm) (fun x hx => by simp; intro e; subst e; exact hql (by rw [← ho]; exact hx)), ho⟩, ?_, ?_⟩
  · simpa using (unhide HQ1).set 0 _
  · exact (hk.mono (fun x hx => Or.inl (by simp at hx; simp [hx]))).setCell (Or.inl (by simp)) _

set_option maxRecDepth 100000 in
set_option maxHeartbeats 400000 in
theorem clos_num_err {w : World} {b : Nat} {lv bv : Value} {l : List Nat} (h : Rd w b lv bv l) (hl : ∀ x ∈ l, x < 256) (p q : Nat) (hp : w.cell? ⟨p, 0, none⟩ = some (.pointer (some ⟨b, 0, none⟩))) {c : Nat} (hr : readNum 0 0 l = .inl c) :
    Calls Try.prog 100 #[.pointer (some ⟨p, 0, none⟩), .pointer (some ⟨q, 0, none⟩)] w fun e w' => Faulty e c ∧ (∃ lv' l', Rd w' b lv' bv l') ∧ Kept [b] w w' := by
  have HC := hide (number_any h hl)
  have HR := hide hr
  clear h hl hr
  go_enter Try.func100, Try.ntmps100
  go_wp2_with fail
  refine (unhide HC).mono ?_
  rintro e w1 ⟨_, g1, hk⟩
  obtain ⟨⟨u, pv, rfl, hu⟩, hrd⟩ := g1 c (unhide HR)
  clear g1
  go_wp2
  exact ⟨rfl, ⟨u, pv, rfl, hu⟩, hrd, hk⟩

/-- What a face's variable holds behind a reading that ended well. -/
def Taken (b q : Nat) (lv bv : Value) (rest : List Nat) (z : Value) (t : TypeId) (w w' : World) : Prop :=
  (∃ lv', Rd w' b lv' bv rest ∧ lv'.ownBlock = lv.ownBlock) ∧ Blk w' q #[z] t ∧ Kept [b, q] w w'

theorem Taken.mono {b q : Nat} {lv bv : Value} {rest : List Nat} {z : Value} {t : TypeId} {W w3 w' : World} (k : Kept [] W w3) (h : Taken b q lv bv rest z t w3 w') : Taken b q lv bv rest z t W w' :=
  ⟨h.1, h.2.1, (k.mono (by simp)).trans h.2.2 (fun _ hx => Or.inl hx)⟩

theorem rd_lt {w : World} {b : Nat} {lv bv : Value} {l : List Nat} (h : Rd w b lv bv l) : b < w.heap.size ∧ ∀ x, lv.ownBlock = some x → x < w.heap.size := by
  refine ⟨h.blk.lt, fun x hx => ?_⟩
  rcases h.see with ⟨rfl, _⟩ | ⟨bk, off, cap, rfl, _, _, hlt, _⟩
  · cases hx
  · cases hx; exact hlt

set_option maxRecDepth 100000 in
set_option maxHeartbeats 400000 in
theorem rnum_ok {w : World} {b : Nat} {lv bv : Value} {l : List Nat} (h : Rd w b lv bv l) (hl : ∀ x ∈ l, x < 256) {n : Nat} {rest : List Nat} (hr : readNum 0 0 l = .inr (n, rest)) :
    Calls Try.prog 82 #[.pointer (some ⟨b, 0, none⟩)] w fun e w' => e = .returned (.int .u64 (n : Nat)) ∧ (∃ lv', Rd w' b lv' bv rest ∧ lv'.ownBlock = lv.ownBlock) ∧ Kept [b] w w' := by
  have hmf : ∀ (fn : Fn) (first cap : Array Value) (w : World), (Instr.makeFunc fn first cap).run Try.prog w = .ok (.func fn first cap) w := fun _ _ _ _ => rfl
  have hface : Calls Try.prog 53 #[.pointer (some ⟨b, 0, none⟩), .func (.func 100) #[] #[.pointer (some ⟨w.heap.size, 0, none⟩), .pointer (some ⟨w.heap.size + 1, 0, none⟩)]]
      ((w.alloc (.cells #[.pointer (some ⟨b, 0, none⟩)] 59)).alloc (.cells #[.int .u64 0] 56)) fun e w' => e = .returned (.tuple #[]) ∧ Taken b (w.heap.size + 1) lv bv rest (.int .u64 (n : Nat)) 56 ((w.alloc (.cells #[.pointer (some ⟨b, 0, none⟩)] 59)).alloc (.cells #[.int .u64 0] 56)) w' := by
    have h2 := (h.alloc (.cells #[.pointer (some ⟨b, 0, none⟩)] 59)).alloc (.cells #[.int .u64 0] 56)
    obtain ⟨hb, hlo⟩ := rd_lt h
    have b1 : Blk ((w.alloc (.cells #[.pointer (some ⟨b, 0, none⟩)] 59)).alloc (.cells #[.int .u64 0] 56)) w.heap.size #[.pointer (some ⟨b, 0, none⟩)] 59 := (Blk.new _ _ _).alloc _
    have b2 : Blk ((w.alloc (.cells #[.pointer (some ⟨b, 0, none⟩)] 59)).alloc (.cells #[.int .u64 0] 56)) (w.heap.size + 1) #[.int .u64 0] 56 := by
      have := Blk.new (w.alloc (.cells #[.pointer (some ⟨b, 0, none⟩)] 59)) #[.int .u64 0] 56
      simpa using this
    refine face_ok h2 _ (en74 _) (Taken b (w.heap.size + 1) lv bv rest (.int .u64 (n : Nat)) 56) (fun _ _ => Taken.mono) ?_
    intro w3 k3
    exact clos_num_ok (h2.kept k3 (by simp) (by simp)) hl w.heap.size (w.heap.size + 1) _ (blk1 (b1.kept k3 (by simp))) (b2.kept k3 (by simp)) (by omega) (fun e => by have := hlo _ e; omega) hr
  have HF := hide hface
  clear hface h hl hr
  go_enter Try.func82, Try.ntmps82
  go_wp2_with fail
  refine (unhide HF).mono ?_
  rintro e w1 ⟨rfl, hrd, hq, hk⟩
  have hc := blk1 hq
  clear hq
  go_wp2
  go_ret
  refine ⟨rfl, hrd, ?_⟩
  exact ((((Kept.refl [] w).alloc _).alloc _).mono (G := [b]) (by simp)).trans hk (fun x hx => by simp at hx; rcases hx with rfl | rfl; simp; right; omega)
end Go.Proofs.Ytocmgfmfalaebaa

/- The reader's Num where it is refused, its Int, Read, Done, Rest; same. -/
namespace Go.Proofs.Ytocmgfmfalaebaa
open Go.RowKit

set_option maxRecDepth 100000 in
set_option maxHeartbeats 400000 in
theorem rnum_err {w : World} {b : Nat} {lv bv : Value} {l : List Nat} (h : Rd w b lv bv l) (hl : ∀ x ∈ l, x < 256) {c : Nat} (hr : readNum 0 0 l = .inl c) :
    Calls Try.prog 82 #[.pointer (some ⟨b, 0, none⟩)] w fun e w' => e = .returned (.int .u64 0) ∧ RdF w' b c ∧ Kept [b] w w' := by
  have hmf : ∀ (fn : Fn) (first cap : Array Value) (w : World), (Instr.makeFunc fn first cap).run Try.prog w = .ok (.func fn first cap) w := fun _ _ _ _ => rfl
  obtain ⟨hb, hlo⟩ := rd_lt h
  have hface : Calls Try.prog 53 #[.pointer (some ⟨b, 0, none⟩), .func (.func 100) #[] #[.pointer (some ⟨w.heap.size, 0, none⟩), .pointer (some ⟨w.heap.size + 1, 0, none⟩)]]
      ((w.alloc (.cells #[.pointer (some ⟨b, 0, none⟩)] 59)).alloc (.cells #[.int .u64 0] 56)) fun e w' => e = .returned (.tuple #[]) ∧ RdF w' b c ∧ Blk w' (w.heap.size + 1) #[.int .u64 0] 56 ∧ Kept [b] ((w.alloc (.cells #[.pointer (some ⟨b, 0, none⟩)] 59)).alloc (.cells #[.int .u64 0] 56)) w' := by
    have h2 := (h.alloc (.cells #[.pointer (some ⟨b, 0, none⟩)] 59)).alloc (.cells #[.int .u64 0] 56)
    have b1 : Blk ((w.alloc (.cells #[.pointer (some ⟨b, 0, none⟩)] 59)).alloc (.cells #[.int .u64 0] 56)) w.heap.size #[.pointer (some ⟨b, 0, none⟩)] 59 := (Blk.new _ _ _).alloc _
    have b2 : Blk ((w.alloc (.cells #[.pointer (some ⟨b, 0, none⟩)] 59)).alloc (.cells #[.int .u64 0] 56)) (w.heap.size + 1) #[.int .u64 0] 56 := by
      have := Blk.new (w.alloc (.cells #[.pointer (some ⟨b, 0, none⟩)] 59)) #[.int .u64 0] 56
      simpa using this
    refine (face_err h2 _ c (en74 _) ?_).mono ?_
    · intro w3 k3
      exact clos_num_err (h2.kept k3 (by simp) (by simp)) hl w.heap.size (w.heap.size + 1) (blk1 (b1.kept k3 (by simp))) hr
    · rintro e w' ⟨rfl, g1, g2⟩
      exact ⟨rfl, g1, b2.kept g2 (by simp; omega), g2⟩
  have HF := hide hface
  clear hface h hl hr
  go_enter Try.func82, Try.ntmps82
  go_wp2_with fail
  refine (unhide HF).mono ?_
  rintro e w1 ⟨rfl, hrd, hq, hk⟩
  have hc := blk1 hq
  have HR := hide hrd
  clear hq hrd
  go_wp2
  go_ret
  refine ⟨rfl, unhide HR, ?_⟩
  exact ((((Kept.refl [] w).alloc _).alloc _).mono (G := [b]) (by simp)).trans hk (fun x hx => Or.inl hx)

set_option maxRecDepth 100000 in
set_option maxHeartbeats 400000 in
theorem read_any {w : World} {x : Value} {bs : List Nat} (h : Sees w x bs) (hl : bs.length ≤ 140737488355328) :
    Calls Try.prog 36 #[x] w fun e w' => ∃ b lv, e = .returned (.pointer (some ⟨b, 0, none⟩)) ∧ Rd w' b lv nilS bs ∧ w.heap.size ≤ b ∧ (∀ k, lv.ownBlock = some k → w.heap.size ≤ k) ∧ Kept [] w w' := by
  have HC := hide (clone_any h hl)
  clear h
  go_enter Try.func36, Try.ntmps36
  go_wp2_with (first | (go_at_call 48; refine (unhide HC).mono ?_; rintro e w1 ⟨ca, cc, rfl, hfo, hk1⟩))
  go_ret
  have hks := hk1.size
  refine ⟨w1.heap.size, .slice ca bs.length cc, rfl, ⟨Blk.new _ _ _, sees_alloc _ (Sees.of_own hfo), fun e => ?_, hl⟩, hks, fun k hk => (hfo.lt k hk).1, hk1.alloc _⟩
  have := (hfo.lt _ e).2; omega

set_option maxRecDepth 100000 in
set_option maxHeartbeats 400000 in
theorem rdone_ok {w : World} {b : Nat} {lv : Value} {l : List Nat} (h : Rd w b lv nilS l) (c : Nat) (hc : c = if l = [] then 0 else 12) :
    Calls Try.prog 38 #[.pointer (some ⟨b, 0, none⟩)] w fun e w' => e = .returned (.int .i64 c) ∧ w = w' := by
  obtain ⟨c0, c1, c2⟩ := blk3 h.blk
  obtain ⟨a, cap, rfl⟩ := sees_len h.see
  unfold nilS at c1
  have hbl := h.bl
  clear h
  by_cases hl : l = []
  · subst hl
    simp at hc
    subst hc
    go_enter Try.func38, Try.ntmps38
    go_wp2
    go_ret
    exact ⟨rfl, rfl⟩
  · rw [if_neg hl] at hc
    subst hc
    have hp : 0 < l.length := List.length_pos_iff.2 hl
    have hpb : decide (0 < l.length) = true := by simpa using hp
    clear hl
    go_enter Try.func38, Try.ntmps38
    go_wp2
    go_ret
    exact ⟨rfl, rfl⟩

set_option maxRecDepth 100000 in
set_option maxHeartbeats 400000 in
theorem rdone_fault {w : World} {b c : Nat} (h : RdF w b c) (hc : c ≠ 0) :
    Calls Try.prog 38 #[.pointer (some ⟨b, 0, none⟩)] w fun e w' => e = .returned (.int .i64 c) ∧ w = w' := by
  obtain ⟨c0, c1, c2⟩ := blk3 h
  have hn : ((c : Int) != 0) = true := by rw [bne_iff_ne]; omega
  clear hc h
  go_enter Try.func38, Try.ntmps38
  go_wp2
  go_ret
  exact ⟨rfl, rfl⟩

theorem Sees.at {w : World} {xa : Option Addr} {n xc : Nat} {bs : List Nat} (h : Sees w (.slice xa n xc) bs) (k : Nat) (hk : k < bs.length) :
    ∃ b off, xa = some ⟨b, off, none⟩ ∧ w.cell? ⟨b, off + k, none⟩ = some (.int .u8 (bs.getD k 0 : Nat)) := by
  rcases h with ⟨_, h2⟩ | ⟨b, off, cap, hv, _, _, _, hc⟩
  · subst h2; simp at hk
  · cases hv; exact ⟨b, off, rfl, hc k hk⟩

set_option maxRecDepth 100000 in
set_option maxHeartbeats 400000 in
/-- same: are two slices of bytes alike? -/
theorem same_yes {w : World} {x y : Value} {bs : List Nat} (h1 : Sees w x bs) (h2 : Sees w y bs) (hl : bs.length ≤ 140737488355328) :
    Calls Try.prog 16 #[x, y] w fun e w' => e = .returned (.bool true) ∧ ∃ m, w' = w.drewN m := by
  obtain ⟨xa, xc, rfl⟩ := sees_len h1
  obtain ⟨ya, yc, rfl⟩ := sees_len h2
  go_enter Try.func16, Try.ntmps16
  go_wp2
  go_loopw [5] (fun i wr => ∃ k : Nat, k ≤ bs.length ∧ i = .int .i64 k ∧ ∃ m, wr = w.drewN m) (fun i _ => bs.length - (intOf i).toNat)
  case atStart => exact ⟨0, by omega, rfl, 0, rfl⟩
  case round =>
    obtain ⟨k, hk, rfl, m, hq⟩ := hrel
    subst hq
    by_cases hlt : k < bs.length
    · obtain ⟨xb, xo, rfl, hx⟩ := h1.at k hlt
      obtain ⟨yb, yo, rfl, hy⟩ := h2.at k hlt
      generalize bs.getD k 0 = z at hx hy
      clear h1 h2
      go_wp2
      go_quiet (fail)
      go_wp2
      go_roundw
      case rel => exact ⟨k + 1, by omega, by go_num, _, rfl⟩
      case measure => simp [intOf]; omega
    · go_wp2
      go_ret
      exact ⟨rfl, _, rfl⟩
end Go.Proofs.Ytocmgfmfalaebaa

/- Plain facts on forms: two numbers that differ in their lowest bit; a form is read back. -/
namespace Go.Proofs.Ytocmgfmfalaebaa
open Go.RowKit

theorem form_pair (m : Nat) : ∃ x t, x % 2 = 0 ∧ x < 255 ∧ form (2 * m) = x :: t ∧ form (2 * m + 1) = (x + 1) :: t := by
  by_cases h : 2 * m < 128
  · exact ⟨2 * m, [], by omega, by omega, form_small h, form_small (by omega)⟩
  · refine ⟨2 * m % 128 + 128, form (2 * m / 128), by omega, by omega, form_big (by omega), ?_⟩
    rw [form_big (by omega), show (2 * m + 1) % 128 + 128 = 2 * m % 128 + 128 + 1 by omega, show (2 * m + 1) / 128 = 2 * m / 128 by omega]

theorem xor_one (x : Nat) (h : x < 256) : bits .xor .u8 (x : Int) 1 = ((if x % 2 = 0 then x + 1 else x - 1 : Nat) : Int) := by
  have := u8_xor_nat x 1 h (by omega)
  rw [show ((1 : Nat) : Int) = 1 from rfl] at this
  rw [this]
  have : ∀ m, m < 256 → m ^^^ 1 = (if m % 2 = 0 then m + 1 else m - 1) := by decide +kernel
  rw [this x h]

theorem read_form (n : Nat) : ∀ (k acc : Nat) (rest : List Nat), k ≤ 9 → (k = 9 → n ≤ 1) → (0 < k → 0 < n) → n * 128 ^ k < 18446744073709551616 → readNum k acc (form n ++ rest) = .inr (acc + n * 128 ^ k, rest) := by
  induction n using Nat.strongRecOn with
  | _ n ih =>
    intro k acc rest hk h9 h0 hb
    by_cases h : n < 128
    · rw [form_small h]
      show readNum k acc (n :: rest) = _
      rw [readNum, if_neg (by omega), if_pos h, if_neg (by omega)]
    · rw [form_big (by omega)]
      show readNum k acc ((n % 128 + 128) :: (form (n / 128) ++ rest)) = _
      have hk8 : k ≠ 9 := by intro e; have := h9 e; omega
      rw [readNum, if_neg (by omega), if_neg (by omega)]
      have e1 : n / 128 * 128 ^ (k + 1) + n % 128 * 128 ^ k = n * 128 ^ k := by
        rw [Nat.pow_succ, ← Nat.mul_assoc, Nat.mul_right_comm, ← Nat.add_mul]
        congr 1; omega
      rw [ih (n / 128) (by omega) (k + 1) _ rest (by omega) ?_ (by omega) (by omega)]
      · congr 2
        rw [show (n % 128 + 128) % 128 = n % 128 by omega]; omega
      · intro e9
        have e3 : n / 128 * 128 ^ (k + 1) < 18446744073709551616 := by omega
        have e8 : 128 ^ (k + 1) = 9223372036854775808 := by rw [e9]
        rw [e8] at e3
        clear e1 hb
        omega

theorem read_form0 (n : Nat) (rest : List Nat) (h : n < 18446744073709551616) : readNum 0 0 (form n ++ rest) = .inr (n, rest) := by
  have := read_form n 0 0 rest (by omega) (by omega) (by omega) (by simpa using h)
  simpa using this

/-- A piece of a slice of bytes. -/
theorem Sees.part {w : World} {b off n cap : Nat} {bs : List Nat} (h : Sees w (.slice (some ⟨b, off, none⟩) n cap) bs) (lo m off' cap' : Nat) (hlo : lo + m ≤ bs.length) (hc : m ≤ cap') (hc2 : cap' ≤ cap) (ho : off' = off + lo ∨ m = 0) :
    Sees w (.slice (some ⟨b, off', none⟩) m cap') ((bs.drop lo).take m) := by
  rcases h with ⟨h1, _⟩ | ⟨b', off2, cap2, hv, h1, h2, h3, h4⟩
  · cases h1
  · cases hv
    have hl : ((bs.drop lo).take m).length = m := by simp; omega
    refine Or.inr ⟨b, off', cap', by rw [hl], by omega, by omega, h3, fun j hj => ?_⟩
    rw [hl] at hj
    rcases ho with rfl | rfl
    · have := h4 (lo + j) (by omega)
      rw [show off + lo + j = off + (lo + j) by omega, this]
      simp [hj]
    · omega
end Go.Proofs.Ytocmgfmfalaebaa

/- Plain facts on forms: their groups, their ends, their beginnings. -/
namespace Go.Proofs.Ytocmgfmfalaebaa
open Go.RowKit

theorem form_drop (n k : Nat) (h : k < (form n).length) : (form n).drop k = form (n / 128 ^ k) := by
  induction k generalizing n with
  | zero => simp
  | succ k ih =>
    by_cases hn : n < 128
    · rw [form_small hn] at h; simp at h
    · rw [form_big (by omega)] at h ⊢
      simp at h
      rw [List.drop_succ_cons, ih _ (by omega), Nat.div_div_eq_div_mul, Nat.pow_succ, Nat.mul_comm 128]

theorem form_end (n : Nat) : n / 128 ^ (form n).length = 0 := by
  induction n using Nat.strongRecOn with
  | _ n ih =>
    by_cases hn : n < 128
    · rw [form_small hn]; simp; omega
    · rw [form_big (by omega)]
      have := ih (n / 128) (by omega)
      rw [List.length_cons, Nat.pow_succ, Nat.mul_comm, ← Nat.div_div_eq_div_mul]
      exact this

/-- The k-th byte, where it is the last one. -/
theorem form_at_last (n k : Nat) (h : k < (form n).length) (hx : n / 128 ^ k < 128) : (form n).getD k 0 = n / 128 ^ k ∧ k + 1 = (form n).length := by
  have e := form_drop n k h
  rw [form_small hx] at e
  have hl := congrArg List.length e
  simp at hl
  refine ⟨?_, by omega⟩
  have := congrArg (fun l => l.getD 0 0) e
  simpa using this

theorem form_at_more (n k : Nat) (h : k < (form n).length) (hx : ¬ n / 128 ^ k < 128) : (form n).getD k 0 = n / 128 ^ k % 128 + 128 ∧ k + 1 < (form n).length := by
  have e := form_drop n k h
  rw [form_big (n := n / 128 ^ k) (by omega)] at e
  have hl := congrArg List.length e
  have hp := form_pos (n / 128 ^ k / 128)
  simp at hl
  refine ⟨?_, by omega⟩
  have := congrArg (fun l => l.getD 0 0) e
  simpa using this

theorem form_last (n : Nat) (h : 1 < (form n).length) : (form n).getD ((form n).length - 1) 0 ≠ 0 := by
  have h1 : (form n).length - 1 < (form n).length := by omega
  by_cases hx : n / 128 ^ ((form n).length - 1) < 128
  · rw [(form_at_last n _ h1 hx).1]
    intro h0
    have h2 : (form n).length - 2 < (form n).length := by omega
    have hy : ¬ n / 128 ^ ((form n).length - 2) < 128 := by
      intro hy
      have := (form_at_last n _ h2 hy).2; omega
    have e : n / 128 ^ ((form n).length - 1) = n / 128 ^ ((form n).length - 2) / 128 := by
      rw [Nat.div_div_eq_div_mul, ← Nat.pow_succ]; congr 2; omega
    rw [e] at h0
    omega
  · have := (form_at_more n _ h1 hx).2; omega

theorem form_get_lt (n k : Nat) (h : k < (form n).length) : (form n).getD k 0 < 256 := by
  refine form_byte n _ ?_
  simp only [List.getD, List.getElem?_eq_getElem h, Option.getD_some]
  exact List.getElem_mem h

theorem read_short (n : Nat) : ∀ (k acc i : Nat), k ≤ 9 → (k = 9 → n ≤ 1) → n * 128 ^ k < 18446744073709551616 → i < (form n).length → readNum k acc ((form n).take i) = .inl 10 := by
  induction n using Nat.strongRecOn with
  | _ n ih =>
    intro k acc i hk h9 hb hi
    by_cases h : n < 128
    · rw [form_small h] at hi ⊢
      have : i = 0 := by simp at hi; exact hi
      subst this; rfl
    · rw [form_big (by omega)] at hi ⊢
      cases i with
      | zero => rfl
      | succ i =>
        simp at hi
        have hk8 : k ≠ 9 := by intro e; have := h9 e; omega
        show readNum k acc ((n % 128 + 128) :: (form (n / 128)).take i) = _
        rw [readNum, if_neg (by omega), if_neg (by omega)]
        have e1 : n / 128 * 128 ^ (k + 1) + n % 128 * 128 ^ k = n * 128 ^ k := by
          rw [Nat.pow_succ, ← Nat.mul_assoc, Nat.mul_right_comm, ← Nat.add_mul]
          congr 1; omega
        refine ih (n / 128) (by omega) (k + 1) _ i (by omega) ?_ (by omega) (by omega)
        intro e9
        have e3 : n / 128 * 128 ^ (k + 1) < 18446744073709551616 := by omega
        have e8 : 128 ^ (k + 1) = 9223372036854775808 := by rw [e9]
        rw [e8] at e3
        clear e1 hb
        omega

theorem read_short0 (n i : Nat) (h : n < 18446744073709551616) (hi : i < (form n).length) : readNum 0 0 ((form n).take i) = .inl 10 :=
  read_short n 0 0 i (by omega) (by omega) (by simpa using h) hi
end Go.Proofs.Ytocmgfmfalaebaa

/- The reader's cut. -/
namespace Go.Proofs.Ytocmgfmfalaebaa
open Go.RowKit

theorem Sees.cap_of {w : World} {xa : Option Addr} {n xc : Nat} {bs : List Nat} (h : Sees w (.slice xa n xc) bs) : n = bs.length ∧ n ≤ xc ∧ xc ≤ maxLen := by
  rcases h with ⟨h1, h2⟩ | ⟨b, off, cap, hv, h1, h2, _⟩
  · cases h1; subst h2; exact ⟨rfl, Nat.le_refl _, Nat.zero_le _⟩
  · cases hv; exact ⟨rfl, h1, h2⟩

theorem cut_post {w : World} {b : Nat} {bv : Value} {l : List Nat} {bk off cap n off' : Nat} (h : Rd w b (.slice (some ⟨bk, off, none⟩) l.length cap) bv l) (hn : n ≤ l.length) (ho : off' = off + n ∨ cap = n) :
    Sees (w.setCell ⟨b, 0, none⟩ (.slice (some ⟨bk, off', none⟩) (l.length - n) (cap - n))) (.slice (some ⟨bk, off, none⟩) n cap) (l.take n) ∧
      Rd (w.setCell ⟨b, 0, none⟩ (.slice (some ⟨bk, off', none⟩) (l.length - n) (cap - n))) b (.slice (some ⟨bk, off', none⟩) (l.length - n) (cap - n)) bv (l.drop n) := by
  obtain ⟨_, hcap, _⟩ := h.see.cap_of
  have hbk : bk ≠ b := fun e => h.n1 (by rw [← e]; rfl)
  have kk := (Kept.refl [b] w).setCell (p := ⟨b, 0, none⟩) (Or.inl (by simp)) (.slice (some ⟨bk, off', none⟩) (l.length - n) (cap - n))
  have s1 := h.see.kept kk (fun k hk => by cases hk; simp; exact hbk)
  constructor
  · have := s1.part 0 n off cap (by omega) (by omega) (by omega) (Or.inl rfl)
    simpa using this
  · refine ⟨by simpa using h.blk.set 0 (.slice (some ⟨bk, off', none⟩) (l.length - n) (cap - n)), ?_, h.n1, by have := h.bl; simp; omega⟩
    have := s1.part n (l.length - n) off' (cap - n) (by omega) (by omega) (by omega) (by omega)
    rwa [List.take_of_length_le (by simp)] at this

set_option maxRecDepth 100000 in
set_option maxHeartbeats 400000 in
theorem cut_ok {w : World} {b : Nat} {lv bv : Value} {l : List Nat} (h : Rd w b lv bv l) (n : Nat) (hn : n ≤ l.length) :
    Calls Try.prog 107 #[.pointer (some ⟨b, 0, none⟩), .int .u64 n] w fun e w' => ∃ a cap, e = .returned (.slice a n cap) ∧ Sees w' (.slice a n cap) (l.take n) ∧ (Value.slice a n cap).ownBlock = lv.ownBlock ∧ ∃ lv', Rd w' b lv' bv (l.drop n) ∧ lv'.ownBlock = lv.ownBlock ∧ Kept [b] w w' := by
  obtain ⟨c0, c1, c2⟩ := blk3 h.blk
  have f0 := h.blk.frozen 0
  have hbl := h.bl
  obtain ⟨a, cap, rfl⟩ := sees_len h.see
  obtain ⟨_, hcap, hmx⟩ := h.see.cap_of
  unfold maxLen at hmx
  have kk := fun u => (Kept.refl [b] w).setCell (p := ⟨b, 0, none⟩) (Or.inl (by simp)) u
  cases a with
  | none =>
    have hl0 : l = [] := by
      rcases h.see with ⟨h1, h2⟩ | ⟨_, _, _, hv, _⟩
      · exact h2
      · cases hv
    subst hl0
    have hn0 : n = 0 := by simpa using hn
    subst hn0
    have hc0 : cap = 0 := by
      rcases h.see with ⟨h1, h2⟩ | ⟨_, _, _, hv, _⟩
      · cases h1; rfl
      · cases hv
    subst hc0
    have HH := hide h
    have HK := hide kk
    clear h kk
    go_enter Try.func107, Try.ntmps107
    go_wp2
    go_ret
    refine ⟨none, 0, rfl, Or.inl ⟨rfl, rfl⟩, rfl, .slice none 0 0, ⟨?_, Or.inl ⟨rfl, rfl⟩, by simp [Value.ownBlock], by simp⟩, rfl, unhide HK _⟩
    simpa using (unhide HH).blk.set 0 (.slice none 0 0)
  | some ad =>
    obtain ⟨bk, off, rfl⟩ : ∃ bk off, ad = ⟨bk, off, none⟩ := by
      rcases h.see with ⟨h1, h2⟩ | ⟨bk, off, _, hv, _⟩
      · cases h1
      · cases hv; exact ⟨_, _, rfl⟩
    have hbk : bk ≠ b := fun e => h.n1 (by rw [← e]; rfl)
    have hbkl : bk < w.heap.size := (rd_lt h).2 bk rfl
    have j1 : (n : Int) ≤ (l.length : Int) := by omega
    have j2 : (n : Int) ≤ (cap : Int) := by omega
    have HH := hide h
    have HK := hide kk
    by_cases hcn : cap = n
    · subst hcn
      have hln : l.length = cap := by omega
      clear h kk
      have HP := hide (cut_post (off' := off) (n := cap) (unhide HH) (by omega) (Or.inr rfl))
      go_enter Try.func107, Try.ntmps107
      go_wp2
      go_ret
      have hp := unhide HP
      rw [hln, Nat.sub_self] at hp
      exact ⟨some ⟨bk, off, none⟩, cap, rfl, hp.1, rfl, _, hp.2, rfl, unhide HK _⟩
    · clear h kk
      have HP := hide (cut_post (off' := off + n) (n := n) (unhide HH) (by omega) (Or.inl rfl))
      have hcn' : ¬ cap - n = 0 := by omega
      go_enter Try.func107, Try.ntmps107
      go_wp2
      go_ret
      exact ⟨some ⟨bk, off, none⟩, cap, rfl, (unhide HP).1, rfl, _, (unhide HP).2, rfl, unhide HK _⟩

theorem run_slice_from_out_q {P : Program} (w : World) (t e : TypeId) (a : Option Addr) (len cap : Nat) (k : IntKind) (l : Int) (h : P.underlying t = some (.slice e)) (ho : l < 0 ∨ (len : Int) < l) :
    ∃ s w', (Instr.slice t (.slice a len cap) (some (.int k l)) none none).run P w = .halt (.panic (boundsValue P (IntKind.i64.wrap l) len s 3)) w' ∧ Quiet w w' := by
  have hn : ¬ (0 ≤ l ∧ l ≤ (len : Int)) := by omega
  obtain ⟨s, w', e1, hq⟩ := run_boundsPanic_q (P := P) (α := Nat) w k l len .sliceB
  have e2 : (Instr.sliceBound (.int k l) len .sliceB).run P w = .halt (.panic (boundsValue P (IntKind.i64.wrap l) len s BoundsCode.sliceB.toNat)) w' := by
    rw [← e1]
    simp [Instr.sliceBound, asIntOf, hn, go_sem]
  refine ⟨s, w', run_slice_of_bounds (w := w) t e a len cap _ _ _ h ?_, hq⟩
  have e3 : (3 : Nat) = BoundsCode.sliceB.toNat := rfl
  rw [e3]
  simp only [Instr.sliceBounds]
  simp [e2]

set_option maxRecDepth 100000 in
set_option maxHeartbeats 400000 in
theorem cut_end {w : World} {b : Nat} {lv bv : Value} {l : List Nat} (h : Rd w b lv bv l) (n : Nat) (hn : ¬ n ≤ l.length) :
    Calls Try.prog 107 #[.pointer (some ⟨b, 0, none⟩), .int .u64 n] w fun e w' => (∃ pv, e = .panicked [{ v := .iface 8 pv, recovered := false }]) ∧ Quiet w w' := by
  obtain ⟨c0, c1, c2⟩ := blk3 h.blk
  obtain ⟨a, cap, rfl⟩ := sees_len h.see
  obtain ⟨s, w1, hrun, hq⟩ := run_slice_from_out_q (P := Try.prog) w 22 5 a l.length cap .u64 n Try.underlying22 (by omega)
  unfold boundsValue at hrun
  rw [Try.rtb] at hrun
  clear h
  go_enter Try.func107, Try.ntmps107
  go_wp2
  exact ⟨rfl, ⟨_, rfl⟩, hq⟩
end Go.Proofs.Ytocmgfmfalaebaa

/- The writer where there is no room; num. -/
namespace Go.Proofs.Ytocmgfmfalaebaa
open Go.RowKit

def failWS (c : Nat) : WS := ⟨0, [], [], c⟩

theorem Blk.set4 {w : World} {b : Nat} {x0 x1 x2 x3 y0 y1 y2 y3 : Value} {t : TypeId} (h : Blk w b #[x0, x1, x2, x3] t) :
    Blk ((((w.setCell ⟨b, 0, none⟩ y0).setCell ⟨b, 1, none⟩ y1).setCell ⟨b, 2, none⟩ y2).setCell ⟨b, 3, none⟩ y3) b #[y0, y1, y2, y3] t := by
  have h3 := (((h.set 0 y0).set 1 y1).set 2 y2).set 3 y3
  simpa using h3

theorem failWr {w : World} {b : Nat} (c : Nat) (hc : c < 1000) (h : Blk w b #[.int .i64 0, .slice none 0 0, .slice none 0 0, .int .i64 c] 78) : Wr w b (failWS c) nilS nilS :=
  ⟨h, World.ownsRow_nil _ _ _ _, World.ownsRow_nil _ _ _ _, by simp [nilS, Value.ownBlock], by simp [nilS, Value.ownBlock], by simp [nilS, Value.ownBlock], by simp [failWS], by simp [failWS], by simp [failWS], hc⟩

set_option maxRecDepth 100000 in
set_option maxHeartbeats 400000 in
theorem fail_do {w : World} {b : Nat} {s : WS} {v sv : Value} (h : Wr w b s v sv) (hf : s.fault = 0) (c : Nat) (hc : c < 1000) :
    Calls Try.prog 69 #[.pointer (some ⟨b, 0, none⟩), .int .i64 c] w fun e w' => e = .returned (.tuple #[]) ∧ Wr w' b (failWS c) nilS nilS ∧ Kept [b] w w' := by
  obtain ⟨c0, c1, c2, c3⟩ := blk4 h.blk
  have f0 := h.blk.frozen 0
  have f1 := h.blk.frozen 1
  have f2 := h.blk.frozen 2
  have f3 := h.blk.frozen 3
  have HH := hide h
  clear h
  go_enter Try.func69, Try.ntmps69
  go_wp2_with (first | (go_at_call 49; refine (fails_no (unhide HH) hf).mono ?_; rintro e w' ⟨rfl, rfl⟩))
  go_end0
  exact ⟨rfl, failWr c hc (unhide HH).blk.set4, ((((Kept.refl [b] w).setCell (Or.inl (by simp)) _).setCell (Or.inl (by simp)) _).setCell (Or.inl (by simp)) _).setCell (Or.inl (by simp)) _⟩

set_option maxRecDepth 100000 in
set_option maxHeartbeats 400000 in
theorem fail_not {w : World} {b : Nat} {s : WS} {v sv : Value} (h : Wr w b s v sv) (hf : s.fault ≠ 0) (c : Nat) :
    Calls Try.prog 69 #[.pointer (some ⟨b, 0, none⟩), .int .i64 c] w fun e w' => e = .returned (.tuple #[]) ∧ w = w' := by
  have HH := hide h
  clear h
  go_enter Try.func69, Try.ntmps69
  go_wp2_with (first | (go_at_call 49; refine (fails_yes (unhide HH) hf).mono ?_; rintro e w' ⟨rfl, rfl⟩))
  go_end0
  exact ⟨rfl, rfl⟩

set_option maxRecDepth 100000 in
set_option maxHeartbeats 1000000 in
/-- lay where there is no room. -/
theorem lay_nofit {w : World} {b : Nat} {s : WS} {v sv : Value} (h : Wr w b s v sv) (hf : s.fault = 0) (pb pc : Nat) (ps : List (Value × List Nat))
    (hpb : Blk w pb (ps.map (·.1)).toArray 22) (hps : ∀ p, p ∈ ps → Sees w p.1 p.2)
    (hl : s.bs.length + (cat ps).length ≤ 70368744177664) (hn : ps.length < 1000) (hroom : ¬ s.bs.length + (cat ps).length ≤ s.room) :
    Calls Try.prog 70 #[.pointer (some ⟨b, 0, none⟩), .slice (some ⟨pb, 0, none⟩) ps.length pc] w fun e w' => e = .returned (.tuple #[]) ∧ Wr w' b (failWS 13) nilS nilS ∧ Kept [b] w w' := by
  have HH := hide h
  have HPS := hide hps
  have HPB := hide hpb
  clear h hps hpb
  have hnn : (0 : Int) ≤ (ps.length : Int) := by omega
  go_enter Try.func70, Try.ntmps70
  go_wp2_with (first | (go_at_call 49; refine (fails_no (unhide HH) hf).mono ?_; rintro e w' ⟨rfl, rfl⟩))
  go_loop [4, 13] (fun sz i => ∃ k : Nat, k ≤ ps.length ∧ i = .int .i64 k ∧ sz = .int .i64 ((cat (ps.take k)).length : Nat)) (fun _ i => ps.length - (intOf i).toNat)
  case atStart => exact ⟨0, by omega, rfl, rfl⟩
  case round =>
    obtain ⟨k, hk, rfl, rfl⟩ := hrel
    have hle := cat_take_le ps k
    by_cases hlt : k < ps.length
    · have hce : w.cell? ⟨pb, k, none⟩ = some (ps[k].1) := by rw [(unhide HPB).cell]; simp [hlt]
      obtain ⟨a, cap, hv⟩ := sees_len ((unhide HPS) ps[k] (List.getElem_mem hlt))
      have ht : (cat (ps.take (k + 1))).length = (cat (ps.take k)).length + ps[k].2.length := by rw [cat_take ps k hlt]; simp
      have hle2 := cat_take_le ps (k + 1)
      have HT := hide ht
      clear ht
      rw [hv] at hce
      have hle3 : (cat (ps.take k)).length + ps[k].2.length ≤ (cat ps).length := by rw [← unhide HT]; exact hle2
      clear hle2
      clear hv
      go_wp2
      go_round
      case rel => exact ⟨k + 1, by omega, by go_num, by rw [unhide HT]; go_num⟩
      case measure => simp [intOf]; omega
    · have hkl : k = ps.length := by omega
      subst hkl
      rw [List.take_length]
      clear hle hk hlt
      have HRM := hide hroom
      clear hroom
      go_wp2_with (first | (go_at_call 97; refine (hasRoom_any (unhide HH) _ (by omega) false (by simpa using unhide HRM)).mono ?_; rintro e w1 ⟨rfl, hq⟩) | (go_at_call 69; refine (fail_do ((unhide HH).quiet hq) hf 13 (by omega)).mono ?_; rintro e w2 ⟨rfl, hw2, hk2⟩))
      refine bodyPost_ret (results_none rfl _ _ _) rfl ?_
      exact ⟨rfl, hw2, (hq.kept.mono (by simp)).trans hk2 (fun x hx => Or.inl hx)⟩

theorem lay_one_nofit {w w1 : World} {b : Nat} {s : WS} {v sv : Value} (h : Wr w b s v sv) (hf : s.fault = 0) (fv : Value) (fs : List Nat)
    (hfo : w1.ownsRow w.heap.size 5 1 fv fs.length (u8s fs)) (hk1 : Kept [] w w1)
    (hl : s.bs.length + fs.length ≤ 70368744177664) (hroom : ¬ s.bs.length + fs.length ≤ s.room) :
    Calls Try.prog 70 #[.pointer (some ⟨b, 0, none⟩), .slice (some ⟨w1.heap.size, 0, none⟩) 1 1] (w1.alloc (.cells #[fv] 22)) fun e w' => e = .returned (.tuple #[]) ∧ Wr w' b (failWS 13) nilS nilS ∧ Kept [b] w w' := by
  have ec : cat [(fv, fs)] = fs := by simp [cat]
  have h1 : Wr (w1.alloc (.cells #[fv] 22)) b s v sv := (h.kept hk1 (by simp)).alloc _
  refine (lay_nofit h1 hf w1.heap.size 1 [(fv, fs)] (Blk.new _ _ _) ?_ (by rw [ec]; exact hl) (by simp) (by rw [ec]; exact hroom)).mono ?_
  · intro p hp
    simp at hp; subst hp
    exact sees_alloc _ (Sees.of_own hfo)
  · rintro e w' ⟨rfl, hw, hk⟩
    exact ⟨rfl, hw, (hk1.alloc _).mono (by simp) |>.trans hk (fun x hx => Or.inl hx)⟩

set_option maxRecDepth 100000 in
set_option maxHeartbeats 400000 in
theorem wnum_nofit {w : World} {b : Nat} {s : WS} {v sv : Value} (h : Wr w b s v sv) (hf : s.fault = 0) (n : Nat) (hn : n < 18446744073709551616) (hl : s.bs.length ≤ 1000000000000) (hroom : ¬ s.bs.length + (form n).length ≤ s.room) :
    Calls Try.prog 80 #[.pointer (some ⟨b, 0, none⟩), .int .u64 n] w fun e w' => e = .returned (.tuple #[]) ∧ Wr w' b (failWS 13) nilS nilS ∧ Kept [b] w w' := by
  have HH := hide h
  have HR := hide hroom
  clear h hroom
  have h10 := form_le10 n hn
  go_enter Try.func80, Try.ntmps80
  go_wp2_with (first | (go_at_call 99; refine (form_any' n _ hn).mono ?_; rintro e w1 ⟨fa, fc, rfl, hfo, hk1⟩) | (go_at_call 70; refine (lay_one_nofit (unhide HH) hf _ _ hfo hk1 (by omega) (unhide HR)).mono ?_; rintro e w2 ⟨rfl, HX⟩))
  go_end0
  exact ⟨rfl, HX⟩

set_option maxRecDepth 100000 in
set_option maxHeartbeats 400000 in
theorem wdone_fault {w : World} {b : Nat} {s : WS} {v sv : Value} (h : Wr w b s v sv) (hf : s.fault ≠ 0) :
    Calls Try.prog 30 #[.pointer (some ⟨b, 0, none⟩)] w fun e w' => e = .returned (.tuple #[.slice none 0 0, .int .i64 (s.fault : Int)]) ∧ ∃ m, w' = w.drewN m := by
  obtain ⟨c0, c1, c2, c3⟩ := blk4 h.blk
  have hn : ((s.fault : Int) != 0) = true := by rw [bne_iff_ne]; omega
  clear h hf
  go_enter Try.func30, Try.ntmps30
  go_wp2
  go_quiet (fail)
  go_wp2
  go_ret2
  exact ⟨rfl, _, rfl⟩

end Go.Proofs.Ytocmgfmfalaebaa

/- Real numbers as their bits: the writer's Real. -/
namespace Go.Proofs.Ytocmgfmfalaebaa
open Go.RowKit

/-- Is it a NaN? (A number that is unlike itself.) -/
def nanB (n : Nat) : Bool := FloatKind.f64.format.order n n != some .eq
def oneNaN : Nat := 9221120237041090560
theorem nan_one : nanB oneNaN = true := by decide +kernel
def canon (n : Nat) : Nat := if nanB n then oneNaN else n
def be8 (m : Nat) : List Nat := [m / 72057594037927936, m / 281474976710656 % 256, m / 1099511627776 % 256, m / 4294967296 % 256, m / 16777216 % 256, m / 65536 % 256, m / 256 % 256, m % 256]

/-- Eight bytes as cells, written out. -/
def cells8 (x0 x1 x2 x3 x4 x5 x6 x7 : Nat) : Array Value := #[.int .u8 x0, .int .u8 x1, .int .u8 x2, .int .u8 x3, .int .u8 x4, .int .u8 x5, .int .u8 x6, .int .u8 x7]

/-- lay with one part of new memory that reads as bytes. -/
theorem lay_one_sees {w w1 : World} {b : Nat} {s : WS} {v sv : Value} (h : Wr w b s v sv) (hf : s.fault = 0) (fv : Value) (fs : List Nat)
    (hfo : Sees w1 fv fs) (hfn : ∀ k, fv.ownBlock = some k → w.heap.size ≤ k) (hk1 : Kept [] w w1)
    (hl : s.bs.length + fs.length ≤ 70368744177664) (hroom : s.bs.length + fs.length ≤ s.room) :
    Calls Try.prog 70 #[.pointer (some ⟨b, 0, none⟩), .slice (some ⟨w1.heap.size, 0, none⟩) 1 1] (w1.alloc (.cells #[fv] 22)) fun e w' => e = .returned (.tuple #[]) ∧
      ∃ v', Wr w' b { s with bs := s.bs ++ fs } v' sv ∧ Kept (foot b v sv) w w' ∧ ∀ x, x ∈ foot b v' sv → x ∈ foot b v sv ∨ w.heap.size ≤ x := by
  have hfl := foot_lt h
  have hks := hk1.size
  have ec : cat [(fv, fs)] = fs := by simp [cat]
  have h1 : Wr (w1.alloc (.cells #[fv] 22)) b s v sv := (h.kept hk1 (by simp)).alloc _
  refine (lay_fits h1 hf w1.heap.size 1 [(fv, fs)] (Blk.new _ _ _) (fun hm => by have := hfl _ hm; omega) ?_ (by rw [ec]; exact hl) (by simp) (by rw [ec]; exact hroom)).mono ?_
  · intro p hp
    simp at hp; subst hp
    refine ⟨sees_alloc _ hfo, fun k hk hm => ?_⟩
    have := hfl _ hm; have := hfn k hk; omega
  · rintro e w' ⟨rfl, v', hw, hk, hx⟩
    rw [ec] at hw
    refine ⟨rfl, v', hw, (hk1.alloc _).mono (by simp) |>.trans hk (fun x hx => Or.inl hx), fun x hxx => ?_⟩
    rcases hx x hxx with h2 | h2
    · exact Or.inl h2
    · right; simp at h2; omega

theorem sees8 (w : World) (x0 x1 x2 x3 x4 x5 x6 x7 : Nat) (t : TypeId) : Sees (w.alloc (.cells #[.int .u8 x0, .int .u8 x1, .int .u8 x2, .int .u8 x3, .int .u8 x4, .int .u8 x5, .int .u8 x6, .int .u8 x7] t)) (.slice (some ⟨w.heap.size, 0, none⟩) 8 8) [x0, x1, x2, x3, x4, x5, x6, x7] := by
  refine Or.inr ⟨w.heap.size, 0, 8, rfl, by simp, by unfold maxLen; omega, by simp, fun j hj => ?_⟩
  have b := Blk.new w #[.int .u8 x0, .int .u8 x1, .int .u8 x2, .int .u8 x3, .int .u8 x4, .int .u8 x5, .int .u8 x6, .int .u8 x7] t
  rw [b.cell]
  simp at hj
  match j, hj with
  | 0, _ => rfl
  | 1, _ => rfl
  | 2, _ => rfl
  | 3, _ => rfl
  | 4, _ => rfl
  | 5, _ => rfl
  | 6, _ => rfl
  | 7, _ => rfl

end Go.Proofs.Ytocmgfmfalaebaa

/- The reader's Real. -/
namespace Go.Proofs.Ytocmgfmfalaebaa
open Go.RowKit

/-- The number that eight bytes are, the highest first. -/
def of8 : List Nat → Nat := fun l => l.foldl (fun n b => n * 256 + b) 0

theorem be8_of8 (m : Nat) (h : m < 18446744073709551616) : of8 (be8 m) = m := by
  unfold of8 be8; simp only [List.foldl]; omega
theorem be8_lt (m : Nat) (h : m < 18446744073709551616) : ∀ x ∈ be8 m, x < 256 := by
  unfold be8; intro x hx; simp at hx; omega

theorem or_low (n x : Nat) (hx : x < 256) (hn : n < 72057594037927936) : bits .or .u64 (IntKind.u64.wrap ((n : Int) * 256)) (x : Int) = ((n * 256 + x : Nat) : Int) := by
  have e : IntKind.u64.wrap ((n : Int) * 256) = ((n * 256 : Nat) : Int) := by rw [IntKind.wrap_u64]; omega
  rw [e, u64_or_nat _ _ (by omega) (by omega)]
  have := Nat.two_pow_add_eq_or_of_lt (i := 8) (b := x) (by omega) n
  rw [Nat.mul_comm n 256, show (256 : Nat) = 2 ^ 8 from rfl, ← this]

end Go.Proofs.Ytocmgfmfalaebaa

/- The widths of the unsigned kinds; the reader's Byte and Rest. -/
namespace Go.Proofs.Ytocmgfmfalaebaa
open Go.RowKit

set_option maxRecDepth 100000 in
set_option maxHeartbeats 400000 in
theorem len64_8 (x : Int) (h0 : 0 ≤ x) (h1 : x ≤ 255) (w : World) : Calls Try.prog 98 #[.int .u64 x] w fun e w' => e = .returned (.int .i64 (wrap64 (wrap64 (Lib.len8 x)))) ∧ w = w' := by
  go_enter Try.func98, Try.ntmps98
  go_wp2
  go_ret
  exact ⟨rfl, rfl⟩

set_option maxRecDepth 100000 in
set_option maxHeartbeats 400000 in
theorem width8 (w : World) : Calls Try.prog 75 #[] w fun e w' => e = .returned (.int .i64 1) ∧ w = w' := by
  have e1 : IntKind.u64.wrap (bits BinOp.xor IntKind.u8 IntKind.u8.max 0) = 255 := by decide +kernel
  have e2 : wrap64 (wrap64 (Lib.len8 255)) = 8 := by decide +kernel
  go_enter Try.func75, Try.ntmps75
  go_wp2_with (first | (go_at_call 98; refine (len64_8 255 (by omega) (by omega) _).mono ?_; rintro e w' ⟨rfl, rfl⟩))
  go_ret
  exact ⟨rfl, rfl⟩

set_option maxRecDepth 100000 in
set_option maxHeartbeats 400000 in
theorem take8_ok {w : World} {b : Nat} {lv bv : Value} {x : Nat} {l : List Nat} (h : Rd w b lv bv (x :: l)) (hx : x < 256) :
    Calls Try.prog 55 #[.pointer (some ⟨b, 0, none⟩)] w fun e w' => e = .returned (.int .u8 x) ∧ ∃ lv', Rd w' b lv' bv l ∧ lv'.ownBlock = lv.ownBlock ∧ Kept [b] w w' := by
  have HC := hide (next_ok h)
  clear h
  have e0 : bits .or .u8 0 (x : Int) = (x : Int) := by
    have := u8_or_nat 0 x (by omega) hx
    simpa using this
  go_enter Try.func55, Try.ntmps55
  go_wp2_with (first | (go_at_call 75; refine (width8 _).mono ?_; rintro e w' ⟨rfl, rfl⟩))
  refine wp_loop_rounds 2 ?_
  rw [rounds_succ]
  go_wp2_with (first | (go_at_call 76; refine (unhide HC).mono ?_; rintro e w1 ⟨rfl, HX⟩))
  rw [rounds_succ]
  go_wp2
  go_ret
  exact ⟨rfl, HX⟩

theorem en76 (a : Array Value) (w : World) : (callFunc 54 a).run Try.prog w = .ok (.enter 54 a) w := by kernel_rfl

set_option maxRecDepth 100000 in
set_option maxHeartbeats 400000 in
theorem clos_byte_ok {w : World} {b : Nat} {lv bv : Value} {x : Nat} {l : List Nat} (h : Rd w b lv bv (x :: l)) (hx : x < 256) (p q : Nat) (z : Value) (hp : w.cell? ⟨p, 0, none⟩ = some (.pointer (some ⟨b, 0, none⟩))) (hq : Blk w q #[z] 3) (hqb : q ≠ b) (hql : lv.ownBlock ≠ some q) :
    Calls Try.prog 54 #[.pointer (some ⟨p, 0, none⟩), .pointer (some ⟨q, 0, none⟩)] w fun e w' => e = .returned (.tuple #[]) ∧ Taken b q lv bv l (.int .i64 (x : Nat)) 3 w w' := by
  have HC := hide (take8_ok h hx)
  have HQ := hide hq
  clear h hq
  go_enter Try.func54, Try.ntmps54
  go_wp2_with fail
  refine (unhide HC).mono ?_
  rintro e w1 ⟨rfl, lv', hrd, ho, hk⟩
  have hq1 : Blk w1 q #[z] 3 := (unhide HQ).kept hk (by simpa using hqb)
  have hc1 := blk1 hq1
  have hf1 := hq1.frozen 0
  have HQ1 := hide hq1
  have HRD := hide hrd
  clear hq1 hrd
  go_wp2
  go_end0
  refine ⟨rfl, ⟨lv', (unhide HRD).kept ((Kept.refl [q] _).setCell (Or.inl (by simp)) _) (by simp; exact fun e => hqb e.symm) (fun x hx => by simp; intro e; subst e; exact hql (by rw [← ho]; exact hx)), ho⟩, ?_, ?_⟩
  · simpa using (unhide HQ1).set 0 _
  · exact (hk.mono (fun x hx => Or.inl (by simp at hx; simp [hx]))).setCell (Or.inl (by simp)) _

set_option maxRecDepth 100000 in
set_option maxHeartbeats 400000 in
theorem rbyte_ok {w : World} {b : Nat} {lv bv : Value} {x : Nat} {l : List Nat} (h : Rd w b lv bv (x :: l)) (hx : x < 256) :
    Calls Try.prog 37 #[.pointer (some ⟨b, 0, none⟩)] w fun e w' => e = .returned (.int .i64 (x : Nat)) ∧ (∃ lv', Rd w' b lv' bv l ∧ lv'.ownBlock = lv.ownBlock) ∧ Kept [b] w w' := by
  have hmf : ∀ (fn : Fn) (first cap : Array Value) (w : World), (Instr.makeFunc fn first cap).run Try.prog w = .ok (.func fn first cap) w := fun _ _ _ _ => rfl
  have hface : Calls Try.prog 53 #[.pointer (some ⟨b, 0, none⟩), .func (.func 54) #[] #[.pointer (some ⟨w.heap.size, 0, none⟩), .pointer (some ⟨w.heap.size + 1, 0, none⟩)]]
      ((w.alloc (.cells #[.pointer (some ⟨b, 0, none⟩)] 59)).alloc (.cells #[.int .i64 0] 3)) fun e w' => e = .returned (.tuple #[]) ∧ Taken b (w.heap.size + 1) lv bv l (.int .i64 (x : Nat)) 3 ((w.alloc (.cells #[.pointer (some ⟨b, 0, none⟩)] 59)).alloc (.cells #[.int .i64 0] 3)) w' := by
    have h2 := (h.alloc (.cells #[.pointer (some ⟨b, 0, none⟩)] 59)).alloc (.cells #[.int .i64 0] 3)
    obtain ⟨hb, hlo⟩ := rd_lt h
    have b1 : Blk ((w.alloc (.cells #[.pointer (some ⟨b, 0, none⟩)] 59)).alloc (.cells #[.int .i64 0] 3)) w.heap.size #[.pointer (some ⟨b, 0, none⟩)] 59 := (Blk.new _ _ _).alloc _
    have b2 : Blk ((w.alloc (.cells #[.pointer (some ⟨b, 0, none⟩)] 59)).alloc (.cells #[.int .i64 0] 3)) (w.heap.size + 1) #[.int .i64 0] 3 := by
      have := Blk.new (w.alloc (.cells #[.pointer (some ⟨b, 0, none⟩)] 59)) #[.int .i64 0] 3
      simpa using this
    refine face_ok h2 _ (en76 _) (Taken b (w.heap.size + 1) lv bv l (.int .i64 (x : Nat)) 3) (fun _ _ => Taken.mono) ?_
    intro w3 k3
    exact clos_byte_ok (h2.kept k3 (by simp) (by simp)) hx w.heap.size (w.heap.size + 1) _ (blk1 (b1.kept k3 (by simp))) (b2.kept k3 (by simp)) (by omega) (fun e => by have := hlo _ e; omega)
  have HF := hide hface
  clear hface h
  go_enter Try.func37, Try.ntmps37
  go_wp2_with fail
  refine (unhide HF).mono ?_
  rintro e w1 ⟨rfl, hrd, hq, hk⟩
  have hc := blk1 hq
  clear hq
  go_wp2
  go_ret
  refine ⟨rfl, hrd, ?_⟩
  exact ((((Kept.refl [] w).alloc _).alloc _).mono (G := [b]) (by simp)).trans hk (fun x hx => by simp at hx; rcases hx with rfl | rfl; simp; right; omega)
end Go.Proofs.Ytocmgfmfalaebaa

/- The reader's Real: its face. -/
namespace Go.Proofs.Ytocmgfmfalaebaa
open Go.RowKit

theorem of8_lt (x0 x1 x2 x3 x4 x5 x6 x7 : Nat) (h : ∀ x ∈ [x0, x1, x2, x3, x4, x5, x6, x7], x < 256) : of8 [x0, x1, x2, x3, x4, x5, x6, x7] < 18446744073709551616 := by
  simp only [List.forall_mem_cons, List.not_mem_nil, false_implies, implies_true, and_true] at h
  unfold of8; simp only [List.foldl]; omega

end Go.Proofs.Ytocmgfmfalaebaa

/- The reader's Raw and Text. -/
namespace Go.Proofs.Ytocmgfmfalaebaa
open Go.RowKit

theorem en113 (a : Array Value) (w : World) : (callFunc 105 a).run Try.prog w = .ok (.enter 105 a) w := by kernel_rfl

/-- Behind a reading that ended well and laid bytes into the variable q: they are in memory of their own, made since the world had h0 blocks. -/
def TakenB (b q h0 : Nat) (lv bv : Value) (rest bs : List Nat) (w w' : World) : Prop :=
  (∃ lv', Rd w' b lv' bv rest ∧ lv'.ownBlock = lv.ownBlock) ∧ (∃ a cap, Blk w' q #[.slice a bs.length cap] 22 ∧ w'.ownsRow h0 5 1 (.slice a bs.length cap) bs.length (u8s bs)) ∧ Kept [b, q] w w'

theorem TakenB.mono {b q h0 : Nat} {lv bv : Value} {rest bs : List Nat} {W w3 w' : World} (k : Kept [] W w3) (h : TakenB b q h0 lv bv rest bs w3 w') : TakenB b q h0 lv bv rest bs W w' :=
  ⟨h.1, h.2.1, (k.mono (by simp)).trans h.2.2 (fun _ hx => Or.inl hx)⟩

/-- The end of the closures of Raw and Text: the bytes that were cut are cloned and stored. -/
theorem taken_fin {w w1 w2 : World} {b q h0 : Nat} {lv lv' bv z : Value} {l bs : List Nat} {ca : Option Addr} {cc : Nat} (hq : Blk w q #[z] 22) (hqb : q ≠ b) (hql : lv.ownBlock ≠ some q) (hh : h0 ≤ w.heap.size) (hqh : q < h0 ∨ w.heap.size ≤ q ∨ q < w.heap.size)
    (hrd : Rd w1 b lv' bv l) (ho : lv'.ownBlock = lv.ownBlock) (hk : Kept [b] w w1) (hfo : w2.ownsRow w1.heap.size 5 1 (.slice ca bs.length cc) bs.length (u8s bs)) (hk2 : Kept [] w1 w2) :
    TakenB b q h0 lv bv l bs w (w2.setCell ⟨q, 0, none⟩ (.slice ca bs.length cc)) := by
  have hqlt := hq.lt
  have hks := hk.size
  have hq2 : Blk w2 q #[z] 22 := (hq.kept hk (by simpa using hqb)).kept hk2 (by simp)
  have kset : Kept [q] w2 (w2.setCell ⟨q, 0, none⟩ (.slice ca bs.length cc)) := (Kept.refl [q] _).setCell (Or.inl (by simp)) _
  refine ⟨⟨lv', (hrd.kept hk2 (by simp) (by simp)).kept kset (by simp; exact fun e => hqb e.symm) (fun x hx => by simp; intro e; subst e; exact hql (by rw [← ho]; exact hx)), ho⟩, ⟨ca, cc, by simpa using hq2.set 0 _, ?_⟩, ?_⟩
  · refine own_base (own_kept hfo kset (fun k hk' => ?_)) (fun k hk' => ?_)
    · have := (hfo.lt k hk').1; simp; omega
    · have := (hfo.lt k hk').1; omega
  · exact ((hk.trans hk2 (by simp)).mono (fun x hx => Or.inl (by simp at hx; simp [hx]))).setCell (Or.inl (by simp)) _

/-- The three blocks that the faces of Raw and Text lay. -/
def W3 (w : World) (b : Nat) (n : Int) : World := ((w.alloc (.cells #[.pointer (some ⟨b, 0, none⟩)] 59)).alloc (.cells #[.int .i64 n] 3)).alloc (.cells #[.slice none 0 0] 22)

theorem W3_facts (w : World) (b : Nat) (n : Int) : Kept [] w (W3 w b n) ∧ (W3 w b n).heap.size = w.heap.size + 3 ∧ Blk (W3 w b n) w.heap.size #[.pointer (some ⟨b, 0, none⟩)] 59 ∧ Blk (W3 w b n) (w.heap.size + 1) #[.int .i64 n] 3 ∧ Blk (W3 w b n) (w.heap.size + 2) #[.slice none 0 0] 22 := by
  unfold W3
  refine ⟨(((Kept.refl [] w).alloc _).alloc _).alloc _, by simp, ((Blk.new _ _ _).alloc _).alloc _, ?_, ?_⟩
  · have := (Blk.new (w.alloc (.cells #[.pointer (some ⟨b, 0, none⟩)] 59)) #[.int .i64 n] 3).alloc (.cells #[.slice none 0 0] 22)
    simpa using this
  · have := Blk.new ((w.alloc (.cells #[.pointer (some ⟨b, 0, none⟩)] 59)).alloc (.cells #[.int .i64 n] 3)) #[.slice none 0 0] 22
    simpa using this

end Go.Proofs.Ytocmgfmfalaebaa

/- The reader's Text. -/
namespace Go.Proofs.Ytocmgfmfalaebaa
open Go.RowKit

set_option maxRecDepth 100000 in
set_option maxHeartbeats 400000 in
theorem clos_text_ok {w : World} {b : Nat} {lv bv : Value} {l r : List Nat} (h : Rd w b lv bv l) (hl : ∀ x ∈ l, x < 256) (n : Nat) (most : Int) (hm9 : most ≤ 9223372036854775807) (pn pr q h0 : Nat) (z : Value) (hpn : w.cell? ⟨pn, 0, none⟩ = some (.int .i64 most)) (hpr : w.cell? ⟨pr, 0, none⟩ = some (.pointer (some ⟨b, 0, none⟩)))
    (hnb : pn ≠ b) (hrb : pr ≠ b) (hq : Blk w q #[z] 22) (hqb : q ≠ b) (hql : lv.ownBlock ≠ some q) (hh : h0 ≤ w.heap.size) (hr : readNum 0 0 l = .inr (n, r)) (hn : n ≤ most.toNat) (hnr : n ≤ r.length) :
    Calls Try.prog 105 #[.pointer (some ⟨pr, 0, none⟩), .pointer (some ⟨pn, 0, none⟩), .pointer (some ⟨q, 0, none⟩)] w fun e w' => e = .returned (.tuple #[]) ∧ TakenB b q h0 lv bv (r.drop n) (r.take n) w w' := by
  have HC := hide (number_any h hl)
  have hn64 := (readNum_lt l 0 0 (by omega) (by simp) hl hr).1
  have hbl := h.bl
  have hrl := (readNum_lt l 0 0 (by omega) (by simp) hl hr).2.2
  have htl : (r.take n).length = n := by simp; omega
  have HTL := hide htl
  have HQ := hide hq
  have HR := hide hr
  have hqlt := hq.lt
  have hpnl := World.block_lt_of_cell? w ⟨pn, 0, none⟩ hpn
  have hprl := World.block_lt_of_cell? w ⟨pr, 0, none⟩ hpr
  obtain ⟨m, hmax⟩ : ∃ m : Nat, (most = m ∨ (most < 0 ∧ m = 0)) ∧ n ≤ m ∧ m ≤ 9223372036854775807 := by
    by_cases h0 : 0 ≤ most
    · exact ⟨most.toNat, Or.inl (by omega), hn, by omega⟩
    · exact ⟨0, Or.inr ⟨by omega, rfl⟩, by omega, by omega⟩
  obtain ⟨hmm, hnm, hm63⟩ := hmax
  have gd : decide (m < n) = false := by simp; omega
  clear h hl hq htl hr hn
  rcases hmm with rfl | ⟨hneg, rfl⟩
  all_goals
    go_enter Try.func105, Try.ntmps105
    go_wp2_with fail
    refine (unhide HC).mono ?_
    rintro e w1 ⟨g1, _, hk1⟩
    obtain ⟨rfl, lv1, hrd1, ho1⟩ := g1 n r (unhide HR)
    have hpn1 := (hk1.cell (p := ⟨pn, 0, none⟩) hpnl (by simpa using hnb)).trans hpn
    have hpr1 := (hk1.cell (p := ⟨pr, 0, none⟩) hprl (by simpa using hrb)).trans hpr
    have HC2 := hide (cut_ok hrd1 n hnr)
    have HK1 := hide hk1
    have HO1 := hide ho1
    clear g1 hrd1 ho1 hk1
    go_wp2_with (first | (go_at_call 106; refine (refuse_no _ _).mono ?_; rintro e w'' ⟨rfl, rfl⟩))
    refine (unhide HC2).mono ?_
    rintro e w2 ⟨a, cap, rfl, hs, hao, lv', hrd, ho, hk⟩
    have HK : Hid (Kept [b] w w2) := hide ((unhide HK1).trans hk (fun x hx => Or.inl hx))
    have HQ1 := hide ((unhide HQ).kept (unhide HK) (by simpa using hqb))
    have HS := hide hs
    have HRD := hide hrd
    have HO := hide (ho.trans (unhide HO1))
    clear hs hk hrd ho hao
    go_wp2_with fail
    refine (clone_any (unhide HS) (by rw [unhide HTL]; omega)).mono ?_
    rintro e w3 ⟨ca, cc, rfl, hfo, hk2⟩
    have hq2 := (unhide HQ1).kept hk2 (by simp)
    have hc2 := blk1 hq2
    have hf2 := hq2.frozen 0
    have HF := hide (taken_fin (h0 := h0) (unhide HQ) hqb hql hh (Or.inr (Or.inr hqlt)) (unhide HRD) (unhide HO) (unhide HK) hfo hk2)
    rw [unhide HTL] at HF ⊢
    clear hq2 hfo hk2
    go_wp2
    go_end0
    exact ⟨rfl, unhide HF⟩

set_option maxRecDepth 100000 in
set_option maxHeartbeats 400000 in
theorem clos_text_err {w : World} {b : Nat} {lv bv : Value} {l : List Nat} (h : Rd w b lv bv l) (hl : ∀ x ∈ l, x < 256) (most : Int) (hm9 : most ≤ 9223372036854775807) (pn pr q c : Nat) (hpn : w.cell? ⟨pn, 0, none⟩ = some (.int .i64 most)) (hpr : w.cell? ⟨pr, 0, none⟩ = some (.pointer (some ⟨b, 0, none⟩)))
    (hnb : pn ≠ b) (hrb : pr ≠ b) (hr : readNum 0 0 l = .inl c ∨ ∃ n r, readNum 0 0 l = .inr (n, r) ∧ ((most.toNat < n ∧ c = 11) ∨ (n ≤ most.toNat ∧ r.length < n ∧ c = 10))) :
    Calls Try.prog 105 #[.pointer (some ⟨pr, 0, none⟩), .pointer (some ⟨pn, 0, none⟩), .pointer (some ⟨q, 0, none⟩)] w fun e w' => Faulty e c ∧ (∃ lv' l', Rd w' b lv' bv l') ∧ Kept [b] w w' := by
  have HC := hide (number_any h hl)
  have hpnl := World.block_lt_of_cell? w ⟨pn, 0, none⟩ hpn
  have hprl := World.block_lt_of_cell? w ⟨pr, 0, none⟩ hpr
  rcases hr with hr | ⟨n, r, hr, hcase⟩
  · have HR := hide hr
    clear h hl hr
    go_enter Try.func105, Try.ntmps105
    go_wp2_with fail
    refine (unhide HC).mono ?_
    rintro e w1 ⟨_, g1, hk⟩
    obtain ⟨⟨u, pv, rfl, hu⟩, hrd⟩ := g1 c (unhide HR)
    clear g1
    go_wp2
    exact ⟨rfl, ⟨u, pv, rfl, hu⟩, hrd, hk⟩
  · have hn64 := (readNum_lt l 0 0 (by omega) (by simp) hl hr).1
    have HR := hide hr
    obtain ⟨m, hmm, hm63, hmt⟩ : ∃ m : Nat, (most = m ∨ (most < 0 ∧ m = 0)) ∧ m ≤ 9223372036854775807 ∧ most.toNat = m := by
      by_cases h0 : 0 ≤ most
      · exact ⟨most.toNat, Or.inl (by omega), by omega, rfl⟩
      · exact ⟨0, Or.inr ⟨by omega, rfl⟩, by omega, by omega⟩
    rw [hmt] at hcase
    clear h hl hr hmt
    rcases hcase with ⟨hc, rfl⟩ | ⟨hc, hc2, rfl⟩
    · have gd : decide (m < n) = true := by simp; omega
      rcases hmm with rfl | ⟨hneg, rfl⟩
      all_goals
        go_enter Try.func105, Try.ntmps105
        go_wp2_with fail
        refine (unhide HC).mono ?_
        rintro e w1 ⟨g1, _, hk1⟩
        obtain ⟨rfl, lv1, hrd1, ho1⟩ := g1 n r (unhide HR)
        have hpn1 := (hk1.cell (p := ⟨pn, 0, none⟩) hpnl (by simpa using hnb)).trans hpn
        have HRD := hide hrd1
        have HK := hide hk1
        clear g1 hrd1 ho1 hk1
        go_wp2_with (first | (go_at_call 106; refine (refuse_yes _ _).mono ?_; rintro e w'' ⟨rfl, rfl⟩))
        exact ⟨rfl, ⟨27, _, rfl, Or.inr ⟨rfl, rfl⟩⟩, ⟨_, _, unhide HRD⟩, unhide HK⟩
    · have gd : decide (m < n) = false := by simp; omega
      rcases hmm with rfl | ⟨hneg, rfl⟩
      all_goals
        go_enter Try.func105, Try.ntmps105
        go_wp2_with fail
        refine (unhide HC).mono ?_
        rintro e w1 ⟨g1, _, hk1⟩
        obtain ⟨rfl, lv1, hrd1, ho1⟩ := g1 n r (unhide HR)
        have hpn1 := (hk1.cell (p := ⟨pn, 0, none⟩) hpnl (by simpa using hnb)).trans hpn
        have hpr1 := (hk1.cell (p := ⟨pr, 0, none⟩) hprl (by simpa using hrb)).trans hpr
        have HC2 := hide (cut_end hrd1 n (by omega))
        have HRD := hide hrd1
        have HK := hide hk1
        clear g1 hrd1 ho1 hk1
        go_wp2_with (first | (go_at_call 106; refine (refuse_no _ _).mono ?_; rintro e w'' ⟨rfl, rfl⟩))
        refine (unhide HC2).mono ?_
        rintro e w2 ⟨⟨pv, rfl⟩, hq⟩
        go_wp2
        exact ⟨rfl, ⟨8, pv, rfl, Or.inl ⟨rfl, rfl⟩⟩, ⟨_, _, (unhide HRD).kept hq.kept (by simp) (by simp)⟩, (unhide HK).trans hq.kept (by simp)⟩

set_option maxRecDepth 100000 in
set_option maxHeartbeats 400000 in
theorem rtext_ok {w : World} {b : Nat} {lv bv : Value} {l r : List Nat} (h : Rd w b lv bv l) (hl : ∀ x ∈ l, x < 256) (n : Nat) (most : Int) (hm9 : most ≤ 9223372036854775807) (hr : readNum 0 0 l = .inr (n, r)) (hn : n ≤ most.toNat) (hnr : n ≤ r.length) :
    Calls Try.prog 95 #[.pointer (some ⟨b, 0, none⟩), .int .i64 most] w fun e w' => ∃ a cap, e = .returned (.slice a n cap) ∧ w'.ownsRow w.heap.size 5 1 (.slice a n cap) (r.take n).length (u8s (r.take n)) ∧ (∃ lv', Rd w' b lv' bv (r.drop n) ∧ lv'.ownBlock = lv.ownBlock) ∧ Kept [b] w w' := by
  have hmf : ∀ (fn : Fn) (first cap : Array Value) (w : World), (Instr.makeFunc fn first cap).run Try.prog w = .ok (.func fn first cap) w := fun _ _ _ _ => rfl
  obtain ⟨k0, hsz, b1, b2, b3⟩ := W3_facts w b most
  obtain ⟨hb, hlo⟩ := rd_lt h
  have htl : (r.take n).length = n := by simp; omega
  have hface : Calls Try.prog 53 #[.pointer (some ⟨b, 0, none⟩), .func (.func 105) #[] #[.pointer (some ⟨w.heap.size, 0, none⟩), .pointer (some ⟨w.heap.size + 1, 0, none⟩), .pointer (some ⟨w.heap.size + 2, 0, none⟩)]] (W3 w b most)
      fun e w' => e = .returned (.tuple #[]) ∧ TakenB b (w.heap.size + 2) w.heap.size lv bv (r.drop n) (r.take n) (W3 w b most) w' := by
    refine face_ok (h.kept k0 (by simp) (by simp)) _ (en113 _) (TakenB b (w.heap.size + 2) w.heap.size lv bv (r.drop n) (r.take n)) (fun _ _ => TakenB.mono) ?_
    intro w3 k3
    have := k3.size
    exact clos_text_ok ((h.kept k0 (by simp) (by simp)).kept k3 (by simp) (by simp)) hl n most hm9 _ _ _ _ _ (blk1 (b2.kept k3 (by simp))) (blk1 (b1.kept k3 (by simp))) (by omega) (by omega) (b3.kept k3 (by simp)) (by omega) (fun e => by have := hlo _ e; omega) (by omega) hr hn hnr
  have HF := hide hface
  have HTL := hide htl
  have HK0 := hide k0
  clear hface h b1 b2 b3 htl k0 hsz hl hr hn
  unfold W3 at HF HK0
  go_enter Try.func95, Try.ntmps95
  go_wp2_with fail
  refine (unhide HF).mono ?_
  rintro e w1 ⟨rfl, hrd, ⟨a, cap, hq, ho⟩, hk⟩
  rw [unhide HTL] at hq
  have hc := blk1 hq
  have HO := hide ho
  clear hq ho
  go_wp2
  go_ret
  refine ⟨a, cap, rfl, ?_, hrd, ?_⟩
  · have := unhide HO; rwa [unhide HTL] at this ⊢
  · exact ((unhide HK0).mono (by simp)).trans hk (fun x hx => by simp at hx; rcases hx with rfl | rfl; simp; right; omega)

set_option maxRecDepth 100000 in
set_option maxHeartbeats 400000 in
theorem rtext_err {w : World} {b : Nat} {lv bv : Value} {l : List Nat} (h : Rd w b lv bv l) (hl : ∀ x ∈ l, x < 256) (most : Int) (hm9 : most ≤ 9223372036854775807) (c : Nat) (hr : readNum 0 0 l = .inl c ∨ ∃ n r, readNum 0 0 l = .inr (n, r) ∧ ((most.toNat < n ∧ c = 11) ∨ (n ≤ most.toNat ∧ r.length < n ∧ c = 10))) :
    Calls Try.prog 95 #[.pointer (some ⟨b, 0, none⟩), .int .i64 most] w fun e w' => e = .returned (.slice none 0 0) ∧ RdF w' b c ∧ Kept [b] w w' := by
  have hmf : ∀ (fn : Fn) (first cap : Array Value) (w : World), (Instr.makeFunc fn first cap).run Try.prog w = .ok (.func fn first cap) w := fun _ _ _ _ => rfl
  obtain ⟨k0, hsz, b1, b2, b3⟩ := W3_facts w b most
  obtain ⟨hb, hlo⟩ := rd_lt h
  have hface : Calls Try.prog 53 #[.pointer (some ⟨b, 0, none⟩), .func (.func 105) #[] #[.pointer (some ⟨w.heap.size, 0, none⟩), .pointer (some ⟨w.heap.size + 1, 0, none⟩), .pointer (some ⟨w.heap.size + 2, 0, none⟩)]] (W3 w b most)
      fun e w' => e = .returned (.tuple #[]) ∧ RdF w' b c ∧ Blk w' (w.heap.size + 2) #[.slice none 0 0] 22 ∧ Kept [b] (W3 w b most) w' := by
    refine (face_err (h.kept k0 (by simp) (by simp)) _ c (en113 _) ?_).mono ?_
    · intro w3 k3
      exact clos_text_err ((h.kept k0 (by simp) (by simp)).kept k3 (by simp) (by simp)) hl most hm9 _ _ _ c (blk1 (b2.kept k3 (by simp))) (blk1 (b1.kept k3 (by simp))) (by omega) (by omega) hr
    · rintro e w' ⟨rfl, g1, g2⟩
      exact ⟨rfl, g1, b3.kept g2 (by simp; omega), g2⟩
  have HF := hide hface
  have HK0 := hide k0
  clear hface h b1 b2 b3 k0 hsz hl hr
  unfold W3 at HF HK0
  go_enter Try.func95, Try.ntmps95
  go_wp2_with fail
  refine (unhide HF).mono ?_
  rintro e w1 ⟨rfl, hrd, hq, hk⟩
  have hc := blk1 hq
  have HR := hide hrd
  clear hq hrd
  go_wp2
  go_ret
  exact ⟨rfl, unhide HR, ((unhide HK0).mono (by simp)).trans hk (fun x hx => Or.inl hx)⟩
end Go.Proofs.Ytocmgfmfalaebaa

/- slices.Insert at []byte, of a slice that is owned, of bytes in other memory. -/
namespace Go.Proofs.Ytocmgfmfalaebaa
open Go.RowKit

theorem blk_setCells {b : Nat} {t : TypeId} : ∀ (vs : List Value) (o : Nat) (w : World) (cur : Array Value), Blk w b cur t → ∃ cur', Blk (w.setCells b o vs) b cur' t ∧ cur'.size = cur.size
  | [], _, _, cur, h => ⟨cur, h, rfl⟩
  | v :: r, o, w, cur, h => by
    obtain ⟨c', h1, h2⟩ := blk_setCells r (o + 1) (w.setCell ⟨b, o, none⟩ v) _ (h.set o v)
    exact ⟨c', h1, by rw [h2]; simp⟩

theorem kept_setCells {F : List Nat} {a : World} {b : Nat} (hb : b ∈ F ∨ a.heap.size ≤ b) : ∀ (vs : List Value) (o : Nat) (w : World), Kept F a w → Kept F a (w.setCells b o vs)
  | [], _, _, h => h
  | v :: r, o, _, h => kept_setCells hb r (o + 1) _ (h.setCell (p := ⟨b, o, none⟩) hb v)

/-- A block whose first cells are known cell by cell owns them. -/
theorem own_of_cells {w : World} {g : Nat} {cur : Array Value} (hb : Blk w g cur 5) (bs : List Nat) (cap : Nat) (hs : cur.size = cap) (hn : bs.length ≤ cap) (hm : cap ≤ maxLen)
    (hc : ∀ j, j < bs.length → w.cell? ⟨g, j, none⟩ = some (.int .u8 (bs.getD j 0 : Nat))) :
    w.ownsRow 0 5 1 (.slice (some ⟨g, 0, none⟩) bs.length cap) bs.length (u8s bs) := by
  refine ⟨by simp [u8s], Or.inr ⟨g, cap, cur, rfl, Nat.zero_le _, hb, hn, hm, by omega, ?_⟩⟩
  apply List.ext_getElem?
  intro j
  by_cases hj : j < bs.length
  · have := hc j hj
    rw [hb.cell] at this
    rw [List.getElem?_take, if_pos (by omega), Array.getElem?_toList, this]
    simp [u8s, List.getElem?_eq_getElem hj]
  · rw [List.getElem?_eq_none (by simp; omega), List.getElem?_eq_none (by simp [u8s]; omega)]

theorem getD_ins (bs fs : List Nat) (i j : Nat) (hi : i ≤ bs.length) :
    (bs.take i ++ fs ++ bs.drop i).getD j 0 = if j < i then bs.getD j 0 else if j < i + fs.length then fs.getD (j - i) 0 else bs.getD (j - fs.length) 0 := by
  simp only [List.getD, List.append_assoc, List.getElem?_append, List.length_take, List.getElem?_take, List.getElem?_drop]
  rw [Nat.min_eq_left hi]
  by_cases h1 : j < i
  · simp [h1]
  · by_cases h2 : j < i + fs.length
    · simp [h1, h2, show j - i < fs.length by omega]
    · simp [h1, h2, show ¬ j - i < fs.length by omega, show i + (j - i - fs.length) = j - fs.length by omega]

theorem u8_get {bs : List Nat} {j : Nat} {v : Value} (h : (u8s bs)[j]? = some v) : j < bs.length ∧ v = .int .u8 (bs.getD j 0 : Nat) := by
  have hj : j < bs.length := by have := (List.getElem?_eq_some_iff.1 h).1; simpa [u8s] using this
  refine ⟨hj, ?_⟩
  simp [u8s, List.getElem?_eq_getElem hj] at h
  rw [← h]; simp [List.getElem?_eq_getElem hj]

theorem Try.z5 (w : World) : (Go.sizeOf 5).run Try.prog w = .ok 1 w := by kernel_rfl

end Go.Proofs.Ytocmgfmfalaebaa

/- slices.Insert at []byte: where it grows; all ways together. -/
namespace Go.Proofs.Ytocmgfmfalaebaa
open Go.RowKit

theorem Try.u3 : Try.prog.underlying 3 = some (.int .i64) := by kernel_rfl

/-- What an owned row of bytes looks like, where it is not empty. -/
theorem own_form {w : World} {v : Value} {bs : List Nat} (h : w.ownsRow 0 5 1 v bs.length (u8s bs)) (hn : 0 < bs.length) :
    ∃ g cap cur, v = .slice (some ⟨g, 0, none⟩) bs.length cap ∧ Blk w g cur 5 ∧ cur.size = cap ∧ bs.length ≤ cap ∧ cap ≤ maxLen ∧ ∀ j, j < bs.length → w.cell? ⟨g, j, none⟩ = some (.int .u8 (bs.getD j 0 : Nat)) := by
  rcases h.2 with ⟨_, h0⟩ | ⟨g, cap, cur, hv, _, hg, hc, hm, hs, _⟩
  · omega
  · refine ⟨g, cap, cur, hv, hg, by omega, hc, hm, fun j hj => ?_⟩
    rcases Sees.of_own h with ⟨h1, _⟩ | ⟨b', o', c', hv', _, _, _, hcell⟩
    · rw [hv] at h1; cases h1
    · rw [hv] at hv'; cases hv'
      simpa using hcell j hj

end Go.Proofs.Ytocmgfmfalaebaa

/- The writer's state as a function of the calls: lay, whatever the state; Num, Int, Real, Raw, Text. -/
namespace Go.Proofs.Ytocmgfmfalaebaa
open Go.RowKit

/-- A piece, as P1.2 has it. -/
def wLay (s : WS) (ps : List Nat) : WS := if s.fault ≠ 0 then s else if s.bs.length + ps.length ≤ s.room then { s with bs := s.bs ++ ps } else failWS 13
/-- A refusal. -/
def wFail (s : WS) (c : Nat) : WS := if s.fault ≠ 0 then s else failWS c

/-- Behind a call on the writer: it is in the state s'; nothing else that was there has turned. -/
def WPost (w : World) (b : Nat) (v sv : Value) (s' : WS) (w' : World) : Prop :=
  ∃ v' sv', Wr w' b s' v' sv' ∧ Kept (foot b v sv) w w' ∧ ∀ x, x ∈ foot b v' sv' → x ∈ foot b v sv ∨ w.heap.size ≤ x

theorem WPost.from {w W w' : World} {b : Nat} {v sv : Value} {s' : WS} (k : Kept [] w W) (h : WPost W b v sv s' w') : WPost w b v sv s' w' := by
  obtain ⟨v', sv', h1, h2, h3⟩ := h
  refine ⟨v', sv', h1, (k.mono (by simp)).trans h2 (fun x hx => Or.inl hx), fun x hx => ?_⟩
  rcases h3 x hx with h | h
  · exact Or.inl h
  · right; have := k.size; omega

theorem WPost.same {w w' : World} {b : Nat} {s : WS} {v sv : Value} (h : Wr w b s v sv) (q : Kept [] w w') : WPost w b v sv s w' :=
  ⟨v, sv, h.kept q (by simp), q.mono (by simp), fun _ hx => Or.inl hx⟩

theorem WPost.fail {w w' : World} {b : Nat} {v sv : Value} {c : Nat} (h : Wr w' b (failWS c) nilS nilS) (k : Kept [b] w w') : WPost w b v sv (failWS c) w' :=
  ⟨nilS, nilS, h, k.mono (fun x hx => by simp at hx; subst hx; exact Or.inl (by simp [foot])), fun x hx => by simp [foot, nilS, Value.ownBlock] at hx; subst hx; exact Or.inl (by simp [foot])⟩

set_option maxRecDepth 100000 in
set_option maxHeartbeats 400000 in
theorem lay_faulty {w : World} {b : Nat} {s : WS} {v sv : Value} (h : Wr w b s v sv) (hf : s.fault ≠ 0) (pv : Value) :
    Calls Try.prog 70 #[.pointer (some ⟨b, 0, none⟩), pv] w fun e w' => e = .returned (.tuple #[]) ∧ w = w' := by
  have HH := hide h
  clear h
  go_enter Try.func70, Try.ntmps70
  go_wp2_with (first | (go_at_call 49; refine (fails_yes (unhide HH) hf).mono ?_; rintro e w' ⟨rfl, rfl⟩))
  refine bodyPost_ret (results_none rfl _ _ _) rfl ?_
  exact ⟨rfl, rfl⟩

theorem lay_any {w : World} {b : Nat} {s : WS} {v sv : Value} (h : Wr w b s v sv) (pb pc : Nat) (ps : List (Value × List Nat))
    (hpb : Blk w pb (ps.map (·.1)).toArray 22) (hpn : pb ∉ foot b v sv) (hps : ∀ p, p ∈ ps → Sees w p.1 p.2 ∧ ∀ k, p.1.ownBlock = some k → k ∉ foot b v sv)
    (hl : s.bs.length + (cat ps).length ≤ 70368744177664) (hn : ps.length < 1000) :
    Calls Try.prog 70 #[.pointer (some ⟨b, 0, none⟩), .slice (some ⟨pb, 0, none⟩) ps.length pc] w fun e w' => e = .returned (.tuple #[]) ∧ WPost w b v sv (wLay s (cat ps)) w' := by
  unfold wLay
  by_cases hf : s.fault = 0
  · rw [if_neg (by omega)]
    by_cases hr : s.bs.length + (cat ps).length ≤ s.room
    · rw [if_pos hr]
      refine (lay_fits h hf pb pc ps hpb hpn hps hl hn hr).mono ?_
      rintro e w' ⟨rfl, v', h1, h2, h3⟩
      exact ⟨rfl, v', sv, h1, h2, h3⟩
    · rw [if_neg hr]
      refine (lay_nofit h hf pb pc ps hpb (fun p hp => (hps p hp).1) hl hn hr).mono ?_
      rintro e w' ⟨rfl, h1, h2⟩
      exact ⟨rfl, WPost.fail h1 h2⟩
  · rw [if_pos hf]
    refine (lay_faulty h hf _).mono ?_
    rintro e w' ⟨rfl, rfl⟩
    exact ⟨rfl, WPost.same h (Kept.refl _ _)⟩

/-- lay with one part, behind what made it: 'w' is the world ahead. -/
theorem lay_part {w w1 : World} {b : Nat} {s : WS} {v sv : Value} (h : Wr w b s v sv) (fv : Value) (fs : List Nat)
    (hfo : Sees w1 fv fs) (hfn : ∀ k, fv.ownBlock = some k → k ∉ foot b v sv) (hk1 : Kept [] w w1)
    (hl : s.bs.length + fs.length ≤ 70368744177664) :
    Calls Try.prog 70 #[.pointer (some ⟨b, 0, none⟩), .slice (some ⟨w1.heap.size, 0, none⟩) 1 1] (w1.alloc (.cells #[fv] 22)) fun e w' => e = .returned (.tuple #[]) ∧ WPost w b v sv (wLay s fs) w' := by
  have hfl := foot_lt h
  have hks := hk1.size
  have ec : cat [(fv, fs)] = fs := by simp [cat]
  have h1 : Wr (w1.alloc (.cells #[fv] 22)) b s v sv := (h.kept hk1 (by simp)).alloc _
  refine (lay_any h1 w1.heap.size 1 [(fv, fs)] (Blk.new _ _ _) (fun hm => by have := hfl _ hm; omega) ?_ (by rw [ec]; exact hl) (by simp)).mono ?_
  · intro p hp
    simp at hp; subst hp
    exact ⟨sees_alloc _ hfo, hfn⟩
  · rintro e w' ⟨rfl, hp⟩
    rw [ec] at hp
    exact ⟨rfl, hp.from (hk1.alloc _)⟩

theorem fresh_foot {w : World} {b : Nat} {s : WS} {v sv : Value} (h : Wr w b s v sv) {k : Nat} (hk : w.heap.size ≤ k) : k ∉ foot b v sv := fun hm => by have := foot_lt h k hm; omega

set_option maxRecDepth 100000 in
set_option maxHeartbeats 400000 in
theorem wnum_any {w : World} {b : Nat} {s : WS} {v sv : Value} (h : Wr w b s v sv) (n : Nat) (hn : n < 18446744073709551616) (hl : s.bs.length ≤ 1000000000000) :
    Calls Try.prog 80 #[.pointer (some ⟨b, 0, none⟩), .int .u64 n] w fun e w' => e = .returned (.tuple #[]) ∧ WPost w b v sv (wLay s (form n)) w' := by
  have HH := hide h
  clear h
  have h10 := form_le10 n hn
  go_enter Try.func80, Try.ntmps80
  go_wp2_with (first | (go_at_call 99; refine (form_any' n _ hn).mono ?_; rintro e w1 ⟨fa, fc, rfl, hfo, hk1⟩) | (go_at_call 70; refine (lay_part (unhide HH) _ (form n) (Sees.of_own hfo) (fun k hk => fresh_foot (unhide HH) (hfo.lt k hk).1) hk1 (by omega)).mono ?_; rintro e w2 ⟨rfl, HX⟩))
  go_end0
  exact ⟨rfl, HX⟩

set_option maxRecDepth 100000 in
set_option maxHeartbeats 400000 in
theorem wtext_any {w : World} {b : Nat} {s : WS} {v sv : Value} (h : Wr w b s v sv) (pv : Value) (ps : List Nat) (hp : Sees w pv ps) (hpn : ∀ k, pv.ownBlock = some k → k ∉ foot b v sv) (hl : s.bs.length + ps.length ≤ 35184372088832) :
    Calls Try.prog 93 #[.pointer (some ⟨b, 0, none⟩), pv] w fun e w' => e = .returned (.tuple #[]) ∧ WPost w b v sv (wLay s (form ps.length ++ ps)) w' := by
  obtain ⟨pa, pc, rfl⟩ := sees_len hp
  have h10 := form_le10 ps.length (by omega)
  have hlay : ∀ w1 fv, Kept [] w w1 → w1.ownsRow w.heap.size 5 1 fv (form ps.length).length (u8s (form ps.length)) →
      Calls Try.prog 70 #[.pointer (some ⟨b, 0, none⟩), .slice (some ⟨w1.heap.size, 0, none⟩) 2 2] (w1.alloc (.cells #[fv, .slice pa ps.length pc] 22)) fun e w' => e = .returned (.tuple #[]) ∧ WPost w b v sv (wLay s (form ps.length ++ ps)) w' := by
    intro w1 fv hk1 hfo
    have hks := hk1.size
    have ec : cat [(fv, form ps.length), (.slice pa ps.length pc, ps)] = form ps.length ++ ps := by simp [cat]
    have h1 : Wr (w1.alloc (.cells #[fv, .slice pa ps.length pc] 22)) b s v sv := (h.kept hk1 (by simp)).alloc _
    refine (lay_any h1 w1.heap.size 2 [(fv, form ps.length), (.slice pa ps.length pc, ps)] (Blk.new _ _ _) (fresh_foot h hks) ?_ (by rw [ec]; simp; omega) (by simp)).mono ?_
    · intro p hpp
      simp at hpp
      rcases hpp with rfl | rfl
      · exact ⟨sees_alloc _ (Sees.of_own hfo), fun k hk => fresh_foot h (hfo.lt k hk).1⟩
      · exact ⟨sees_alloc _ (hp.kept hk1 (by simp)), hpn⟩
    · rintro e w' ⟨rfl, hpo⟩
      rw [ec] at hpo
      exact ⟨rfl, hpo.from (hk1.alloc _)⟩
  have HL := hide hlay
  clear hlay h hp hpn
  go_enter Try.func93, Try.ntmps93
  go_wp2_with (first | (go_at_call 99; refine (form_any' ps.length _ (by omega)).mono ?_; rintro e w1 ⟨fa, fc, rfl, hfo, hk1⟩) | (go_at_call 70; refine (unhide HL _ _ hk1 hfo).mono ?_; rintro e w2 ⟨rfl, HX⟩))
  go_end0
  exact ⟨rfl, HX⟩
end Go.Proofs.Ytocmgfmfalaebaa

/- Numbers of one, two, four and eight bytes, the lowest first; the writer's Byte and Fixed. -/
namespace Go.Proofs.Ytocmgfmfalaebaa
open Go.RowKit

/-- The lowest k bytes of n, the lowest first. -/
def le (n : Nat) : Nat → List Nat
  | 0 => []
  | k + 1 => le n k ++ [n / 256 ^ k % 256]
theorem le_len (n k : Nat) : (le n k).length = k := by
  induction k with
  | zero => rfl
  | succ k ih => simp [le, ih]
theorem le_lt (n k : Nat) : ∀ x ∈ le n k, x < 256 := by
  induction k with
  | zero => intro x hx; cases hx
  | succ k ih => intro x hx; simp [le] at hx; rcases hx with h | h; exact ih x h; omega
theorem pow256 (k : Nat) : (2 : Nat) ^ (8 * k) = 256 ^ k := by rw [Nat.pow_mul]
theorem pow256i (k : Nat) : (2 : Int) ^ (8 * k) = ((256 ^ k : Nat) : Int) := by rw [← pow256]; simp

set_option maxRecDepth 100000 in
set_option maxHeartbeats 400000 in
theorem len64_16 (x : Int) (h0 : 256 ≤ x) (h1 : x ≤ 65535) (w : World) : Calls Try.prog 98 #[.int .u64 x] w fun e w' => e = .returned (.int .i64 (wrap64 (8 + wrap64 (Lib.len8 (x / 256))))) ∧ w = w' := by
  have g1 : 0 ≤ x / 256 := by omega
  have g2 : x / 256 ≤ 255 := by omega
  go_enter Try.func98, Try.ntmps98
  go_wp2
  go_ret
  exact ⟨rfl, rfl⟩

set_option maxRecDepth 100000 in
set_option maxHeartbeats 400000 in
theorem len64_32 (x : Int) (h0 : 16777216 ≤ x) (h1 : x ≤ 4294967295) (w : World) : Calls Try.prog 98 #[.int .u64 x] w fun e w' => e = .returned (.int .i64 (wrap64 (24 + wrap64 (Lib.len8 (x / 65536 / 256))))) ∧ w = w' := by
  have h2 : 256 ≤ x / 65536 := by omega
  have g1 : 0 ≤ x / 65536 / 256 := by omega
  have g2 : x / 65536 / 256 ≤ 255 := by omega
  go_enter Try.func98, Try.ntmps98
  go_wp2
  go_ret
  exact ⟨rfl, rfl⟩

set_option maxRecDepth 100000 in
set_option maxHeartbeats 400000 in
theorem len64_64 (x : Int) (h0 : 72057594037927936 ≤ x) (h1 : x ≤ 18446744073709551615) (w : World) : Calls Try.prog 98 #[.int .u64 x] w fun e w' => e = .returned (.int .i64 (wrap64 (56 + wrap64 (Lib.len8 (x / 4294967296 / 65536 / 256))))) ∧ w = w' := by
  have h2 : 65536 ≤ x / 4294967296 := by omega
  have h3 : 256 ≤ x / 4294967296 / 65536 := by omega
  have g1 : 0 ≤ x / 4294967296 / 65536 / 256 := by omega
  have g2 : x / 4294967296 / 65536 / 256 ≤ 255 := by omega
  go_enter Try.func98, Try.ntmps98
  go_wp2
  go_ret
  exact ⟨rfl, rfl⟩

set_option maxRecDepth 100000 in
set_option maxHeartbeats 1000000 in
theorem layu8 {w : World} {v : Value} {base : Nat} {bs : List Nat} (ho : w.ownsRow base 5 1 v bs.length (u8s bs)) (hbase : base ≤ w.heap.size) (hl : bs.length ≤ 1000) (n : Nat) (hn : n < 256) :
    Calls Try.prog 71 #[v, .int .u8 n] w fun e w' => ∃ a cap, e = .returned (.slice a (bs ++ le n 1).length cap) ∧ w'.ownsRow base 5 1 (.slice a (bs ++ le n 1).length cap) (bs ++ le n 1).length (u8s (bs ++ le n 1)) ∧ Kept v.ownBlock.toList w w' := by
  obtain ⟨i0, hi, hz0, hz1, hz2⟩ := info_parts Try.info5
  have HO := hide ho
  go_enter Try.func71, Try.ntmps71
  go_wp2_with (first | (go_at_call 75; refine (width8 _).mono ?_; rintro e w' ⟨rfl, rfl⟩))
  go_loopw [0, 7] (fun p i wr => ∃ k : Nat, k ≤ 1 ∧ i = .int .i64 k ∧ wr.ownsRow base 5 1 p (bs ++ le n k).length (u8s (bs ++ le n k)) ∧ Kept v.ownBlock.toList w wr ∧ (∀ x, p.ownBlock = some x → v.ownBlock = some x ∨ w.heap.size ≤ x)) (fun _ i _ => 1 - (intOf i).toNat)
  case atStart => exact ⟨0, by omega, rfl, by simpa [le] using unhide HO, Kept.refl _ _, fun x hx => Or.inl hx⟩
  case round =>
    obtain ⟨k, hk, rfl, hown, hkw, hfo⟩ := hrel
    have hks := hkw.size
    have hll := le_len n k
    obtain ⟨a0, c0, hv0⟩ := own_len hown
    subst hv0
    by_cases hlt : k < 1
    · have hlen : (bs ++ le n k).length ≤ 2000 := by simp; omega
      have HLL := hide hll
      clear hll
      go_wp2_with (at_builtin; refine wpList_append_sees _ rfl _ _ 22 rfl base 5 i0 (.int .u8 0) Try.underlying22 hi hz0 hz1 hz2 rfl _ (bs ++ le n k) rfl (hown.alloc _) _ [n / 256 ^ k % 256] rfl ?c0 ?c1 ?c2 ?_)
      case c0 =>
        first
          | (have e : ((n : Int) / 2 ^ (8 * k) % 256) = ((n / 256 ^ k % 256 : Nat) : Int) := by rw [pow256i]; simp
             rw [e]; exact news_one _ _)
          | (have hk0 : k = 0 := by omega
             subst hk0
             have e : (n : Int) = ((n / 256 ^ 0 % 256 : Nat) : Int) := by simp; omega
             have := news_one wr (n / 256 ^ 0 % 256)
             simp at this ⊢
             have e2 : (n : Int) % 256 = (n : Int) := by omega
             rw [e2] at this
             first | exact this | (rw [Nat.mod_eq_of_lt (by omega)]; exact this) | (rw [Nat.mod_eq_of_lt (by omega)] at *; exact this))
      case c1 => simp at hlen ⊢; omega
      case c2 => simp; omega
      intro v' w1 hown1 hg1 hat1
      have HO1 := hide hown1
      have HA1 := hide hat1
      obtain ⟨a1, c1, hv1⟩ := own_len hown1
      subst hv1
      clear hown1 hat1
      go_wp2
      go_roundw
      case rel =>
        refine ⟨k + 1, by omega, by go_num, by simpa [le] using unhide HO1, (hkw.alloc _).grown hg1 (fun x hx => ?_), fun x hx => ?_⟩
        · rcases hfo x (by simpa using hx) with h | h
          · exact Or.inl (by simp [h])
          · exact Or.inr h
        · rcases unhide HA1 with h | h
          · have h2 := hfo x (by rw [← hx]; simpa using h.symm)
            exact h2
          · have h3 : x = wr.heap.size + 1 := by
              have : some x = some ((wr.alloc (Obj.cells #[Value.int IntKind.u8 0] 5)).heap.size) := by rw [← hx]; simpa using h
              simpa using this
            right; omega
      case measure => simp [intOf]; omega
    · have hkw2 : k = 1 := by omega
      subst hkw2
      go_wp2
      go_ret
      exact ⟨a0, c0, rfl, hown, hkw⟩

end Go.Proofs.Ytocmgfmfalaebaa

/- layFixed; the writer's Byte and Fixed. -/
namespace Go.Proofs.Ytocmgfmfalaebaa
open Go.RowKit

theorem le_add (n a b : Nat) : le n (a + b) = le n a ++ le (n / 256 ^ a) b := by
  induction b with
  | zero => simp [le]
  | succ b ih => rw [← Nat.add_assoc, le, ih, le, Nat.div_div_eq_div_mul, Nat.pow_add, List.append_assoc]

theorem le_mod (n k j : Nat) (h : k ≤ j) : le (n % 256 ^ j) k = le n k := by
  induction k with
  | zero => rfl
  | succ k ih =>
    rw [le, le, ih (by omega)]
    congr 2
    have e : 256 ^ j = 256 ^ k * 256 ^ (j - k) := by rw [← Nat.pow_add]; congr 1; omega
    rw [e, Nat.mod_mul_right_div_self]
    have e2 : 256 ^ (j - k) = 256 * 256 ^ (j - k - 1) := by rw [Nat.mul_comm, ← Nat.pow_succ]; congr 1; omega
    rw [e2, Nat.mod_mul_right_mod]

/-- What layFixed answers. -/
def Fixed (w : World) (n size : Nat) (e : Ending) (w' : World) : Prop :=
  ∃ a cap, e = .returned (.slice a size cap) ∧ w'.ownsRow w.heap.size 5 1 (.slice a size cap) (le n size).length (u8s (le n size)) ∧ Kept [] w w'

end Go.Proofs.Ytocmgfmfalaebaa

/- The writer's Byte, Fixed, Open, Len, Done, whatever the state. -/
namespace Go.Proofs.Ytocmgfmfalaebaa
open Go.RowKit

theorem fail_any {w : World} {b : Nat} {s : WS} {v sv : Value} (h : Wr w b s v sv) (c : Nat) (hc : c < 1000) :
    Calls Try.prog 69 #[.pointer (some ⟨b, 0, none⟩), .int .i64 c] w fun e w' => e = .returned (.tuple #[]) ∧ WPost w b v sv (wFail s c) w' := by
  unfold wFail
  by_cases hf : s.fault = 0
  · rw [if_neg (by omega)]
    refine (fail_do h hf c hc).mono ?_
    rintro e w' ⟨rfl, h1, h2⟩
    exact ⟨rfl, WPost.fail h1 h2⟩
  · rw [if_pos hf]
    refine (fail_not h hf c).mono ?_
    rintro e w' ⟨rfl, rfl⟩
    exact ⟨rfl, WPost.same h (Kept.refl _ _)⟩

set_option maxRecDepth 100000 in
set_option maxHeartbeats 400000 in
theorem wbyte_in {w : World} {b : Nat} {s : WS} {v sv : Value} (h : Wr w b s v sv) (n : Nat) (hn : n < 256) (hl : s.bs.length ≤ 1000000000000) :
    Calls Try.prog 47 #[.pointer (some ⟨b, 0, none⟩), .int .i64 n] w fun e w' => e = .returned (.tuple #[]) ∧ WPost w b v sv (wLay s [n]) w' := by
  have HH := hide h
  clear h
  have he : [] ++ le n 1 = [n] := by simp [le]; omega
  have hmod : (n : Int) % 256 = (n : Int) := by omega
  go_enter Try.func47, Try.ntmps47
  go_wp2_with fail
  refine (layu8 (bs := []) (World.ownsRow_nil _ w.heap.size _ _) (Nat.le_refl _) (by simp) n hn).mono ?_
  rintro e w1 ⟨a1, c1, rfl, h1, k1⟩
  rw [he] at h1
  rw [he]
  have H1 := hide h1
  have K1 : Kept [] w w1 := k1.mono (by simp [Value.ownBlock])
  clear h1 k1 he
  go_wp2_with (first | (go_at_call 70; refine (lay_part (unhide HH) _ [n] (Sees.of_own (unhide H1)) (fun k hk => fresh_foot (unhide HH) ((unhide H1).lt k hk).1) K1 (by simp; omega)).mono ?_; rintro e w2 ⟨rfl, HX⟩))
  go_end0
  exact ⟨rfl, HX⟩

set_option maxRecDepth 100000 in
set_option maxHeartbeats 400000 in
theorem wbyte_out {w : World} {b : Nat} {s : WS} {v sv : Value} (h : Wr w b s v sv) (n : Int) (hn : n < 0 ∨ 255 < n) :
    Calls Try.prog 47 #[.pointer (some ⟨b, 0, none⟩), .int .i64 n] w fun e w' => e = .returned (.tuple #[]) ∧ WPost w b v sv (wFail s 2) w' := by
  have HC := hide (fail_any h 2 (by omega))
  clear h
  rcases hn with hn | hn
  · go_enter Try.func47, Try.ntmps47
    go_wp2_with (first | (go_at_call 69; refine (unhide HC).mono ?_; rintro e w2 ⟨rfl, HX⟩))
    refine bodyPost_ret (results_none rfl _ _ _) rfl ?_
    exact ⟨rfl, HX⟩
  · have h0 : ¬ n < 0 := by omega
    go_enter Try.func47, Try.ntmps47
    go_wp2_with (first | (go_at_call 69; refine (unhide HC).mono ?_; rintro e w2 ⟨rfl, HX⟩))
    refine bodyPost_ret (results_none rfl _ _ _) rfl ?_
    exact ⟨rfl, HX⟩

theorem Try.info3 : (Try.prog.info? 3).map (fun i => (i.zero, i.size, i.bytes)) = some (some (.int .i64 0), 1, 8) := by kernel_rfl

/-- Open, as P1.3 has it. -/
def wOpen (s : WS) : WS := if s.fault ≠ 0 then s else if s.sts.length = 16 then failWS 11 else { s with sts := s.sts ++ [s.bs.length] }

/-- Where the open frames begin is written anew. -/
theorem Wr.starts {w w1 : World} {b : Nat} {s : WS} {v sv sv' : Value} (h : Wr w b s v sv) (ts : List Nat)
    (hown : w1.ownsRow 0 3 1 sv' ts.length (i64s ts)) (hk : Kept sv.ownBlock.toList w w1) (hat : sv'.ownBlock = sv.ownBlock ∨ ∀ x, sv'.ownBlock = some x → w.heap.size ≤ x)
    (hl : ts.length ≤ 16) :
    Wr (w1.setCell ⟨b, 2, none⟩ sv') b { s with sts := ts } v sv' ∧ Kept (foot b v sv) w (w1.setCell ⟨b, 2, none⟩ sv') ∧ ∀ x, x ∈ foot b v sv' → x ∈ foot b v sv ∨ w.heap.size ≤ x := by
  have hb := h.blk.lt
  have k2 : Kept (foot b v sv) w (w1.setCell ⟨b, 2, none⟩ sv') := (hk.mono (fun x hx => Or.inl (by simp [foot]; simp at hx; simp [hx]))).setCell (Or.inl (by simp [foot])) sv'
  have n2' : sv'.ownBlock ≠ some b := by
    rcases hat with e | e
    · rw [e]; exact h.n2
    · intro hx; have := e b hx; omega
  have n3' : ∀ k, v.ownBlock = some k → sv'.ownBlock ≠ some k := by
    intro k hk' hs
    rcases hat with e | e
    · exact h.n3 k hk' (by rw [← e]; exact hs)
    · have := e k hs; have := (h.own.lt k hk').2; omega
  refine ⟨⟨?_, ?_, ?_, h.n1, n2', n3', h.broom, h.bbs, hl, h.bf⟩, k2, ?_⟩
  · have b1 : Blk w1 b #[.int .i64 (s.room : Int), v, sv, .int .i64 (s.fault : Int)] 78 := h.blk.kept hk (by simp; exact h.n2)
    simpa using b1.set 2 sv'
  · have o1 := own_kept h.own hk (fun k hk' => by simp; exact h.n3 k hk')
    exact own_kept o1 ((Kept.refl [b] _).setCell (Or.inl (by simp)) sv') (fun k hk' => by simp; intro e; exact h.n1 (by rw [hk', e]))
  · exact own_kept hown ((Kept.refl [b] _).setCell (Or.inl (by simp)) sv') (fun k hk' => by simp; intro e; exact n2' (by rw [hk', e]))
  · intro x hx
    simp [foot] at hx ⊢
    rcases hx with hx | hx | hx
    · exact Or.inl (Or.inl hx)
    · exact Or.inl (Or.inr (Or.inl hx))
    · rcases hat with e | e
      · exact Or.inl (Or.inr (Or.inr (by rw [← e]; exact hx)))
      · exact Or.inr (e x hx)

theorem news_i64 (w : World) (x : Nat) : ∀ j u, [Value.int .i64 (x : Int)][j]? = some u → (w.alloc (.cells #[.int .i64 (x : Int)] 3)).cell? ((⟨w.heap.size, 0, none⟩ : Addr).add j) = some u := by
  intro j u hj
  match j, hj with
  | 0, hj => simp at hj; subst hj; simp [Addr.add]

end Go.Proofs.Ytocmgfmfalaebaa

/- The writer's Close. -/
namespace Go.Proofs.Ytocmgfmfalaebaa
open Go.RowKit

/-- Close, as P1.3 has it. -/
def wClose (s : WS) : WS :=
  if s.fault ≠ 0 then s else
  match s.sts.getLast? with
  | none => failWS 2
  | some st => if s.bs.length + (form (s.bs.length - st)).length ≤ s.room then { s with bs := s.bs.take st ++ form (s.bs.length - st) ++ s.bs.drop st, sts := s.sts.dropLast } else failWS 13

/-- The bytes are written anew. -/
theorem Wr.bytes {w w1 : World} {b : Nat} {s : WS} {v sv v' : Value} (h : Wr w b s v sv) (bs' : List Nat)
    (hown : w1.ownsRow 0 5 1 v' bs'.length (u8s bs')) (hk : Kept v.ownBlock.toList w w1) (hat : v'.ownBlock = v.ownBlock ∨ ∀ x, v'.ownBlock = some x → w.heap.size ≤ x)
    (hl : bs'.length ≤ 70368744177664) :
    Wr (w1.setCell ⟨b, 1, none⟩ v') b { s with bs := bs' } v' sv ∧ Kept (foot b v sv) w (w1.setCell ⟨b, 1, none⟩ v') ∧ ∀ x, x ∈ foot b v' sv → x ∈ foot b v sv ∨ w.heap.size ≤ x := by
  have hb := h.blk.lt
  have k2 : Kept (foot b v sv) w (w1.setCell ⟨b, 1, none⟩ v') := (hk.mono (fun x hx => Or.inl (by simp [foot]; simp at hx; simp [hx]))).setCell (Or.inl (by simp [foot])) v'
  have n1' : v'.ownBlock ≠ some b := by
    rcases hat with e | e
    · rw [e]; exact h.n1
    · intro hx; have := e b hx; omega
  have n3' : ∀ k, v'.ownBlock = some k → sv.ownBlock ≠ some k := by
    intro k hk' hs
    rcases hat with e | e
    · exact h.n3 k (by rw [← e]; exact hk') hs
    · have := e k hk'; have := (h.sown.lt k hs).2; omega
  refine ⟨⟨?_, ?_, ?_, n1', h.n2, n3', h.broom, hl, h.bsts, h.bf⟩, k2, ?_⟩
  · have b1 : Blk w1 b #[.int .i64 (s.room : Int), v, sv, .int .i64 (s.fault : Int)] 78 := h.blk.kept hk (by simp; exact h.n1)
    simpa using b1.set 1 v'
  · exact own_kept hown ((Kept.refl [b] _).setCell (Or.inl (by simp)) v') (fun k hk' => by simp; intro e; exact n1' (by rw [hk', e]))
  · have o1 := own_kept h.sown hk (fun k hk' => by simp; exact fun e => h.n3 k e hk')
    exact own_kept o1 ((Kept.refl [b] _).setCell (Or.inl (by simp)) v') (fun k hk' => by simp; intro e; exact h.n2 (by rw [hk', e]))
  · intro x hx
    simp [foot] at hx ⊢
    rcases hx with hx | hx | hx
    · exact Or.inl (Or.inl hx)
    · rcases hat with e | e
      · exact Or.inl (Or.inr (Or.inl (by rw [← e]; exact hx)))
      · exact Or.inr (e x hx)
    · exact Or.inl (Or.inr (Or.inr hx))

theorem own_take {w : World} {base : Nat} {e : TypeId} {g n cap k : Nat} {xs : List Value} (h : w.ownsRow base e 1 (.slice (some ⟨g, 0, none⟩) n cap) n xs) (hk : k ≤ n) :
    w.ownsRow base e 1 (.slice (some ⟨g, 0, none⟩) k cap) k (xs.take k) := by
  have hl := h.1
  rcases h.2 with ⟨h1, _⟩ | ⟨g', cap', cur, hv, hb, hh, hc, hm, hs, ht⟩
  · cases h1
  · cases hv
    refine ⟨by simp; omega, Or.inr ⟨g, cap, cur, rfl, hb, hh, by omega, hm, hs, ?_⟩⟩
    rw [← ht, List.take_take]; congr 1; omega

end Go.Proofs.Ytocmgfmfalaebaa

/- The reader's frames: Enter and Leave. -/
namespace Go.Proofs.Ytocmgfmfalaebaa
open Go.RowKit

/-- A reader with what stands behind each frame that it is in (the outermost first); D: the block of the bytes. -/
structure Rf (w : World) (b : Nat) (lv bv : Value) (hs : List Value) (left : List Nat) (behind : List (List Nat)) (D : Option Nat) : Prop where
  rd : Rd w b lv bv left
  own : w.ownsRow 0 22 1 bv hs.length hs
  hl : hs.length = behind.length
  h16 : behind.length ≤ 16
  see : ∀ i, i < hs.length → Sees w (hs.getD i nilS) (behind.getD i [])
  dl : ∀ k, lv.ownBlock = some k → D = some k
  dh : ∀ i, i < hs.length → ∀ k, (hs.getD i nilS).ownBlock = some k → D = some k
  d1 : D ≠ some b
  d2 : ∀ k, D = some k → bv.ownBlock ≠ some k
  dlt : ∀ k, D = some k → k < w.heap.size
  n2 : bv.ownBlock ≠ some b
  bb : ∀ i, i < hs.length → (behind.getD i []).length ≤ 140737488355328

def rfoot (b : Nat) (bv : Value) : List Nat := b :: bv.ownBlock.toList

theorem Rf.kept {F : List Nat} {w w' : World} {b : Nat} {lv bv : Value} {hs : List Value} {left : List Nat} {behind : List (List Nat)} {D : Option Nat} (h : Rf w b lv bv hs left behind D) (k : Kept F w w') (hF : ∀ x, x ∈ D.toList ++ rfoot b bv → x ∉ F) : Rf w' b lv bv hs left behind D :=
  ⟨h.rd.kept k (hF b (by simp [rfoot])) (fun x hx => hF x (by simp [h.dl x hx])), own_kept h.own k (fun x hx => hF x (by simp [rfoot, hx])), h.hl, h.h16,
   fun i hi => (h.see i hi).kept k (fun x hx => hF x (by simp [h.dh i hi x hx])), h.dl, h.dh, h.d1, h.d2, fun x hx => Nat.lt_of_lt_of_le (h.dlt x hx) k.size, h.n2, h.bb⟩

/-- A call that takes from what is left, and does nothing to the frames. -/
theorem Rf.step {w w' : World} {b : Nat} {lv lv' bv : Value} {hs : List Value} {left left' : List Nat} {behind : List (List Nat)} {D : Option Nat} (h : Rf w b lv bv hs left behind D) (hr : Rd w' b lv' bv left') (ho : lv'.ownBlock = lv.ownBlock) (k : Kept [b] w w') : Rf w' b lv' bv hs left' behind D :=
  ⟨hr, own_kept h.own k (fun x hx => by simp; intro e; subst e; exact h.n2 hx), h.hl, h.h16,
   fun i hi => (h.see i hi).kept k (fun x hx => by simp; intro e; subst e; exact h.d1 (h.dh i hi _ hx)), fun x hx => h.dl x (by rw [← ho]; exact hx), h.dh, h.d1, h.d2, fun x hx => Nat.lt_of_lt_of_le (h.dlt x hx) k.size, h.n2, h.bb⟩

theorem Try.info22 : (Try.prog.info? 22).map (fun i => (i.zero, i.size, i.bytes)) = some (some (.slice none 0 0), 1, 24) := by kernel_rfl

theorem news_hdr (w : World) (v : Value) : ∀ j u, [v][j]? = some u → (w.alloc (.cells #[v] 22)).cell? ((⟨w.heap.size, 0, none⟩ : Addr).add j) = some u := by
  intro j u hj
  match j, hj with
  | 0, hj => simp at hj; subst hj; have := blk1 (Blk.new w #[v] 22); simp [Addr.add]

/-- What the world is like behind Enter's closure. -/
def Entered (b q : Nat) (bv : Value) (r : List Nat) (behind : List (List Nat)) (D : Option Nat) (n : Nat) (w w' : World) : Prop :=
  (∃ lv' bv' hs', Rf w' b lv' bv' hs' (r.take n) (behind ++ [r.drop n]) D ∧ (bv'.ownBlock = bv.ownBlock ∨ ∀ x, bv'.ownBlock = some x → w.heap.size ≤ x)) ∧ Blk w' q #[.int .i64 (n : Nat)] 3 ∧ Kept (q :: rfoot b bv) w w'

/-- The frame is entered: what the stores of Enter make of the reader. -/
theorem enter_fin {w w2 w3 : World} {b q n : Nat} {D : Option Nat} {lv lv' bv F nb z : Value} {hs : List Value} {l r : List Nat} {behind : List (List Nat)} (h : Rf w b lv bv hs l behind D) (h16 : behind.length < 16) (hq : Blk w q #[z] 3) (hqf : q ∉ D.toList ++ rfoot b bv)
    (hk : Kept [b] w w2) (hrd : Rd w2 b lv' bv (r.drop n)) (hlo : lv'.ownBlock = lv.ownBlock) (hF : Sees w2 F (r.take n)) (hFo : F.ownBlock = lv.ownBlock)
    (hg : (w2.alloc (.cells #[lv'] 22)).drew.grownBy w3 bv.ownBlock) (hown : w3.ownsRow 0 22 1 nb (hs.length + 1) (hs ++ [lv'])) (hat : nb.ownBlock = bv.ownBlock ∨ nb.ownBlock = some (w2.heap.size + 1)) (hrl : r.length ≤ 140737488355328) :
    Entered b q bv r behind D n w (((w3.setCell ⟨b, 1, none⟩ nb).setCell ⟨b, 0, none⟩ F).setCell ⟨q, 0, none⟩ (.int .i64 (n : Nat))) := by
  simp only [rfoot, List.mem_append, List.mem_cons, Option.mem_toList, not_or] at hqf
  obtain ⟨hqD, hqb, hqv⟩ := hqf
  have hqD' : D ≠ some q := hqD
  have hqv' : bv.ownBlock ≠ some q := hqv
  have hqlt := hq.lt
  have hb := h.rd.blk.lt
  have hs2 := hk.size
  have nbb : nb.ownBlock ≠ some b := by
    rcases hat with e | e
    · rw [e]; exact h.n2
    · rw [e]; intro hx; cases hx; omega
  have nbq : nb.ownBlock ≠ some q := by
    rcases hat with e | e
    · rw [e]; exact hqv'
    · rw [e]; intro hx; cases hx; omega
  have nbD : ∀ k, D = some k → nb.ownBlock ≠ some k := by
    intro k hD
    rcases hat with e | e
    · rw [e]; exact h.d2 k hD
    · rw [e]; intro hx; cases hx; have := h.dlt _ hD; omega
  have kg : Kept bv.ownBlock.toList w2 w3 := ((Kept.refl _ w2).alloc _).drew.grown hg (fun k hk => Or.inl (by simp [hk]))
  have k3 : Kept (rfoot b bv) w w3 := (hk.mono (fun x hx => by simp at hx; exact Or.inl (by simp [rfoot, hx]))).trans kg (fun x hx => Or.inl (by simp [rfoot]; simp at hx; exact Or.inr hx))
  have b3 : Blk w3 b #[lv', bv, .int .i64 0] 83 := hrd.blk.kept kg (by simp; exact h.n2)
  have q3 : Blk w3 q #[z] 3 := hq.kept k3 (by simp [rfoot]; exact ⟨fun e => hqb e, hqv'⟩)
  have kS : Kept [b, q] w3 (((w3.setCell ⟨b, 1, none⟩ nb).setCell ⟨b, 0, none⟩ F).setCell ⟨q, 0, none⟩ (.int .i64 (n : Nat))) := (((Kept.refl [b, q] w3).setCell (Or.inl (by simp)) _).setCell (Or.inl (by simp)) _).setCell (Or.inl (by simp)) _
  have hDk : ∀ k, D = some k → k ∉ bv.ownBlock.toList := fun k hD => by simp; exact h.d2 k hD
  have hDS : ∀ k, D = some k → k ∉ [b, q] := fun k hD => by
    simp; exact ⟨fun e => h.d1 (by rw [hD, e]), fun e => hqD' (by rw [hD, e])⟩
  have hDb : ∀ k, D = some k → k ∉ [b] := fun k hD => by simp; exact fun e => h.d1 (by rw [hD, e])
  refine ⟨⟨F, nb, hs ++ [lv'], ⟨⟨?_, ?_, ?_, ?_⟩, ?_, ?_, ?_, ?_, ?_, ?_, h.d1, nbD, ?_, nbb, ?_⟩, ?_⟩, ?_, ?_⟩
  · have : Blk ((w3.setCell ⟨b, 1, none⟩ nb).setCell ⟨b, 0, none⟩ F) b #[F, nb, .int .i64 0] 83 := by simpa using (b3.set 1 nb).set 0 F
    exact this.other _ (fun e => hqb e.symm) _
  · exact (hF.kept kg (fun k hk' => hDk k (h.dl k (by rw [← hFo]; exact hk')))).kept kS (fun k hk' => hDS k (h.dl k (by rw [← hFo]; exact hk')))
  · rw [hFo]; exact fun e => h.d1 (h.dl b e)
  · simp; omega
  · have := own_kept hown kS (fun k hk' => by simp; exact ⟨fun e => nbb (by rw [hk', e]), fun e => nbq (by rw [hk', e])⟩)
    simpa using this
  · simp [h.hl]
  · simp; omega
  · intro i hi
    by_cases hlt : i < hs.length
    · have e1 : (hs ++ [lv']).getD i nilS = hs.getD i nilS := by simp [List.getD, List.getElem?_append_left hlt]
      have e2 : (behind ++ [r.drop n]).getD i [] = behind.getD i [] := by simp [List.getD, List.getElem?_append_left (show i < behind.length by rw [← h.hl]; exact hlt)]
      rw [e1, e2]
      have s1 := (h.see i hlt).kept hk (fun k hk' => hDb k (h.dh i hlt k hk'))
      exact (s1.kept kg (fun k hk' => hDk k (h.dh i hlt k hk'))).kept kS (fun k hk' => hDS k (h.dh i hlt k hk'))
    · have hi2 : i = hs.length := by simp at hi; omega
      subst hi2
      have e1 : (hs ++ [lv']).getD hs.length nilS = lv' := by simp [List.getD]
      have e2 : (behind ++ [r.drop n]).getD hs.length [] = r.drop n := by rw [h.hl]; simp [List.getD]
      rw [e1, e2]
      exact (hrd.see.kept kg (fun k hk' => hDk k (h.dl k (by rw [← hlo]; exact hk')))).kept kS (fun k hk' => hDS k (h.dl k (by rw [← hlo]; exact hk')))
  · intro k hk'; exact h.dl k (by rw [← hFo]; exact hk')
  · intro i hi k hk'
    by_cases hlt : i < hs.length
    · have e1 : (hs ++ [lv']).getD i nilS = hs.getD i nilS := by simp [List.getD, List.getElem?_append_left hlt]
      rw [e1] at hk'; exact h.dh i hlt k hk'
    · have hi2 : i = hs.length := by simp at hi; omega
      subst hi2
      have e1 : (hs ++ [lv']).getD hs.length nilS = lv' := by simp [List.getD]
      rw [e1] at hk'; exact h.dl k (by rw [← hlo]; exact hk')
  · intro k hD
    have := h.dlt k hD; have := kS.size; have := k3.size; omega
  · intro i hi
    by_cases hlt : i < hs.length
    · have e2 : (behind ++ [r.drop n]).getD i [] = behind.getD i [] := by simp [List.getD, List.getElem?_append_left (show i < behind.length by rw [← h.hl]; exact hlt)]
      rw [e2]; exact h.bb i hlt
    · have hi2 : i = hs.length := by simp at hi; omega
      subst hi2
      have e2 : (behind ++ [r.drop n]).getD hs.length [] = r.drop n := by rw [h.hl]; simp [List.getD]
      rw [e2]; simp; omega
  · rcases hat with e | e
    · exact Or.inl e
    · right; intro x hx; rw [e] at hx; cases hx; omega
  · have q4 : Blk ((w3.setCell ⟨b, 1, none⟩ nb).setCell ⟨b, 0, none⟩ F) q #[z] 3 := (q3.other _ hqb _).other _ hqb _
    simpa using q4.set 0 (.int .i64 (n : Nat))
  · exact (k3.mono (fun x hx => Or.inl (by simp [hx]))).trans kS (fun x hx => by simp at hx; rcases hx with rfl | rfl <;> simp [rfoot])
end Go.Proofs.Ytocmgfmfalaebaa

/- The reader's Enter. -/
namespace Go.Proofs.Ytocmgfmfalaebaa
open Go.RowKit

end Go.Proofs.Ytocmgfmfalaebaa

/- The reader's Leave; Enter where it is refused. -/
namespace Go.Proofs.Ytocmgfmfalaebaa
open Go.RowKit

/-- A way of a region that ends by a panic: nothing is left to be walked. -/
theorem stop_region (w : World) {p : Prop} (h : p) (_ : wpAny Try.prog default #[] (fun _ _ _ => True) 0 #[] { tmps := #[], defers := [] } w) : p := h

end Go.Proofs.Ytocmgfmfalaebaa

/- The reader's Leave: what its stores make. -/
namespace Go.Proofs.Ytocmgfmfalaebaa
open Go.RowKit

theorem getD_take' {α : Type} (l : List α) (n i : Nat) (d : α) (h : i < n) : (l.take n).getD i d = l.getD i d := by
  rw [List.getD_eq_getElem?_getD, List.getD_eq_getElem?_getD, List.getElem?_take_of_lt h]

/-- The frame that was entered last is left. -/
theorem leave_fin {w : World} {b : Nat} {D : Option Nat} {lv bv : Value} {hs : List Value} {behind : List (List Nat)} {gs bc : Nat} (h : Rf w b lv bv hs [] behind D) (hpos : 0 < hs.length) (hbv : bv = .slice (some ⟨gs, 0, none⟩) hs.length bc) :
    Rf ((w.setCell ⟨b, 0, none⟩ (hs.getD (hs.length - 1) nilS)).setCell ⟨b, 1, none⟩ (.slice (some ⟨gs, 0, none⟩) (hs.length - 1) bc)) b (hs.getD (hs.length - 1) nilS) (.slice (some ⟨gs, 0, none⟩) (hs.length - 1) bc) (hs.take (hs.length - 1)) (behind.getD (hs.length - 1) []) (behind.dropLast) D := by
  have kS : Kept [b] w ((w.setCell ⟨b, 0, none⟩ (hs.getD (hs.length - 1) nilS)).setCell ⟨b, 1, none⟩ (.slice (some ⟨gs, 0, none⟩) (hs.length - 1) bc)) := ((Kept.refl [b] w).setCell (Or.inl (by simp)) _).setCell (Or.inl (by simp)) _
  have hlast : hs.length - 1 < hs.length := by omega
  have hgb : (Value.slice (some ⟨gs, 0, none⟩) (hs.length - 1) bc).ownBlock = bv.ownBlock := by rw [hbv]; rfl
  have hDb : ∀ k, D = some k → k ∉ [b] := fun k hD => by simp; exact fun e => h.d1 (by rw [hD, e])
  have hlen := h.hl
  refine ⟨⟨?_, ?_, ?_, ?_⟩, ?_, ?_, ?_, ?_, ?_, ?_, h.d1, ?_, ?_, ?_, ?_⟩
  · simpa using (h.rd.blk.set 0 (hs.getD (hs.length - 1) nilS)).set 1 (.slice (some ⟨gs, 0, none⟩) (hs.length - 1) bc)
  · exact (h.see _ hlast).kept kS (fun k hk => hDb k (h.dh _ hlast k hk))
  · intro e; exact h.d1 (h.dh _ hlast b e)
  · exact h.bb _ hlast
  · have ho := h.own
    rw [hbv] at ho
    have h1 := own_take ho (k := hs.length - 1) (by omega)
    have := own_kept h1 kS (fun k hk => by rw [hgb] at hk; simp; intro e; subst e; exact h.n2 hk)
    rw [List.length_take, Nat.min_eq_left (by omega)]
    exact this
  · simp; omega
  · have := h.h16; simp; omega
  · intro i hi
    simp at hi
    have e1 : (hs.take (hs.length - 1)).getD i nilS = hs.getD i nilS := getD_take' hs (hs.length - 1) i nilS (by omega)
    have e2 : behind.dropLast.getD i [] = behind.getD i [] := by
      rw [List.dropLast_eq_take]; exact getD_take' behind (behind.length - 1) i [] (by omega)
    rw [e1, e2]
    exact (h.see i (by omega)).kept kS (fun k hk => hDb k (h.dh i (by omega) k hk))
  · intro k hk; exact h.dh _ hlast k hk
  · intro i hi k hk
    simp at hi
    have e1 : (hs.take (hs.length - 1)).getD i nilS = hs.getD i nilS := getD_take' hs (hs.length - 1) i nilS (by omega)
    rw [e1] at hk
    exact h.dh i (by omega) k hk
  · intro k hD; rw [hgb]; exact h.d2 k hD
  · intro k hD; exact Nat.lt_of_lt_of_le (h.dlt k hD) kS.size
  · rw [hgb]; exact h.n2
  · intro i hi
    simp at hi
    have e2 : behind.dropLast.getD i [] = behind.getD i [] := by
      rw [List.dropLast_eq_take]; exact getD_take' behind (behind.length - 1) i [] (by omega)
    rw [e2]; exact h.bb i (by omega)

end Go.Proofs.Ytocmgfmfalaebaa

/- The reader's Leave; Enter where it is refused. -/
namespace Go.Proofs.Ytocmgfmfalaebaa
open Go.RowKit

end Go.Proofs.Ytocmgfmfalaebaa

/- The reader's Enter and Leave, faces and all. -/
namespace Go.Proofs.Ytocmgfmfalaebaa
open Go.RowKit

theorem Entered.mono {b q n : Nat} {bv : Value} {r : List Nat} {behind : List (List Nat)} {D : Option Nat} {W w3 w' : World} (k : Kept [] W w3) (h : Entered b q bv r behind D n w3 w') : Entered b q bv r behind D n W w' := by
  obtain ⟨⟨lv', bv', hs', g1, g2⟩, g3, g4⟩ := h
  have := k.size
  refine ⟨⟨lv', bv', hs', g1, ?_⟩, g3, (k.mono (by simp)).trans g4 (fun x hx => Or.inl hx)⟩
  rcases g2 with g2 | g2
  · exact Or.inl g2
  · exact Or.inr fun x hx => by have := g2 x hx; omega

theorem Rf.lts {w : World} {b : Nat} {lv bv : Value} {hs : List Value} {l : List Nat} {behind : List (List Nat)} {D : Option Nat} (h : Rf w b lv bv hs l behind D) : ∀ x ∈ D.toList ++ rfoot b bv, x < w.heap.size := by
  intro x hx
  simp only [rfoot, List.mem_append, List.mem_cons, Option.mem_toList] at hx
  rcases hx with hx | rfl | hx
  · exact h.dlt x hx
  · exact h.rd.blk.lt
  · exact (h.own.lt x hx).2

def Left (b : Nat) (bv : Value) (behind : List (List Nat)) (D : Option Nat) (w w' : World) : Prop :=
  (∃ lv' bv' hs', Rf w' b lv' bv' hs' (behind.getD (behind.length - 1) []) behind.dropLast D ∧ bv'.ownBlock = bv.ownBlock) ∧ Kept [b] w w'

end Go.Proofs.Ytocmgfmfalaebaa

/- The reader's Fixed. -/
namespace Go.Proofs.Ytocmgfmfalaebaa
open Go.RowKit

/-- The number of some bytes, the lowest first. -/
def leV : List Nat → Nat
  | [] => 0
  | x :: l => x + 256 * leV l
theorem leV_lt (l : List Nat) (h : ∀ x ∈ l, x < 256) : leV l < 256 ^ l.length := by
  induction l with
  | nil => simp [leV]
  | cons x l ih =>
    have h1 := ih (fun y hy => h y (by simp [hy]))
    have h2 := h x (by simp)
    simp only [leV, List.length_cons, Nat.pow_succ]; omega
theorem leV_append (a b : List Nat) : leV (a ++ b) = leV a + 256 ^ a.length * leV b := by
  induction a with
  | nil => simp [leV]
  | cons x a ih => simp only [leV, List.cons_append, List.length_cons, Nat.pow_succ, ih, Nat.mul_add, Nat.add_assoc]; congr 2; rw [← Nat.mul_assoc]; congr 1; exact Nat.mul_comm _ _

theorem or_le (acc y s : Nat) (h : acc < 2 ^ s) : acc ||| y * 2 ^ s = acc + y * 2 ^ s := by
  have := Nat.two_pow_add_eq_or_of_lt h y
  rw [Nat.mul_comm y, Nat.or_comm, ← this, Nat.add_comm]


theorem or_at16 (k acc y : Nat) (hk : k < 2) (hacc : acc < 256 ^ k) (hy : y < 256) :
    bits .or .u16 (acc : Int) (IntKind.u16.wrap ((y : Int) * 2 ^ (8 * k))) = ((acc + y * 256 ^ k : Nat) : Int) ∧ acc + y * 256 ^ k < 256 ^ (k + 1) := by
  have e : 256 ^ k = 2 ^ (8 * k) := (pow256 k).symm
  rw [e] at hacc ⊢
  have e2 : 256 ^ (k + 1) = 2 ^ (8 * k) * 256 := by rw [Nat.pow_succ, e]
  have h1 : y * 2 ^ (8 * k) ≤ 255 * 2 ^ (8 * k) := Nat.mul_le_mul_right _ (by omega)
  have h2 : 2 ^ (8 * k) ≤ 2 ^ 8 := Nat.pow_le_pow_right (by omega) (by omega)
  refine ⟨?_, by rw [e2]; omega⟩
  have ew : IntKind.u16.wrap ((y : Int) * 2 ^ (8 * k)) = ((y * 2 ^ (8 * k) : Nat) : Int) := by
    rw [IntKind.wrap_u16]
    have : ((y : Int) * 2 ^ (8 * k)) = ((y * 2 ^ (8 * k) : Nat) : Int) := by simp
    rw [this]; omega
  rw [ew, u16_or_nat _ _ (by omega) (by omega), or_le _ _ _ hacc]

theorem or_at32 (k acc y : Nat) (hk : k < 4) (hacc : acc < 256 ^ k) (hy : y < 256) :
    bits .or .u32 (acc : Int) (IntKind.u32.wrap ((y : Int) * 2 ^ (8 * k))) = ((acc + y * 256 ^ k : Nat) : Int) ∧ acc + y * 256 ^ k < 256 ^ (k + 1) := by
  have e : 256 ^ k = 2 ^ (8 * k) := (pow256 k).symm
  rw [e] at hacc ⊢
  have e2 : 256 ^ (k + 1) = 2 ^ (8 * k) * 256 := by rw [Nat.pow_succ, e]
  have h1 : y * 2 ^ (8 * k) ≤ 255 * 2 ^ (8 * k) := Nat.mul_le_mul_right _ (by omega)
  have h2 : 2 ^ (8 * k) ≤ 2 ^ 24 := Nat.pow_le_pow_right (by omega) (by omega)
  refine ⟨?_, by rw [e2]; omega⟩
  have ew : IntKind.u32.wrap ((y : Int) * 2 ^ (8 * k)) = ((y * 2 ^ (8 * k) : Nat) : Int) := by
    rw [IntKind.wrap_u32]
    have : ((y : Int) * 2 ^ (8 * k)) = ((y * 2 ^ (8 * k) : Nat) : Int) := by simp
    rw [this]; omega
  rw [ew, u32_or_nat _ _ (by omega) (by omega), or_le _ _ _ hacc]

theorem or_at64 (k acc y : Nat) (hk : k < 8) (hacc : acc < 256 ^ k) (hy : y < 256) :
    bits .or .u64 (acc : Int) (IntKind.u64.wrap ((y : Int) * 2 ^ (8 * k))) = ((acc + y * 256 ^ k : Nat) : Int) ∧ acc + y * 256 ^ k < 256 ^ (k + 1) := by
  have e : 256 ^ k = 2 ^ (8 * k) := (pow256 k).symm
  rw [e] at hacc ⊢
  have e2 : 256 ^ (k + 1) = 2 ^ (8 * k) * 256 := by rw [Nat.pow_succ, e]
  have h1 : y * 2 ^ (8 * k) ≤ 255 * 2 ^ (8 * k) := Nat.mul_le_mul_right _ (by omega)
  have h2 : 2 ^ (8 * k) ≤ 2 ^ 56 := Nat.pow_le_pow_right (by omega) (by omega)
  refine ⟨?_, by rw [e2]; omega⟩
  have ew : IntKind.u64.wrap ((y : Int) * 2 ^ (8 * k)) = ((y * 2 ^ (8 * k) : Nat) : Int) := by
    rw [IntKind.wrap_u64]
    have : ((y : Int) * 2 ^ (8 * k)) = ((y * 2 ^ (8 * k) : Nat) : Int) := by simp
    rw [this]; omega
  rw [ew, u64_or_nat _ _ (by omega) (by omega), or_le _ _ _ hacc]

end Go.Proofs.Ytocmgfmfalaebaa

/- takeFixed. -/
namespace Go.Proofs.Ytocmgfmfalaebaa
open Go.RowKit

theorem or_u64 (a v s : Nat) (ha : a < 2 ^ s) (hv : v * 2 ^ s < 18446744073709551616) (h2 : a < 18446744073709551616) : bits .or .u64 (a : Int) (((v * 2 ^ s : Nat)) : Int) = ((a + v * 2 ^ s : Nat) : Int) := by
  rw [u64_or_nat _ _ h2 hv, or_le _ _ _ ha]

theorem leV_at (l : List Nat) (a b : Nat) (h : a ≤ l.length) : leV (l.take (a + b)) = leV (l.take a) + leV ((l.drop a).take b) * 2 ^ (8 * a) := by
  rw [List.take_add, leV_append, pow256, Nat.mul_comm, show (l.take a).length = a by simp; omega]

theorem or_zero64 (v : Nat) (h : v < 18446744073709551616) : bits .or .u64 0 (v : Int) = (v : Int) := by
  have := u64_or_nat 0 v (by omega) h
  simpa using this

def TakeN (w : World) (b : Nat) (lv bv : Value) (l : List Nat) (k : Nat) (w' : World) : Prop := ∃ lv', Rd w' b lv' bv (l.drop k) ∧ lv'.ownBlock = lv.ownBlock ∧ Kept [b] w w'

theorem TakeN.next {w w1 w2 : World} {b : Nat} {lv lv1 bv : Value} {l : List Nat} {k j : Nat} (h1 : lv1.ownBlock = lv.ownBlock) (k1 : Kept [b] w w1) (h2 : TakeN w1 b lv1 bv (l.drop k) j w2) : TakeN w b lv bv l (k + j) w2 := by
  obtain ⟨lv', h3, h4, h5⟩ := h2
  exact ⟨lv', by rw [← List.drop_drop]; exact h3, h4.trans h1, k1.trans h5 (fun x hx => Or.inl hx)⟩

theorem lt_take (l : List Nat) (hl : ∀ x ∈ l, x < 256) (k : Nat) : leV (l.take k) < 256 ^ k := by
  have := leV_lt (l.take k) (fun x hx => hl x (List.mem_of_mem_take hx))
  exact Nat.lt_of_lt_of_le this (Nat.pow_le_pow_right (by omega) (by simp; omega))

theorem part8 {w : World} {b : Nat} {lv bv : Value} {l : List Nat} (h : Rd w b lv bv l) (hl : ∀ x ∈ l, x < 256) (hn : 1 ≤ l.length) :
    Calls Try.prog 55 #[.pointer (some ⟨b, 0, none⟩)] w fun e w' => ∃ v, e = .returned (.int .u8 (v : Nat)) ∧ v < 256 ∧ Hid (v = leV (l.take 1)) ∧ TakeN w b lv bv l 1 w' := by
  cases l with
  | nil => simp at hn
  | cons x l =>
    refine (take8_ok h (hl x (by simp))).mono ?_
    rintro e w' ⟨rfl, h1⟩
    exact ⟨x, rfl, hl x (by simp), by simp [Hid, leV], h1⟩

end Go.Proofs.Ytocmgfmfalaebaa

/- The reader's Fixed: its face. Its Done, whatever frames it has been in. -/
namespace Go.Proofs.Ytocmgfmfalaebaa
open Go.RowKit

def W3n (w : World) (b : Nat) (n : Int) : World := ((w.alloc (.cells #[.pointer (some ⟨b, 0, none⟩)] 59)).alloc (.cells #[.int .i64 n] 3)).alloc (.cells #[.int .u64 0] 56)

theorem W3n_facts (w : World) (b : Nat) (n : Int) : Kept [] w (W3n w b n) ∧ (W3n w b n).heap.size = w.heap.size + 3 ∧ Blk (W3n w b n) w.heap.size #[.pointer (some ⟨b, 0, none⟩)] 59 ∧ Blk (W3n w b n) (w.heap.size + 1) #[.int .i64 n] 3 ∧ Blk (W3n w b n) (w.heap.size + 2) #[.int .u64 0] 56 := by
  unfold W3n
  refine ⟨(((Kept.refl [] w).alloc _).alloc _).alloc _, by simp, ((Blk.new _ _ _).alloc _).alloc _, ?_, ?_⟩
  · have := (Blk.new (w.alloc (.cells #[.pointer (some ⟨b, 0, none⟩)] 59)) #[.int .i64 n] 3).alloc (.cells #[.int .u64 0] 56)
    simpa using this
  · have := Blk.new ((w.alloc (.cells #[.pointer (some ⟨b, 0, none⟩)] 59)).alloc (.cells #[.int .i64 n] 3)) #[.int .u64 0] 56
    simpa using this

set_option maxRecDepth 100000 in
set_option maxHeartbeats 400000 in
theorem rdone_f {w : World} {b : Nat} {lv bv : Value} {hs : List Value} {l : List Nat} {behind : List (List Nat)} {D : Option Nat} (h : Rf w b lv bv hs l behind D) (c : Nat) (hc : c = if l = [] ∧ behind = [] then 0 else 12) :
    Calls Try.prog 38 #[.pointer (some ⟨b, 0, none⟩)] w fun e w' => e = .returned (.int .i64 c) ∧ w = w' := by
  obtain ⟨c0, c1, c2⟩ := blk3 h.rd.blk
  obtain ⟨a, cap, hlv⟩ := sees_len h.rd.see
  obtain ⟨ba, bc, hbv⟩ := own_len h.own
  have hlen := h.hl
  rw [hlv] at c0
  rw [hbv] at c1
  clear hlv hbv h
  by_cases hl : l = []
  · by_cases hb : behind = []
    · rw [if_pos ⟨hl, hb⟩] at hc
      subst hc
      have d1 : decide (0 < l.length) = false := by simp [hl]
      have d2 : decide (0 < hs.length) = false := by simp [hlen, hb]
      clear hl hb hlen
      go_enter Try.func38, Try.ntmps38
      go_wp2
      go_ret
      exact ⟨rfl, rfl⟩
    · rw [if_neg (fun e => hb e.2)] at hc
      subst hc
      have d1 : decide (0 < l.length) = false := by simp [hl]
      have d2 : decide (0 < hs.length) = true := by have := List.length_pos_iff.2 hb; simp; omega
      clear hl hb hlen
      go_enter Try.func38, Try.ntmps38
      go_wp2
      go_ret
      exact ⟨rfl, rfl⟩
  · rw [if_neg (fun e => hl e.1)] at hc
    subst hc
    have d1 : decide (0 < l.length) = true := by have := List.length_pos_iff.2 hl; simpa using this
    clear hl hlen
    go_enter Try.func38, Try.ntmps38
    go_wp2
    go_ret
    exact ⟨rfl, rfl⟩
end Go.Proofs.Ytocmgfmfalaebaa

/- The reader's readings that give up: Byte, Int, Fixed and Real beyond the end; Fixed of a wrong size. -/
namespace Go.Proofs.Ytocmgfmfalaebaa
open Go.RowKit

/-- A reading gave up beyond the end. -/
def GaveUp (w : World) (b : Nat) (bv : Value) (c : Nat) (e : Ending) (w' : World) : Prop := Faulty e c ∧ (∃ lv' l', Rd w' b lv' bv l') ∧ Kept [b] w w'
theorem GaveUp.of_end {w w' : World} {b : Nat} {lv bv pv : Value} (h : Rd w b lv bv []) (hq : Quiet w w') : GaveUp w b bv 10 (.panicked [{ v := .iface 8 pv, recovered := false }]) w' :=
  ⟨⟨8, pv, rfl, Or.inl ⟨rfl, rfl⟩⟩, ⟨lv, [], h.kept hq.kept (by simp) (by simp)⟩, hq.kept.mono (by simp)⟩
theorem GaveUp.next {w w1 w' : World} {b c : Nat} {bv : Value} {e : Ending} (k : Kept [b] w w1) (h : GaveUp w1 b bv c e w') : GaveUp w b bv c e w' :=
  ⟨h.1, h.2.1, k.trans h.2.2 (fun _ hx => Or.inl hx)⟩

set_option maxRecDepth 100000 in
set_option maxHeartbeats 400000 in
theorem take8_err {w : World} {b : Nat} {lv bv : Value} {l : List Nat} (h : Rd w b lv bv l) (hn : l.length < 1) :
    Calls Try.prog 55 #[.pointer (some ⟨b, 0, none⟩)] w (GaveUp w b bv 10) := by
  obtain rfl : l = [] := List.eq_nil_of_length_eq_zero (by omega)
  have HC := hide (next_end h)
  have HH := hide h
  clear h hn
  go_enter Try.func55, Try.ntmps55
  go_wp2_with (first | (go_at_call 75; refine (width8 _).mono ?_; rintro e w' ⟨rfl, rfl⟩))
  refine wp_loop_rounds 2 ?_
  rw [rounds_succ]
  go_wp2_with (first | (go_at_call 76; refine (unhide HC).mono ?_; rintro e w1 ⟨⟨pv, rfl⟩, hq⟩))
  exact ⟨rfl, GaveUp.of_end (unhide HH) hq⟩


end Go.Proofs.Ytocmgfmfalaebaa

/- The reader's calls that give up, and all calls on a reader with a fault. -/
namespace Go.Proofs.Ytocmgfmfalaebaa
open Go.RowKit

theorem enByte (a : Array Value) (w : World) : (callFunc 54 a).run Try.prog w = .ok (.enter 54 a) w := by kernel_rfl
set_option maxRecDepth 100000 in
set_option maxHeartbeats 400000 in
theorem clos_byte_err {w : World} {b : Nat} {lv bv : Value} {l : List Nat} (h : Rd w b lv bv l) (hn : l.length < 1) (p q : Nat) (hp : w.cell? ⟨p, 0, none⟩ = some (.pointer (some ⟨b, 0, none⟩))) :
    Calls Try.prog 54 #[.pointer (some ⟨p, 0, none⟩), .pointer (some ⟨q, 0, none⟩)] w (GaveUp w b bv 10) := by
  have HC := hide (take8_err h hn)
  clear h hn
  go_enter Try.func54, Try.ntmps54
  go_wp2_with fail
  refine (unhide HC).mono ?_
  rintro e w1 ⟨⟨u, pv, rfl, hu⟩, hrd, hk⟩
  have HU := hide hu
  clear hu
  go_wp2
  exact ⟨rfl, ⟨u, pv, rfl, by simpa using unhide HU⟩, hrd, hk⟩

set_option maxRecDepth 100000 in
set_option maxHeartbeats 400000 in
theorem rbyte_err {w : World} {b : Nat} {lv bv : Value} {l : List Nat} (h : Rd w b lv bv l) (hn : l.length < 1) :
    Calls Try.prog 37 #[.pointer (some ⟨b, 0, none⟩)] w fun e w' => e = .returned (.int .i64 0) ∧ RdF w' b 10 ∧ Kept [b] w w' := by
  have hmf : ∀ (fn : Fn) (first cap : Array Value) (w : World), (Instr.makeFunc fn first cap).run Try.prog w = .ok (.func fn first cap) w := fun _ _ _ _ => rfl
  obtain ⟨hb, hlo⟩ := rd_lt h
  have hface : Calls Try.prog 53 #[.pointer (some ⟨b, 0, none⟩), .func (.func 54) #[] #[.pointer (some ⟨w.heap.size, 0, none⟩), .pointer (some ⟨w.heap.size + 1, 0, none⟩)]]
      ((w.alloc (.cells #[.pointer (some ⟨b, 0, none⟩)] 59)).alloc (.cells #[.int .i64 0] 3)) fun e w' => e = .returned (.tuple #[]) ∧ RdF w' b 10 ∧ Blk w' (w.heap.size + 1) #[.int .i64 0] 3 ∧ Kept [b] ((w.alloc (.cells #[.pointer (some ⟨b, 0, none⟩)] 59)).alloc (.cells #[.int .i64 0] 3)) w' := by
    have h2 := (h.alloc (.cells #[.pointer (some ⟨b, 0, none⟩)] 59)).alloc (.cells #[.int .i64 0] 3)
    have b1 : Blk ((w.alloc (.cells #[.pointer (some ⟨b, 0, none⟩)] 59)).alloc (.cells #[.int .i64 0] 3)) w.heap.size #[.pointer (some ⟨b, 0, none⟩)] 59 := (Blk.new _ _ _).alloc _
    have b2 : Blk ((w.alloc (.cells #[.pointer (some ⟨b, 0, none⟩)] 59)).alloc (.cells #[.int .i64 0] 3)) (w.heap.size + 1) #[.int .i64 0] 3 := by
      have := Blk.new (w.alloc (.cells #[.pointer (some ⟨b, 0, none⟩)] 59)) #[.int .i64 0] 3
      simpa using this
    refine (face_err h2 _ 10 (enByte _) ?_).mono ?_
    · intro w3 k3
      exact clos_byte_err (h2.kept k3 (by simp) (by simp)) hn w.heap.size (w.heap.size + 1) (blk1 (b1.kept k3 (by simp)))
    · rintro e w' ⟨rfl, g1, g2⟩
      exact ⟨rfl, g1, b2.kept g2 (by simp; omega), g2⟩
  have HF := hide hface
  clear hface h hn
  go_enter Try.func37, Try.ntmps37
  go_wp2_with fail
  refine (unhide HF).mono ?_
  rintro e w1 ⟨rfl, hrd, hq, hk⟩
  have hc := blk1 hq
  have HR := hide hrd
  clear hq hrd
  go_wp2
  go_ret
  refine ⟨rfl, unhide HR, ?_⟩
  exact ((((Kept.refl [] w).alloc _).alloc _).mono (G := [b]) (by simp)).trans hk (fun x hx => Or.inl hx)


/-! On a reader with a fault. -/
set_option maxRecDepth 100000 in
set_option maxHeartbeats 400000 in
theorem take_fault {w : World} {b c : Nat} (h : RdF w b c) (hc : c ≠ 0) (fv : Value) :
    Calls Try.prog 53 #[.pointer (some ⟨b, 0, none⟩), fv] w fun e w' => e = .returned (.tuple #[]) ∧ Kept [] w w' := by
  have c2' : (w.alloc (.cells #[.pointer (some ⟨b, 0, none⟩)] 59)).cell? ⟨b, 2, none⟩ = some (.int .i64 c) := (blk3 (Blk.alloc h _)).2.2
  have hn : ((c : Int) != 0) = true := by rw [bne_iff_ne]; omega
  have hb := Blk.lt h
  clear h hc
  go_enter_defers Try.func53, Try.ntmps53
  go_wp2

  simp [bodyPostD, Leaves, results, Try.results53, go_sem]
  exact (Kept.refl [] w).alloc _


set_option maxRecDepth 100000 in
set_option maxHeartbeats 400000 in
theorem rbyte_fault {w : World} {b c : Nat} (h : RdF w b c) (hc : c ≠ 0) :
    Calls Try.prog 37 #[.pointer (some ⟨b, 0, none⟩)] w fun e w' => e = .returned (.int .i64 0) ∧ Kept [] w w' := by
  have hmf : ∀ (fn : Fn) (first cap : Array Value) (w : World), (Instr.makeFunc fn first cap).run Try.prog w = .ok (.func fn first cap) w := fun _ _ _ _ => rfl
  have hq : Blk ((w.alloc (.cells #[.pointer (some ⟨b, 0, none⟩)] 59)).alloc (.cells #[.int .i64 0] 3)) (w.heap.size + 1) #[.int .i64 0] 3 := by
    have := Blk.new (w.alloc (.cells #[.pointer (some ⟨b, 0, none⟩)] 59)) #[.int .i64 0] 3
    simpa using this
  have HF : Hid (∀ fv, Calls Try.prog 53 #[.pointer (some ⟨b, 0, none⟩), fv] ((w.alloc (.cells #[.pointer (some ⟨b, 0, none⟩)] 59)).alloc (.cells #[.int .i64 0] 3)) fun e w' => e = .returned (.tuple #[]) ∧ Kept [] ((w.alloc (.cells #[.pointer (some ⟨b, 0, none⟩)] 59)).alloc (.cells #[.int .i64 0] 3)) w') := hide fun fv => take_fault (show RdF _ b c from (Blk.alloc (Blk.alloc h _) _)) hc fv
  have HK : Hid (Kept [] w ((w.alloc (.cells #[.pointer (some ⟨b, 0, none⟩)] 59)).alloc (.cells #[.int .i64 0] 3))) := hide (((Kept.refl [] w).alloc _).alloc _)
  have HQ := hide hq
  clear h hc hq
  go_enter Try.func37, Try.ntmps37
  go_wp2_with fail
  refine (unhide HF _).mono ?_
  rintro e w1 ⟨rfl, hk⟩
  have hcq := blk1 ((unhide HQ).kept hk (by simp))
  have HK1 := hide hk
  clear hk
  go_wp2
  go_ret
  exact ⟨rfl, (unhide HK).trans (unhide HK1) (by simp)⟩

set_option maxRecDepth 100000 in
set_option maxHeartbeats 400000 in
theorem rnum_fault {w : World} {b c : Nat} (h : RdF w b c) (hc : c ≠ 0) :
    Calls Try.prog 82 #[.pointer (some ⟨b, 0, none⟩)] w fun e w' => e = .returned (.int .u64 0) ∧ Kept [] w w' := by
  have hmf : ∀ (fn : Fn) (first cap : Array Value) (w : World), (Instr.makeFunc fn first cap).run Try.prog w = .ok (.func fn first cap) w := fun _ _ _ _ => rfl
  have hq : Blk ((w.alloc (.cells #[.pointer (some ⟨b, 0, none⟩)] 59)).alloc (.cells #[.int .u64 0] 56)) (w.heap.size + 1) #[.int .u64 0] 56 := by
    have := Blk.new (w.alloc (.cells #[.pointer (some ⟨b, 0, none⟩)] 59)) #[.int .u64 0] 56
    simpa using this
  have HF : Hid (∀ fv, Calls Try.prog 53 #[.pointer (some ⟨b, 0, none⟩), fv] ((w.alloc (.cells #[.pointer (some ⟨b, 0, none⟩)] 59)).alloc (.cells #[.int .u64 0] 56)) fun e w' => e = .returned (.tuple #[]) ∧ Kept [] ((w.alloc (.cells #[.pointer (some ⟨b, 0, none⟩)] 59)).alloc (.cells #[.int .u64 0] 56)) w') := hide fun fv => take_fault (show RdF _ b c from (Blk.alloc (Blk.alloc h _) _)) hc fv
  have HK : Hid (Kept [] w ((w.alloc (.cells #[.pointer (some ⟨b, 0, none⟩)] 59)).alloc (.cells #[.int .u64 0] 56))) := hide (((Kept.refl [] w).alloc _).alloc _)
  have HQ := hide hq
  clear h hc hq
  go_enter Try.func82, Try.ntmps82
  go_wp2_with fail
  refine (unhide HF _).mono ?_
  rintro e w1 ⟨rfl, hk⟩
  have hcq := blk1 ((unhide HQ).kept hk (by simp))
  have HK1 := hide hk
  clear hk
  go_wp2
  go_ret
  exact ⟨rfl, (unhide HK).trans (unhide HK1) (by simp)⟩

set_option maxRecDepth 100000 in
set_option maxHeartbeats 400000 in
theorem rtext_fault {w : World} {b c : Nat} (h : RdF w b c) (hc : c ≠ 0) (n : Int) :
    Calls Try.prog 95 #[.pointer (some ⟨b, 0, none⟩), .int .i64 n] w fun e w' => e = .returned (.slice none 0 0) ∧ Kept [] w w' := by
  have hmf : ∀ (fn : Fn) (first cap : Array Value) (w : World), (Instr.makeFunc fn first cap).run Try.prog w = .ok (.func fn first cap) w := fun _ _ _ _ => rfl
  have hq : Blk (((w.alloc (.cells #[.pointer (some ⟨b, 0, none⟩)] 59)).alloc (.cells #[.int .i64 n] 3)).alloc (.cells #[.slice none 0 0] 22)) (w.heap.size + 2) #[.slice none 0 0] 22 := by
    have := Blk.new ((w.alloc (.cells #[.pointer (some ⟨b, 0, none⟩)] 59)).alloc (.cells #[.int .i64 n] 3)) #[.slice none 0 0] 22
    simpa using this
  have HF : Hid (∀ fv, Calls Try.prog 53 #[.pointer (some ⟨b, 0, none⟩), fv] (((w.alloc (.cells #[.pointer (some ⟨b, 0, none⟩)] 59)).alloc (.cells #[.int .i64 n] 3)).alloc (.cells #[.slice none 0 0] 22)) fun e w' => e = .returned (.tuple #[]) ∧ Kept [] (((w.alloc (.cells #[.pointer (some ⟨b, 0, none⟩)] 59)).alloc (.cells #[.int .i64 n] 3)).alloc (.cells #[.slice none 0 0] 22)) w') := hide fun fv => take_fault (show RdF _ b c from (Blk.alloc (Blk.alloc (Blk.alloc h _) _) _)) hc fv
  have HK : Hid (Kept [] w (((w.alloc (.cells #[.pointer (some ⟨b, 0, none⟩)] 59)).alloc (.cells #[.int .i64 n] 3)).alloc (.cells #[.slice none 0 0] 22))) := hide ((((Kept.refl [] w).alloc _).alloc _).alloc _)
  have HQ := hide hq
  clear h hc hq
  go_enter Try.func95, Try.ntmps95
  go_wp2_with fail
  refine (unhide HF _).mono ?_
  rintro e w1 ⟨rfl, hk⟩
  have hcq := blk1 ((unhide HQ).kept hk (by simp))
  have HK1 := hide hk
  clear hk
  go_wp2
  go_ret
  exact ⟨rfl, (unhide HK).trans (unhide HK1) (by simp)⟩

end Go.Proofs.Ytocmgfmfalaebaa

/- A Thing: its kind, its size; what lays it down. -/
namespace Go.Proofs.Ytocmgfmfalaebaa
open Go.RowKit

/-- A thing: the value, and what its P reads as. -/
structure Th where
  kind : Int
  n : Nat
  i : Int
  pa : Option Addr
  pc : Nat
  p : List Nat

def Th.val (t : Th) : Value := .agg #[.int .i64 t.kind, .int .u64 (t.n : Int), .int .i64 t.i, .slice t.pa t.p.length t.pc]
def Th.pv (t : Th) : Value := .slice t.pa t.p.length t.pc
/-- It is a value of its type. -/
structure Th.ok (t : Th) : Prop where
  k1 : -9223372036854775808 ≤ t.kind
  k2 : t.kind ≤ 9223372036854775807
  n : t.n < 18446744073709551616
  i1 : -9223372036854775808 ≤ t.i
  i2 : t.i ≤ 9223372036854775807
  p : ∀ x ∈ t.p, x < 256

def rnd (x : Int) (n : Nat) : Nat := (x % n).toNat
theorem rnd_lt (x : Int) (n : Nat) (h : 0 < n) : rnd x n < n := by
  unfold rnd
  have h1 := Int.emod_nonneg x (b := (n : Int)) (by omega)
  have h2 := Int.emod_lt_of_pos x (b := (n : Int)) (by omega)
  omega
theorem rnd_of (x : Int) (n : Nat) (h : 0 < n) : (x.tmod n < 0 → x.tmod n + n = (rnd x n : Int)) ∧ (0 ≤ x.tmod n → x.tmod n = (rnd x n : Int)) := by
  have h1 := Int.emod_nonneg x (b := (n : Int)) (by omega)
  have h2 := Int.emod_lt_of_pos x (b := (n : Int)) (by omega)
  have h3 := Int.tmod_eq_emod (a := x) (b := (n : Int))
  unfold rnd
  split at h3 <;> constructor <;> intro h4 <;> (try simp at h3) <;> omega

end Go.Proofs.Ytocmgfmfalaebaa

/- Slices of bytes that come in: an empty one may have any address at all. lay, Raw, Text and same over those. -/
namespace Go.Proofs.Ytocmgfmfalaebaa
open Go.RowKit

/-- The slice v reads as the bytes bs; or it is empty, with no room, at whatever address. -/
def Wide (w : World) (v : Value) (bs : List Nat) : Prop := Sees w v bs ∨ ∃ a, v = .slice (some a) 0 0 ∧ bs = []
/-- The same, and it does not lie in the blocks F. -/
def Far (w : World) (v : Value) (bs : List Nat) (F : List Nat) : Prop := (Sees w v bs ∧ ∀ k, v.ownBlock = some k → k ∉ F) ∨ ∃ a, v = .slice (some a) 0 0 ∧ bs = []

theorem Sees.lt {w : World} {v : Value} {bs : List Nat} (h : Sees w v bs) {k : Nat} (hk : v.ownBlock = some k) : k < w.heap.size := by
  rcases h with ⟨rfl, _⟩ | ⟨b, off, cap, rfl, _, _, h3, _⟩
  · cases hk
  · cases hk; exact h3
theorem wide_len {w : World} {v : Value} {bs : List Nat} (h : Wide w v bs) : ∃ a cap, v = .slice a bs.length cap := by
  rcases h with h | ⟨a, rfl, rfl⟩
  · exact sees_len h
  · exact ⟨_, _, rfl⟩
theorem Wide.kept {w w' : World} {v : Value} {bs : List Nat} (h : Wide w v bs) (hk : Kept [] w w') : Wide w' v bs := by
  rcases h with h | h
  · exact Or.inl (h.kept hk (by simp))
  · exact Or.inr h
theorem Wide.far {w : World} {v : Value} {bs : List Nat} (h : Wide w v bs) {F : List Nat} (hF : ∀ k, k < w.heap.size → k ∉ F) : Far w v bs F := by
  rcases h with h | h
  · exact Or.inl ⟨h, fun k hk => hF k (h.lt hk)⟩
  · exact Or.inr h
theorem Far.wide {F : List Nat} {w w' : World} {v : Value} {bs : List Nat} (h : Far w v bs F) (hk : Kept F w w') : Wide w' v bs := by
  rcases h with ⟨h, hn⟩ | h
  · exact Or.inl (h.kept hk hn)
  · exact Or.inr h
theorem Far.keep {F : List Nat} {w w' : World} {v : Value} {bs : List Nat} (h : Far w v bs F) (hk : Kept [] w w') : Far w' v bs F := by
  rcases h with ⟨h, hn⟩ | h
  · exact Or.inl ⟨h.kept hk (by simp), hn⟩
  · exact Or.inr h
theorem Wide.at {w : World} {xa : Option Addr} {n xc : Nat} {bs : List Nat} (h : Wide w (.slice xa n xc) bs) (k : Nat) (hk : k < bs.length) :
    ∃ b off, xa = some ⟨b, off, none⟩ ∧ w.cell? ⟨b, off + k, none⟩ = some (.int .u8 (bs.getD k 0 : Nat)) := by
  rcases h with h | ⟨_, _, h2⟩
  · exact h.at k hk
  · subst h2; simp at hk

/-- 'append(dst, src...)' of bytes, src as above. -/
theorem wpList_append_wide {P : Program} (w : World) {ops : Array Oper} {rest : List Oper} {o : Oper} {a : Act} {Q : Exit → Act → World → Prop} (hgd : o.guard = none) (s x : Operand) (t : TypeId)
    (ho : o.op = .call { callee := .builtin .append, args := #[s, x], argTypes := #[t, t] })
    (base : Nat) (e : TypeId) (i : TypeInfo) (z : Value) (ht : P.underlying t = some (.slice e)) (hi : P.info? e = some i) (hz : i.zero = some z)
    (hsize : i.size = 1) (hby : i.bytes = 1) (hzs : z.cells.size = 1)
    (v : Value) (xs : List Nat) (hs : a.eval s = v) (hown : w.ownsRow base e 1 v xs.length (u8s xs)) (xv : Value) (ys : List Nat) (hxv : a.eval x = xv) (hx : Wide w xv ys)
    (h63 : xs.length + ys.length ≤ 140737488355328) (hbase : base ≤ w.heap.size)
    (h : ∀ v' w', w'.ownsRow base e 1 v' (xs ++ ys).length (u8s (xs ++ ys)) → w.grownBy w' v.ownBlock → (v'.ownBlock = v.ownBlock ∨ v'.ownBlock = some w.heap.size) → wpList P ops Q rest (a.put o.dst v') w') :
    wpList P ops Q (o :: rest) a w := by
  rcases hx with hx | ⟨c, hc, rfl⟩
  · exact wpList_append_sees w hgd s x t ho base e i z ht hi hz hsize hby hzs v xs hs hown xv ys hxv hx h63 hbase h
  · subst hc
    refine wpList_plain hgd fun K hK => ?_
    have hl0 : (loadCells c 0).run P w = .ok #[] w := rfl
    have hr : (Builtin.append_ #[t, t] o.type #[v, .slice (some c) 0 0]).run P w = .ok v w := by
      rcases hown.2 with ⟨rfl, h0⟩ | ⟨g, cap, cur, rfl, hbg, hg, hnc, hcm, hcs, htake⟩
      · simp [Builtin.append_, run_underlying ht, sizeOf, typeInfo, hi, Builtin.lenOf, Builtin.firstCells, hl0]
      · have : xs.length ≤ cap := hnc
        simp [Builtin.append_, run_underlying ht, sizeOf, typeInfo, hi, Builtin.lenOf, Builtin.firstCells, this, storeCells, hl0]
    unfold Oper.wp execOp
    simp only [ho, resolve, invoke, builtin, Sem.run_bind, Sem.run_pure, Result.andThen_ok, List.map_toArray, List.map_cons, List.map_nil, hs, hxv, hr]
    exact hK _ _ (h v w (by simpa using hown) ⟨rfl, rfl, rfl, Nat.le_refl _, fun _ _ _ => rfl⟩ (Or.inl rfl))

set_option maxRecDepth 100000 in
set_option maxHeartbeats 1000000 in
/-- lay where there is room. -/
theorem lay_fitsE {w : World} {b : Nat} {s : WS} {v sv : Value} (h : Wr w b s v sv) (hf : s.fault = 0) (pb pc : Nat) (ps : List (Value × List Nat))
    (hpb : Blk w pb (ps.map (·.1)).toArray 22) (hpn : pb ∉ foot b v sv) (hps : ∀ p, p ∈ ps → Far w p.1 p.2 (foot b v sv))
    (hl : s.bs.length + (cat ps).length ≤ 70368744177664) (hn : ps.length < 1000) (hroom : s.bs.length + (cat ps).length ≤ s.room) :
    Calls Try.prog 70 #[.pointer (some ⟨b, 0, none⟩), .slice (some ⟨pb, 0, none⟩) ps.length pc] w fun e w' => e = .returned (.tuple #[]) ∧
      ∃ v', Wr w' b { s with bs := s.bs ++ cat ps } v' sv ∧ Kept (foot b v sv) w w' ∧ ∀ x, x ∈ foot b v' sv → x ∈ foot b v sv ∨ w.heap.size ≤ x := by
  obtain ⟨i0, hi, hz0, hz1, hz2⟩ := info_parts Try.info5
  have HH := hide h
  have HPS := hide hps
  have HPB := hide hpb
  clear h hps hpb
  have hnn : (0 : Int) ≤ (ps.length : Int) := by omega
  go_enter Try.func70, Try.ntmps70
  go_wp2_with (first | (go_at_call 49; refine (fails_no (unhide HH) hf).mono ?_; rintro e w' ⟨rfl, rfl⟩))
  go_loop [4, 13] (fun sz i => ∃ k : Nat, k ≤ ps.length ∧ i = .int .i64 k ∧ sz = .int .i64 ((cat (ps.take k)).length : Nat)) (fun _ i => ps.length - (intOf i).toNat)
  case atStart => exact ⟨0, by omega, rfl, rfl⟩
  case round =>
    obtain ⟨k, hk, rfl, rfl⟩ := hrel
    have hle := cat_take_le ps k
    by_cases hlt : k < ps.length
    · have hce : w.cell? ⟨pb, k, none⟩ = some (ps[k].1) := by rw [(unhide HPB).cell]; simp [hlt]
      obtain ⟨a, cap, hv⟩ := wide_len (((unhide HPS) ps[k] (List.getElem_mem hlt)).wide (Kept.refl _ _))
      have ht : (cat (ps.take (k + 1))).length = (cat (ps.take k)).length + ps[k].2.length := by rw [cat_take ps k hlt]; simp
      have hle2 := cat_take_le ps (k + 1)
      have HT := hide ht
      clear ht
      rw [hv] at hce
      have hle3 : (cat (ps.take k)).length + ps[k].2.length ≤ (cat ps).length := by rw [← unhide HT]; exact hle2
      clear hle2
      clear hv
      go_wp2
      go_round
      case rel => exact ⟨k + 1, by omega, by go_num, by rw [unhide HT]; go_num⟩
      case measure => simp [intOf]; omega
    · have hkl : k = ps.length := by omega
      subst hkl
      rw [List.take_length]
      clear hle hk hlt
      go_wp2_with (first | (go_at_call 97; refine (hasRoom_any (unhide HH) _ (by omega) true (by simpa using hroom)).mono ?_; rintro e w1 ⟨rfl, hq⟩))
      have HH1 := hide ((unhide HH).quiet hq)
      go_loopw [30] (fun i wr => ∃ (k : Nat) (v' : Value), k ≤ ps.length ∧ i = .int .i64 k ∧ Wr wr b { s with bs := s.bs ++ cat (ps.take k) } v' sv ∧ Kept (foot b v sv) w wr ∧ (∀ x, x ∈ foot b v' sv → x ∈ foot b v sv ∨ w.heap.size ≤ x)) (fun i _ => ps.length - (intOf i).toNat)
      case atStart => exact ⟨0, v, by omega, rfl, by simpa [cat] using (unhide HH1), hq.kept.mono (by simp), fun x hx => Or.inl hx⟩
      case round =>
        obtain ⟨k, v1, hk, rfl, hwr, hkept, hfoot⟩ := hrel
        have hle := cat_take_le ps k
        have HK := hide hkept
        have HF := hide hfoot
        have HW := hide hwr
        clear hkept hfoot
        by_cases hlt : k < ps.length
        · have hnf : (∀ x, x ∈ foot b v1 sv → ¬ x = pb) := by
            intro x hx e; subst e
            rcases unhide HF _ hx with h1 | h1
            · exact hpn h1
            · have := (unhide HPB).lt; omega
          have hce : wr.cell? ⟨pb, k, none⟩ = some (ps[k].1) := by rw [((unhide HPB).kept (unhide HK) hpn).cell]; simp [hlt]
          have hs1 := (unhide HPS) ps[k] (List.getElem_mem hlt)
          have hs3 := hs1.wide (unhide HK)
          have HT := hide (cat_take ps k hlt)
          have hle2 : (cat (ps.take k)).length + ps[k].2.length ≤ (cat ps).length := by
            have h1 := cat_take_le ps (k + 1); rw [unhide HT] at h1; simpa using h1
          obtain ⟨c0, c1, c2, c3⟩ := blk4 hwr.blk
          have f1 := hwr.blk.frozen 1
          have hown := hwr.own
          clear hwr hs1
          go_wp2_with (at_builtin; refine wpList_append_wide _ rfl _ _ 22 rfl 0 5 i0 (.int .u8 0) Try.underlying22 hi hz0 hz1 hz2 rfl _ (s.bs ++ cat (ps.take k)) rfl hown _ ps[k].2 rfl hs3 ?c1 (Nat.zero_le _) ?_)
          case c1 => first | omega | (simp; omega)
          intro v2 w2 hown2 hg hat
          obtain ⟨a2, cap2, hv2⟩ := own_len hown2
          subst hv2
          have HR := hide ((unhide HW).grow ps[k].2 (by simpa [Nat.add_assoc] using hown2) hg hat (by simp; omega))
          have c1' : w2.cell? ⟨b, 1, none⟩ = some v1 := hg.cell c1 (fun e => (unhide HW).n1 e.symm)
          have f1' : w2.frozen? ⟨b, 1, none⟩ = false := (World.frozen?_of_block (hg.block b (unhide HW).blk.lt (fun e => (unhide HW).n1 e.symm))).trans f1
          clear hown hown2 hg hat c0 c1 c2 c3 f1 hs3 hce
          go_wp2
          go_roundw
          case rel =>
            obtain ⟨r1, r2, r3⟩ := unhide HR
            refine ⟨k + 1, .slice a2 (s.bs.length + ((cat (ps.take k)).length + ps[k].2.length)) cap2, by omega, by go_num, ?_, (unhide HK).trans r2 (fun x hx => unhide HF x hx), fun x hx => ?_⟩
            · rw [unhide HT]; simpa using r1
            · rcases r3 x hx with h1 | h1
              · exact unhide HF x h1
              · right; have := (unhide HK).size; omega
          case measure => simp [intOf]; omega
        · have hkl : k = ps.length := by omega
          subst hkl
          clear hwr
          go_wp2
          go_end0
          refine ⟨rfl, v1, ?_, unhide HK, unhide HF⟩
          have := unhide HW
          rwa [List.take_length] at this

set_option maxRecDepth 100000 in
set_option maxHeartbeats 1000000 in
/-- lay where there is no room. -/
theorem lay_nofitE {w : World} {b : Nat} {s : WS} {v sv : Value} (h : Wr w b s v sv) (hf : s.fault = 0) (pb pc : Nat) (ps : List (Value × List Nat))
    (hpb : Blk w pb (ps.map (·.1)).toArray 22) (hps : ∀ p, p ∈ ps → Wide w p.1 p.2)
    (hl : s.bs.length + (cat ps).length ≤ 70368744177664) (hn : ps.length < 1000) (hroom : ¬ s.bs.length + (cat ps).length ≤ s.room) :
    Calls Try.prog 70 #[.pointer (some ⟨b, 0, none⟩), .slice (some ⟨pb, 0, none⟩) ps.length pc] w fun e w' => e = .returned (.tuple #[]) ∧ Wr w' b (failWS 13) nilS nilS ∧ Kept [b] w w' := by
  have HH := hide h
  have HPS := hide hps
  have HPB := hide hpb
  clear h hps hpb
  have hnn : (0 : Int) ≤ (ps.length : Int) := by omega
  go_enter Try.func70, Try.ntmps70
  go_wp2_with (first | (go_at_call 49; refine (fails_no (unhide HH) hf).mono ?_; rintro e w' ⟨rfl, rfl⟩))
  go_loop [4, 13] (fun sz i => ∃ k : Nat, k ≤ ps.length ∧ i = .int .i64 k ∧ sz = .int .i64 ((cat (ps.take k)).length : Nat)) (fun _ i => ps.length - (intOf i).toNat)
  case atStart => exact ⟨0, by omega, rfl, rfl⟩
  case round =>
    obtain ⟨k, hk, rfl, rfl⟩ := hrel
    have hle := cat_take_le ps k
    by_cases hlt : k < ps.length
    · have hce : w.cell? ⟨pb, k, none⟩ = some (ps[k].1) := by rw [(unhide HPB).cell]; simp [hlt]
      obtain ⟨a, cap, hv⟩ := wide_len ((unhide HPS) ps[k] (List.getElem_mem hlt))
      have ht : (cat (ps.take (k + 1))).length = (cat (ps.take k)).length + ps[k].2.length := by rw [cat_take ps k hlt]; simp
      have hle2 := cat_take_le ps (k + 1)
      have HT := hide ht
      clear ht
      rw [hv] at hce
      have hle3 : (cat (ps.take k)).length + ps[k].2.length ≤ (cat ps).length := by rw [← unhide HT]; exact hle2
      clear hle2
      clear hv
      go_wp2
      go_round
      case rel => exact ⟨k + 1, by omega, by go_num, by rw [unhide HT]; go_num⟩
      case measure => simp [intOf]; omega
    · have hkl : k = ps.length := by omega
      subst hkl
      rw [List.take_length]
      clear hle hk hlt
      have HRM := hide hroom
      clear hroom
      go_wp2_with (first | (go_at_call 97; refine (hasRoom_any (unhide HH) _ (by omega) false (by simpa using unhide HRM)).mono ?_; rintro e w1 ⟨rfl, hq⟩) | (go_at_call 69; refine (fail_do ((unhide HH).quiet hq) hf 13 (by omega)).mono ?_; rintro e w2 ⟨rfl, hw2, hk2⟩))
      refine bodyPost_ret (results_none rfl _ _ _) rfl ?_
      exact ⟨rfl, hw2, (hq.kept.mono (by simp)).trans hk2 (fun x hx => Or.inl hx)⟩

theorem lay_anyE {w : World} {b : Nat} {s : WS} {v sv : Value} (h : Wr w b s v sv) (pb pc : Nat) (ps : List (Value × List Nat))
    (hpb : Blk w pb (ps.map (·.1)).toArray 22) (hpn : pb ∉ foot b v sv) (hps : ∀ p, p ∈ ps → Far w p.1 p.2 (foot b v sv))
    (hl : s.bs.length + (cat ps).length ≤ 70368744177664) (hn : ps.length < 1000) :
    Calls Try.prog 70 #[.pointer (some ⟨b, 0, none⟩), .slice (some ⟨pb, 0, none⟩) ps.length pc] w fun e w' => e = .returned (.tuple #[]) ∧ WPost w b v sv (wLay s (cat ps)) w' := by
  unfold wLay
  by_cases hf : s.fault = 0
  · rw [if_neg (by omega)]
    by_cases hr : s.bs.length + (cat ps).length ≤ s.room
    · rw [if_pos hr]
      refine (lay_fitsE h hf pb pc ps hpb hpn hps hl hn hr).mono ?_
      rintro e w' ⟨rfl, v', h1, h2, h3⟩
      exact ⟨rfl, v', sv, h1, h2, h3⟩
    · rw [if_neg hr]
      refine (lay_nofitE h hf pb pc ps hpb (fun p hp => (hps p hp).wide (Kept.refl _ _)) hl hn hr).mono ?_
      rintro e w' ⟨rfl, h1, h2⟩
      exact ⟨rfl, WPost.fail h1 h2⟩
  · rw [if_pos hf]
    refine (lay_faulty h hf _).mono ?_
    rintro e w' ⟨rfl, rfl⟩
    exact ⟨rfl, WPost.same h (Kept.refl _ _)⟩

/-- lay with one part, behind what made it: 'w' is the world ahead. -/
theorem lay_partE {w w1 : World} {b : Nat} {s : WS} {v sv : Value} (h : Wr w b s v sv) (fv : Value) (fs : List Nat)
    (hfo : Far w1 fv fs (foot b v sv)) (hk1 : Kept [] w w1)
    (hl : s.bs.length + fs.length ≤ 70368744177664) :
    Calls Try.prog 70 #[.pointer (some ⟨b, 0, none⟩), .slice (some ⟨w1.heap.size, 0, none⟩) 1 1] (w1.alloc (.cells #[fv] 22)) fun e w' => e = .returned (.tuple #[]) ∧ WPost w b v sv (wLay s fs) w' := by
  have hfl := foot_lt h
  have hks := hk1.size
  have ec : cat [(fv, fs)] = fs := by simp [cat]
  have h1 : Wr (w1.alloc (.cells #[fv] 22)) b s v sv := (h.kept hk1 (by simp)).alloc _
  refine (lay_anyE h1 w1.heap.size 1 [(fv, fs)] (Blk.new _ _ _) (fun hm => by have := hfl _ hm; omega) ?_ (by rw [ec]; exact hl) (by simp)).mono ?_
  · intro p hp
    simp at hp; subst hp
    exact hfo.keep ((Kept.refl [] _).alloc _)
  · rintro e w' ⟨rfl, hp⟩
    rw [ec] at hp
    exact ⟨rfl, hp.from (hk1.alloc _)⟩

set_option maxRecDepth 100000 in
set_option maxHeartbeats 400000 in
theorem wtext_anyE {w : World} {b : Nat} {s : WS} {v sv : Value} (h : Wr w b s v sv) (pv : Value) (ps : List Nat) (hp : Far w pv ps (foot b v sv)) (hl : s.bs.length + ps.length ≤ 35184372088832) :
    Calls Try.prog 93 #[.pointer (some ⟨b, 0, none⟩), pv] w fun e w' => e = .returned (.tuple #[]) ∧ WPost w b v sv (wLay s (form ps.length ++ ps)) w' := by
  obtain ⟨pa, pc, rfl⟩ := wide_len (hp.wide (Kept.refl _ _))
  have h10 := form_le10 ps.length (by omega)
  have hlay : ∀ w1 fv, Kept [] w w1 → w1.ownsRow w.heap.size 5 1 fv (form ps.length).length (u8s (form ps.length)) →
      Calls Try.prog 70 #[.pointer (some ⟨b, 0, none⟩), .slice (some ⟨w1.heap.size, 0, none⟩) 2 2] (w1.alloc (.cells #[fv, .slice pa ps.length pc] 22)) fun e w' => e = .returned (.tuple #[]) ∧ WPost w b v sv (wLay s (form ps.length ++ ps)) w' := by
    intro w1 fv hk1 hfo
    have hks := hk1.size
    have ec : cat [(fv, form ps.length), (.slice pa ps.length pc, ps)] = form ps.length ++ ps := by simp [cat]
    have h1 : Wr (w1.alloc (.cells #[fv, .slice pa ps.length pc] 22)) b s v sv := (h.kept hk1 (by simp)).alloc _
    refine (lay_anyE h1 w1.heap.size 2 [(fv, form ps.length), (.slice pa ps.length pc, ps)] (Blk.new _ _ _) (fresh_foot h hks) ?_ (by rw [ec]; simp; omega) (by simp)).mono ?_
    · intro p hpp
      simp at hpp
      rcases hpp with rfl | rfl
      · exact Or.inl ⟨sees_alloc _ (Sees.of_own hfo), fun k hk => fresh_foot h (hfo.lt k hk).1⟩
      · exact (hp.keep hk1).keep ((Kept.refl [] _).alloc _)
    · rintro e w' ⟨rfl, hpo⟩
      rw [ec] at hpo
      exact ⟨rfl, hpo.from (hk1.alloc _)⟩
  have HL := hide hlay
  clear hlay h hp
  go_enter Try.func93, Try.ntmps93
  go_wp2_with (first | (go_at_call 99; refine (form_any' ps.length _ (by omega)).mono ?_; rintro e w1 ⟨fa, fc, rfl, hfo, hk1⟩) | (go_at_call 70; refine (unhide HL _ _ hk1 hfo).mono ?_; rintro e w2 ⟨rfl, HX⟩))
  go_end0
  exact ⟨rfl, HX⟩

set_option maxRecDepth 100000 in
set_option maxHeartbeats 400000 in
/-- same: are two slices of bytes alike? -/
theorem same_yesE {w : World} {x y : Value} {bs : List Nat} (h1 : Sees w x bs) (h2 : Wide w y bs) (hl : bs.length ≤ 140737488355328) :
    Calls Try.prog 16 #[x, y] w fun e w' => e = .returned (.bool true) ∧ ∃ m, w' = w.drewN m := by
  obtain ⟨xa, xc, rfl⟩ := sees_len h1
  obtain ⟨ya, yc, rfl⟩ := wide_len h2
  go_enter Try.func16, Try.ntmps16
  go_wp2
  go_loopw [5] (fun i wr => ∃ k : Nat, k ≤ bs.length ∧ i = .int .i64 k ∧ ∃ m, wr = w.drewN m) (fun i _ => bs.length - (intOf i).toNat)
  case atStart => exact ⟨0, by omega, rfl, 0, rfl⟩
  case round =>
    obtain ⟨k, hk, rfl, m, hq⟩ := hrel
    subst hq
    by_cases hlt : k < bs.length
    · obtain ⟨xb, xo, rfl, hx⟩ := h1.at k hlt
      obtain ⟨yb, yo, rfl, hy⟩ := h2.at k hlt
      generalize bs.getD k 0 = z at hx hy
      clear h1 h2
      go_wp2
      go_quiet (fail)
      go_wp2
      go_roundw
      case rel => exact ⟨k + 1, by omega, by go_num, _, rfl⟩
      case measure => simp [intOf]; omega
    · go_wp2
      go_ret
      exact ⟨rfl, _, rfl⟩
end Go.Proofs.Ytocmgfmfalaebaa

/- A Thing goes into a writer. -/
namespace Go.Proofs.Ytocmgfmfalaebaa
open Go.RowKit

def Th.k (t : Th) : Nat := rnd t.kind 9
theorem Th.k_lt (t : Th) : t.k < 9 := rnd_lt _ _ (by omega)
/-- What a thing that is no Open and no Close is laid down as. -/
def Th.bytes (t : Th) : List Nat :=
  match t.k with
  | 0 => [rnd t.i 256]
  | 1 => le t.n (1 + rnd t.i 8)
  | 2 => form t.n
  | 3 => form (fold t.i)
  | 4 => be8 (canon t.n)
  | 5 => t.p
  | 6 => form t.p.length ++ t.p
  | _ => []
def Th.lay (t : Th) (s : WS) : WS := if t.k = 7 then wOpen s else if t.k = 8 then wClose s else wLay s t.bytes

end Go.Proofs.Ytocmgfmfalaebaa

/- A Thing comes back out of a reader. -/
namespace Go.Proofs.Ytocmgfmfalaebaa
open Go.RowKit

theorem leV_le (n k : Nat) : leV (le n k) = n % 256 ^ k := by
  induction k with
  | zero => simp [le, leV, Nat.mod_one]
  | succ k ih =>
    rw [le, leV_append, ih, le_len, leV, leV, Nat.pow_succ, Nat.mod_mul]
    simp

/-- Behind a call that takes what stands there. -/
def Took (w : World) (b : Nat) (lv bv : Value) (rest : List Nat) (w' : World) : Prop := (∃ lv', Rd w' b lv' bv rest ∧ lv'.ownBlock = lv.ownBlock) ∧ Kept [b] w w'

end Go.Proofs.Ytocmgfmfalaebaa

/- A Thing comes back out of a reader: real numbers, raw bytes, texts. -/
namespace Go.Proofs.Ytocmgfmfalaebaa
open Go.RowKit

theorem canon_cases (n : Nat) : (nanB n = false ∧ canon n = n) ∨ (nanB n = true ∧ canon n = oneNaN) := by
  unfold canon
  cases h : nanB n
  · left; exact ⟨rfl, by simp⟩
  · right; exact ⟨rfl, by simp⟩
theorem canon_lt (n : Nat) (hn : n < 18446744073709551616) : canon n < 18446744073709551616 := by
  rcases canon_cases n with ⟨_, h⟩ | ⟨_, h⟩ <;> rw [h]
  · exact hn
  · decide
theorem canon_nan (n : Nat) : nanB (canon n) = false ∨ (nanB (canon n) = true ∧ canon n = oneNaN) := by
  rcases canon_cases n with ⟨h1, h⟩ | ⟨_, h⟩ <;> rw [h]
  · exact Or.inl h1
  · exact Or.inr ⟨nan_one, rfl⟩

theorem Took.drewN {w w' : World} {b : Nat} {lv bv : Value} {rest : List Nat} (h : Took w b lv bv rest w') (m : Nat) : Took w b lv bv rest (w'.drewN m) := by
  obtain ⟨⟨lv', h1, h2⟩, h3⟩ := h
  exact ⟨⟨lv', h1.kept ((Kept.refl [] _).drewN m) (by simp) (by simp), h2⟩, h3.drewN m⟩

end Go.Proofs.Ytocmgfmfalaebaa

/- A Thing comes back out of a reader, whatever it is: frames, too. -/
namespace Go.Proofs.Ytocmgfmfalaebaa
open Go.RowKit

/-- The reader goes from l with bh behind its frames to l' with bh'. -/
def RStep (t : Th) (l : List Nat) (bh : List (List Nat)) (l' : List Nat) (bh' : List (List Nat)) : Prop :=
  (t.k < 7 ∧ l = t.bytes ++ l' ∧ bh' = bh) ∨ (t.k = 7 ∧ bh.length < 16 ∧ ∃ rest, l = form l'.length ++ (l' ++ rest) ∧ bh' = bh ++ [rest]) ∨ (t.k = 8 ∧ l = [] ∧ bh = bh' ++ [l'])

/-- Behind a call on the reader. -/
def RPost (w : World) (b : Nat) (bv : Value) (D : Option Nat) (l' : List Nat) (bh' : List (List Nat)) (w' : World) : Prop :=
  ∃ lv' bv' hs', Rf w' b lv' bv' hs' l' bh' D ∧ Kept (rfoot b bv) w w' ∧ ∀ x, x ∈ rfoot b bv' → x ∈ rfoot b bv ∨ w.heap.size ≤ x

theorem RPost.from {w W w' : World} {b : Nat} {bv : Value} {D : Option Nat} {l' : List Nat} {bh' : List (List Nat)} (k : Kept [] w W) (h : RPost W b bv D l' bh' w') : RPost w b bv D l' bh' w' := by
  obtain ⟨lv', bv', hs', h1, h2, h3⟩ := h
  refine ⟨lv', bv', hs', h1, (k.mono (by simp)).trans h2 (fun x hx => Or.inl hx), fun x hx => ?_⟩
  rcases h3 x hx with h | h
  · exact Or.inl h
  · right; have := k.size; omega

theorem Took.post {w w' : World} {b : Nat} {lv bv : Value} {hs : List Value} {l rest : List Nat} {bh : List (List Nat)} {D : Option Nat} (h : Rf w b lv bv hs l bh D) (ht : Took w b lv bv rest w') : RPost w b bv D rest bh w' := by
  obtain ⟨⟨lv', h1, h2⟩, h3⟩ := ht
  exact ⟨lv', bv, hs, h.step h1 h2 h3, h3.mono (fun x hx => by simp at hx; subst hx; exact Or.inl (by simp [rfoot])), fun x hx => Or.inl hx⟩

end Go.Proofs.Ytocmgfmfalaebaa
