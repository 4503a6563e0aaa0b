/- Deliver, Drop, Twice. -/
import Derived.Test.YtcohdkemfkiekaaUCallZ
namespace Go.Proofs.Ytcohdkemfkiekaa
open Go.RowKit Go.Maps
set_option linter.unusedSimpArgs false

def zeroL : Value := .agg #[.int .i64 0, .int .i64 0, .int .i64 0, .slice none 0 0]
set_option maxRecDepth 100000 in
theorem nfind (w : World) (n : Int) : Calls Try.prog 40 #[.pointer none, .int .i64 n] w fun e w' => e = .returned (.tuple #[.agg #[.int .i64 0, .int .i64 0, .string ByteArray.empty], .int .i64 1]) ∧ Kept [] w w' := by
  go_enter Try.func40, Try.ntmps40
  go_upto_region 1 with fail
  refine world_at (R := fun X => Kept [] w X ∧ Blk X w.heap.size #[.int .i64 0, .int .i64 0, .string ByteArray.empty] 77) ⟨(Kept.refl [] w).alloc _, Blk.new _ _ _⟩ ?_
  rintro X ⟨hk, hr⟩
  have HR := hide hr
  have HK := hide hk
  clear hk hr
  go_wp2_with (refine wpList_store_row rfl 77 _ _ rfl w.heap.size _ rfl rfl 77 _ (unhide HR) infoMsg rfl (by simp [Value.oneCell']) ?_)
  refine ret_struct_tmp rfl rfl (setRow_heap _ _ _ _ _ _ (unhide HR)) Try.underlying77 infoMsg rfl ?_
  exact ⟨rfl, (unhide HK).setRow (Or.inr (Nat.le_refl _)) _⟩
/-- What find answers, of a bag or of none. -/
def FindE (ptr : Value) (w : World) (n c : Int) : Prop := ∀ W, Kept [] w W → Calls Try.prog 40 #[ptr, .int .i64 n] W fun e w' => e = .returned (.tuple #[.agg #[.int .i64 0, .int .i64 0, .string ByteArray.empty], .int .i64 c]) ∧ Kept [] W w'
theorem FindE.nil (w : World) (n : Int) : FindE (.pointer none) w n 1 := fun W _ => nfind W n
theorem FindE.none {w : World} {b : Nat} {F : List Nat} {g : Bg} (h : Bk w b F g) {n : Int} (h1 : -9223372036854775808 ≤ n) (h2 : n ≤ 9223372036854775807) (hl : look g.row n = none) : FindE (.pointer (some ⟨b, 0, none⟩)) w n 200 := fun W k => by
  have := find_any (h.kept k (by simp)) h1 h2
  have hz : msV zeroMs = .agg #[.int .i64 0, .int .i64 0, .string ByteArray.empty] := by unfold msV zeroMs; simp only [strB_nil]
  rw [hl] at this
  simp only [Option.getD_none, Option.isSome_none, hz] at this
  exact this
theorem find_yes {w : World} {b : Nat} {F : List Nat} {g : Bg} (h : Bk w b F g) {n : Int} (h1 : -9223372036854775808 ≤ n) (h2 : n ≤ 9223372036854775807) {m : Ms} (hl : look g.row n = some m) (W : World) (k : Kept [] w W) : Calls Try.prog 40 #[.pointer (some ⟨b, 0, none⟩), .int .i64 n] W fun e w' => e = .returned (.tuple #[.agg #[.int .i64 m.frm, .int .i64 m.dst, .string (strB m.dat)], .int .i64 0]) ∧ Kept [] W w' := by
  have := find_any (h.kept k (by simp)) h1 h2
  rw [hl] at this
  exact this
set_option maxRecDepth 100000 in
theorem drop_err {ptr : Value} {w : World} {n c : Int} (hf : FindE ptr w n c) (hc : c ≠ 0) : Calls Try.prog 22 #[ptr, .int .i64 n] w fun e w' => e = .returned (.int .i64 c) ∧ Kept [] w w' := by
  have HF := hide hf
  have hc2 : (c != 0) = true := by rw [bne_iff_ne]; exact hc
  clear hf hc
  go_enter Try.func22, Try.ntmps22
  go_wp2_with (go_at_call 40; refine (unhide HF _ (by first | exact Kept.refl _ _ | exact (Kept.refl _ _).alloc _)).mono ?_; rintro e w1 ⟨rfl, k1⟩; have HK := hide k1; clear k1)
  go_ret
  exact ⟨rfl, (unhide HK).alloc _⟩
set_option maxRecDepth 100000 in
theorem twice_err {ptr : Value} {w : World} {n c : Int} (hf : FindE ptr w n c) (hc : c ≠ 0) : Calls Try.prog 17 #[ptr, .int .i64 n] w fun e w' => e = .returned (.tuple #[.int .i64 0, .int .i64 c]) ∧ Kept [] w w' := by
  have HF := hide hf
  have hc2 : (c != 0) = true := by rw [bne_iff_ne]; exact hc
  clear hf hc
  go_enter Try.func17, Try.ntmps17
  go_wp2_with (go_at_call 40; refine (unhide HF _ (by first | exact Kept.refl _ _ | exact (Kept.refl _ _).alloc _)).mono ?_; rintro e w1 ⟨rfl, k1⟩; have HK := hide k1; clear k1)
  go_ret2
  exact ⟨rfl, (unhide HK).alloc _⟩
set_option maxRecDepth 100000 in
theorem deliver_err {ptr : Value} {w : World} {n c : Int} (hf : FindE ptr w n c) (hc : c ≠ 0) : Calls Try.prog 21 #[ptr, .int .i64 n] w fun e w' => e = .returned (.tuple #[zeroL, .int .i64 c]) ∧ Kept [] w w' := by
  have HF := hide hf
  have hc2 : (c != 0) = true := by rw [bne_iff_ne]; exact hc
  clear hf hc
  go_enter Try.func21, Try.ntmps21
  go_upto_region 1 with fail
  refine world_at (R := fun X => Kept [] w X ∧ Blk X w.heap.size #[.int .i64 0, .int .i64 0, .int .i64 0, .slice none 0 0] 48) ⟨(Kept.refl [] w).alloc _, Blk.new _ _ _⟩ ?_
  rintro X ⟨hk, hr⟩
  have HR := hide hr
  have HK := hide hk
  clear hk hr
  go_wp2_with (first
    | (go_at_call 40; refine (unhide HF _ (unhide HK)).mono ?_; rintro e w1 ⟨rfl, k1⟩; have HK1 := hide k1; clear k1)
    | (refine wpList_store_row rfl 48 _ _ rfl w.heap.size _ rfl rfl 48 _ (((unhide HR).kept (unhide HK1) (by simp)).alloc _) infoLtr rfl (by simp [Value.oneCell']) ?_))
  refine ret_struct_tmp rfl rfl (setRow_heap _ _ _ _ _ _ (((unhide HR).kept (unhide HK1) (by simp)).alloc _)) Try.underlying48 infoLtr rfl ?_
  exact ⟨rfl, (((unhide HK).trans (unhide HK1) (by simp)).alloc _).setRow (Or.inr (Nat.le_refl _)) _⟩
set_option maxRecDepth 100000 in
theorem drop_yes {w : World} {b : Nat} {F : List Nat} {g : Bg} (h : Bk w b F g) (hs : g.sum < 4611686018427387904) {n : Int} (h1 : -9223372036854775808 ≤ n) (h2 : n ≤ 9223372036854775807) {m : Ms} (hl : look g.row n = some m) : Calls Try.prog 22 #[.pointer (some ⟨b, 0, none⟩), .int .i64 n] w fun e w' => e = .returned (.int .i64 0) ∧ Bk w' b F (g.gone n 4) ∧ Kept F w w' := by
  have HF := hide (find_yes h h1 h2 hl)
  have HRm := hide (fun W (k : Kept [] w W) => remove_4 (h.kept k (by simp)) hs hl h1 h2)
  clear h hl
  go_enter Try.func22, Try.ntmps22
  go_wp2_with (first
    | (go_at_call 40; refine (unhide HF _ (by first | exact Kept.refl _ _ | exact (Kept.refl _ _).alloc _)).mono ?_; rintro e w1 ⟨rfl, k1⟩; have HK := hide k1; clear k1)
    | (go_at_call 46; refine (unhide HRm _ ((unhide HK).alloc _)).mono ?_; rintro e w2 ⟨rfl, hb, k2⟩; have HB := hide hb; have HK2 := hide (k2.from' ((unhide HK).alloc _)); clear hb k2))
  go_ret
  exact ⟨rfl, unhide HB, unhide HK2⟩
set_option maxRecDepth 100000 in
set_option maxHeartbeats 800000 in
theorem deliver_yes {w : World} {b : Nat} {F : List Nat} {g : Bg} (h : Bk w b F g) (hs : g.sum < 4611686018427387904) {n : Int} (h1 : -9223372036854775808 ≤ n) (h2 : n ≤ 9223372036854775807) {m : Ms} (hl : look g.row n = some m) : Calls Try.prog 21 #[.pointer (some ⟨b, 0, none⟩), .int .i64 n] w fun e w' => ∃ v, e = .returned (.tuple #[v, .int .i64 0]) ∧ LtrP w n m v w' ∧ Bk w' b F (g.gone n 3) ∧ Kept F w w' := by
  have HF := hide (find_yes h h1 h2 hl)
  have HRm := hide (fun W (k : Kept [] w W) => remove_3 (h.kept k (by simp)) hs hl h1 h2)
  have hby := h.1.byt _ (look_mem hl)
  have HLt := hide (fun W => letter_any W m hby.1 hby.2 n)
  have HFl := hide h.lt
  unfold msV at HLt
  clear h hl hby
  go_enter Try.func21, Try.ntmps21
  go_upto_region 1 with fail
  refine world_at (R := fun X => Kept [] w X ∧ Blk X w.heap.size #[.int .i64 0, .int .i64 0, .int .i64 0, .slice none 0 0] 48) ⟨(Kept.refl [] w).alloc _, Blk.new _ _ _⟩ ?_
  rintro X ⟨hk, hr⟩
  have HR := hide hr
  have HK := hide hk
  clear hk hr
  go_upto_region 2 with (go_at_call 40; refine (unhide HF _ (unhide HK)).mono ?_; rintro e w1 ⟨rfl, k1⟩; have HK1 := hide k1; clear k1)
  refine world_at (R := fun Y => Kept [] w Y ∧ Blk Y w.heap.size #[.int .i64 0, .int .i64 0, .int .i64 0, .slice none 0 0] 48 ∧ Blk Y w1.heap.size #[.int .i64 m.frm, .int .i64 m.dst, .string (strB m.dat)] 77 ∧ w.heap.size < w1.heap.size) ⟨((unhide HK).trans (unhide HK1) (by simp)).alloc _, ((unhide HR).kept (unhide HK1) (by simp)).alloc _, Blk.new _ _ _, Nat.lt_of_lt_of_le (unhide HR).lt (unhide HK1).size⟩ ?_
  rintro Y ⟨hy1, hy2, hy3, hy4⟩
  generalize w1.heap.size = B1 at *
  have HY := hide (And.intro hy1 (And.intro hy2 (And.intro hy3 hy4)))
  clear hy1 hy2 hy3 hy4 HK HK1 HR
  go_upto_region 5 with (go_at_call 46; refine (unhide HRm _ (unhide HY).1).mono ?_; rintro e w2 ⟨rfl, hb, k2⟩; have HB := hide hb; have HK2 := hide k2; clear hb k2)
  have hr2 := (unhide HY).2.1.kept (unhide HK2) (fun hm => by have := unhide HFl _ hm; omega)
  have hm2 := (unhide HY).2.2.1.kept (unhide HK2) (fun hm => by have := unhide HFl _ hm; have := (unhide HY).2.2.2; omega)
  have d0 := hm2.cell 0
  have d1 := hm2.cell 1
  have d2 := hm2.cell 2
  simp only [List.getElem?_toArray, List.getElem?_cons_zero, List.getElem?_cons_succ] at d0 d1 d2
  have HR2 := hide hr2
  clear hr2 hm2
  go_wp2_with (first
    | (go_at_call 41; refine (unhide HLt _).mono ?_; rintro e w3 ⟨v, rfl, hv, k3⟩; obtain ⟨sl, rfl, hv⟩ := hv; have HV := hide hv; have HK3 := hide k3; clear k3 hv)
    | (refine wpList_store_row rfl 48 _ _ rfl w.heap.size _ rfl rfl 48 _ ((unhide HR2).kept (unhide HK3) (by simp)) infoLtr rfl (by obtain ⟨g1, c1, cu, rfl, -⟩ := unhide HV; simp [Value.oneCell']) ?_))
  refine ret_struct_tmp rfl rfl (setRow_heap _ _ _ _ _ _ ((unhide HR2).kept (unhide HK3) (by simp))) Try.underlying48 infoLtr rfl ?_
  have kS : Kept [w.heap.size] w3 (w3.setRow w.heap.size #[.int .i64 n, .int .i64 m.frm, .int .i64 m.dst, sl]) := (Kept.refl _ _).setRow (Or.inl (by simp)) _
  have hsz : w.heap.size < w2.heap.size := (unhide HR2).lt
  refine ⟨_, rfl, ⟨sl, rfl, ((unhide HV).kept kS (fun x hx hm => by obtain ⟨y, e1, e2, _⟩ := (unhide HV).own; rw [e1] at hx; simp at hx hm; omega)).down (by omega)⟩, ((unhide HB).kept (unhide HK3) (by simp)).kept kS (fun x hx hm => by have := unhide HFl x hx; simp at hm; omega), (((unhide HK2).from' (unhide HY).1).trans (unhide HK3) (by simp)).setRow (Or.inr (Nat.le_refl _)) _⟩
set_option maxRecDepth 100000 in
theorem twice_full {w : World} {b : Nat} {F : List Nat} {g : Bg} (h : Bk w b F g) (hs : g.sum < 4611686018427387904) (hr : 65536 ≤ g.row.length) {n : Int} (h1 : -9223372036854775808 ≤ n) (h2 : n ≤ 9223372036854775807) {m : Ms} (hl : look g.row n = some m) : Calls Try.prog 17 #[.pointer (some ⟨b, 0, none⟩), .int .i64 n] w fun e w' => e = .returned (.tuple #[.int .i64 0, .int .i64 201]) ∧ Bk w' b F g.loses ∧ Kept F w w' := by
  have HF := hide (find_yes h h1 h2 hl)
  have HA := hide (fun W (k : Kept [] w W) => add_full_2 (h.kept k (by simp)) hs hr m)
  unfold msV at HA
  clear h hl
  go_enter Try.func17, Try.ntmps17
  go_upto_region 2 with (go_at_call 40; refine (unhide HF _ (Kept.refl _ _)).mono ?_; rintro e w1 ⟨rfl, k1⟩; have HK1 := hide k1; clear k1)
  refine world_at (R := fun Y => Kept [] w Y ∧ Blk Y w1.heap.size #[.int .i64 m.frm, .int .i64 m.dst, .string (strB m.dat)] 77) ⟨(unhide HK1).alloc _, Blk.new _ _ _⟩ ?_
  rintro Y ⟨hy1, hm2⟩
  have d0 := hm2.cell 0
  have d1 := hm2.cell 1
  have d2 := hm2.cell 2
  simp only [List.getElem?_toArray, List.getElem?_cons_zero, List.getElem?_cons_succ] at d0 d1 d2
  have HY := hide hy1
  clear hy1 hm2
  go_wp2_with fail
  go_region_with (go_at_call 39; refine (unhide HA _ (by first | exact unhide HY | exact (unhide HY).drew | exact (unhide HY).drewN _)).mono ?_; rintro e w2 ⟨rfl, hb, k2⟩; have HB := hide hb; have HK2 : Hid (Kept F w w2) := (by first | exact k2.from' (unhide HY) | exact k2.from' (unhide HY).drew); clear hb k2)
  all_goals
    go_wp2_with fail
    go_ret2
    exact ⟨rfl, unhide HB, unhide HK2⟩
set_option maxRecDepth 100000 in
theorem twice_ok {w : World} {b : Nat} {F : List Nat} {g : Bg} (h : Bk w b F g) (hs : g.sum < 4611686018427387904) (hr : g.row.length < 65536) {n : Int} (h1 : -9223372036854775808 ≤ n) (h2 : n ≤ 9223372036854775807) {m : Ms} (hl : look g.row n = some m) : Calls Try.prog 17 #[.pointer (some ⟨b, 0, none⟩), .int .i64 n] w fun e w' => e = .returned (.tuple #[.int .i64 g.next, .int .i64 0]) ∧ BkP w b F (g.put m 2) w' := by
  have HF := hide (find_yes h h1 h2 hl)
  have hmo : m.ok := ⟨(h.1.byt _ (look_mem hl)).1, (h.1.byt _ (look_mem hl)).2, (h.1.num _ (look_mem hl)).1, (h.1.num _ (look_mem hl)).2⟩
  have HA := hide (fun W (k : Kept [] w W) => add_2 (h.kept k (by simp)) hs hr hmo)
  unfold msV at HA
  clear h hl hmo
  go_enter Try.func17, Try.ntmps17
  go_upto_region 2 with (go_at_call 40; refine (unhide HF _ (Kept.refl _ _)).mono ?_; rintro e w1 ⟨rfl, k1⟩; have HK1 := hide k1; clear k1)
  refine world_at (R := fun Y => Kept [] w Y ∧ Blk Y w1.heap.size #[.int .i64 m.frm, .int .i64 m.dst, .string (strB m.dat)] 77) ⟨(unhide HK1).alloc _, Blk.new _ _ _⟩ ?_
  rintro Y ⟨hy1, hm2⟩
  have d0 := hm2.cell 0
  have d1 := hm2.cell 1
  have d2 := hm2.cell 2
  simp only [List.getElem?_toArray, List.getElem?_cons_zero, List.getElem?_cons_succ] at d0 d1 d2
  have HY := hide hy1
  clear hy1 hm2
  go_wp2_with fail
  go_region_with (go_at_call 39; refine (unhide HA _ (by first | exact unhide HY | exact (unhide HY).drew | exact (unhide HY).drewN _)).mono ?_; rintro e w2 ⟨rfl, F', hb, k2, hf⟩; have HQ : Hid (BkP w b F (g.put m 2) w2) := (by first | exact ⟨F', hb, k2.from' (unhide HY), fun x hx => (hf x hx).imp id (fun h3 => Nat.le_trans (unhide HY).size h3)⟩ | exact ⟨F', hb, k2.from' (unhide HY).drew, fun x hx => (hf x hx).imp id (fun h3 => Nat.le_trans (unhide HY).size h3)⟩); clear hb k2 hf)
  all_goals
    go_wp2_with fail
    go_ret2
    exact ⟨rfl, unhide HQ⟩
end Go.Proofs.Ytcohdkemfkiekaa
