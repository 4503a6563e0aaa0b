/- Texts laid one behind the other: CTabC CTabD CTabE CTabF CTabG. -/
import Derived.Test.YtkejpbfbpomjfabPkW
import Derived.Laws.AppendOwn
import Derived.Deep.RegionHeld3
/- What an op asks of a table: the row that it asks about, whether it is done. -/
namespace Go.Proofs.Ytkejpbfbpomjfab.tre
open Go.RowKit

structure Opm where
  kind : Int
  key : List Nat
  val : List Nat
  rev : Int
def opv (o : Opm) (ks vs : Value) : Value := .agg #[.int .i64 o.kind, ks, vs, .int .i64 o.rev]
/-- an op whose lists lie in w -/
structure OpAt (w : World) (o : Opm) (ks vs : Value) : Prop where
  k : Wide w ks o.key
  v : Wide w vs o.val
  kb : ∀ x ∈ o.key, x < 256
  vb : ∀ x ∈ o.val, x < 256
theorem OpAt.kept {w w' : World} {o : Opm} {ks vs : Value} (h : OpAt w o ks vs) (hk : Kept [] w w') : OpAt w' o ks vs := ⟨h.k.kept hk, h.v.kept hk, h.kb, h.vb⟩
theorem new_bytes (w : World) (s : ByteArray) (h : s.size ≤ 1048576) : NewS w (.slice (some ⟨w.heap.size, 0, none⟩) s.size (grownCap w s.size 0 5)) (byts s) (Lib.bytesWorld w 5 s) := by
  refine ⟨Or.inr ⟨w.heap.size, 0, _, by rw [byts_len], by rw [byts_len]; exact grownCap_ge w _ _ _, grownCap_le_maxLen w _ _ _ (by unfold maxLen; omega), by rw [Lib.bytesWorld_size]; omega, fun j hj => ?_⟩, fun k hk => ?_⟩
  · rw [byts_len] at hj
    rw [Nat.zero_add, Lib.bytesWorld_cell w _ s j hj]
    congr 3
    have hd : j < s.data.toList.length := by rw [Array.length_toList]; exact hj
    simp only [byts, List.getD, List.getElem?_map, List.getElem?_eq_getElem hd, Option.map_some, Option.getD_some]
  · simp only [Value.ownBlock, Option.some.injEq] at hk
    omega
theorem box4 {W : World} {b : Nat} {x y z u : Value} {t : TypeId} (h : Blk W b #[x, y, z, u] t) : W.cell? ⟨b, 0, none⟩ = some x ∧ W.cell? ⟨b, 1, none⟩ = some y ∧ W.cell? ⟨b, 2, none⟩ = some z ∧ W.cell? ⟨b, 3, none⟩ = some u := ⟨h.cell 0, h.cell 1, h.cell 2, h.cell 3⟩
theorem ret_bool {a b : Bool} (h : a = b) : Ending.returned (.bool a) = Ending.returned (.bool b) := by rw [h]
set_option maxRecDepth 100000 in
theorem isWrite_any (w : World) (o : Opm) (ks vs : Value) : Calls Try.prog 56 #[opv o ks vs] w fun e w' => e = .returned (.bool (decide (o.kind ≠ 1 ∧ o.kind ≠ 5))) ∧ Kept [] w w' := by
  unfold opv
  go_enter Try.func56, Try.ntmps56
  go_wp2_with fail
  all_goals
    go_ret
    refine ⟨ret_bool ?_, (Kept.refl _ _).alloc _⟩
    rw [Bool.eq_iff_iff]
    simp_all
/-- is it done? -/
def dne (o : Opm) (r : Int) (f : Bool) : Bool := if o.kind = 2 then true else if o.kind = 4 then (r == o.rev) else f
set_option maxRecDepth 100000 in
theorem isDone_any (w : World) (o : Opm) (ks vs : Value) (v : ByteArray) (r : Int) (f : Bool) : Calls Try.prog 58 #[opv o ks vs, .agg #[.string v, .int .i64 r], .bool f] w fun e w' => e = .returned (.bool (dne o r f)) ∧ Kept [] w w' := by
  unfold opv dne
  by_cases k2 : o.kind = 2
  · rw [if_pos k2]
    go_enter Try.func58, Try.ntmps58
    go_wp2_with fail
    all_goals
      go_ret
      exact ⟨rfl, ((Kept.refl _ _).alloc _).alloc _⟩
  · rw [if_neg k2]
    by_cases k4 : o.kind = 4
    · rw [if_pos k4]
      go_enter Try.func58, Try.ntmps58
      go_wp2_with fail
      all_goals
        go_ret
        exact ⟨rfl, ((Kept.refl _ _).alloc _).alloc _⟩
    · rw [if_neg k4]
      go_enter Try.func58, Try.ntmps58
      go_wp2_with fail
      all_goals
        go_ret
        exact ⟨rfl, ((Kept.refl _ _).alloc _).alloc _⟩
set_option maxRecDepth 100000 in
theorem isKey_any (w : World) (a : Option Addr) (n c : Nat) : Calls Try.prog 42 #[.slice a n c] w fun e w' => e = .returned (.bool (decide (1 ≤ n ∧ n ≤ 64))) ∧ w' = w := by
  go_enter Try.func42, Try.ntmps42
  go_wp2_with fail
  all_goals
    go_ret
    refine ⟨ret_bool ?_, rfl⟩
    rw [Bool.eq_iff_iff]
    simp
    omega
set_option maxRecDepth 100000 in
theorem isValue_any (w : World) (a : Option Addr) (n c : Nat) : Calls Try.prog 43 #[.slice a n c] w fun e w' => e = .returned (.bool (decide (n ≤ 256))) ∧ w' = w := by
  go_enter Try.func43, Try.ntmps43
  go_wp2_with fail
  all_goals
    go_ret
    refine ⟨ret_bool ?_, rfl⟩
    rw [Bool.eq_iff_iff]
    simp
    try omega
/-- may an op be? -/
def rgt (o : Opm) : Bool :=
  if o.kind = 1 ∨ o.kind = 3 then decide (1 ≤ o.key.length ∧ o.key.length ≤ 64 ∧ o.val.length = 0 ∧ o.rev = 0)
  else if o.kind = 2 then decide (1 ≤ o.key.length ∧ o.key.length ≤ 64 ∧ o.val.length ≤ 256 ∧ o.rev = 0)
  else if o.kind = 4 then decide (1 ≤ o.key.length ∧ o.key.length ≤ 64 ∧ o.val.length ≤ 256 ∧ 0 ≤ o.rev ∧ o.rev ≤ 1099511627776)
  else if o.kind = 5 then decide (o.key.length ≤ 65 ∧ o.val.length = 0 ∧ o.rev = 0)
  else false
set_option maxRecDepth 100000 in
set_option maxHeartbeats 1000000 in
theorem right_any {w : World} {o : Opm} {ks vs : Value} (h : OpAt w o ks vs) : Calls Try.prog 19 #[opv o ks vs] w fun e w' => e = .returned (.bool (rgt o)) ∧ Kept [] w w' := by
  obtain ⟨ka, kc, rfl⟩ := wide_len h.k
  obtain ⟨va, vc, rfl⟩ := wide_len h.v
  clear h
  unfold opv rgt
  generalize o.key.length = kl
  generalize o.val.length = vl
  generalize o.kind = kd
  generalize o.rev = rv
  have HK := fun W => isKey_any W ka kl kc
  have HV := fun W => isValue_any W va vl vc
  go_enter Try.func19, Try.ntmps19
  go_wp2_with (first
    | (go_at_call 42; refine (HK _).mono ?_; rintro e w3 ⟨rfl, hq⟩; have hq2 := hq.symm; subst hq2)
    | (go_at_call 43; refine (HV _).mono ?_; rintro e w3 ⟨rfl, hq⟩; have hq2 := hq.symm; subst hq2))
  all_goals
    go_ret
    refine ⟨ret_bool ?_, (Kept.refl _ _).alloc _⟩
    first
      | (rw [Bool.eq_iff_iff]; done)
      | (rw [Bool.eq_iff_iff]; simp_all; done)
      | (rw [Bool.eq_iff_iff]; simp_all; omega)
/-- the row that an op asks about -/
def fnd (T : Tb) (o : Opm) : Option (ByteArray × VT) := if o.kind = 5 then T.t.at' (T.t.rank (strB o.key) : Nat) else T.t.find (strB o.key)
theorem find_key {t : TI} (h : Rise t.list) {k : ByteArray} {e : ByteArray × VT} (hf : t.find k = some e) : k = e.1 := by
  rcases row_cases h k with ⟨x, h1, -⟩ | ⟨h1, -⟩
  · rw [h1] at hf; cases hf; rfl
  · rw [h1] at hf; cases hf
set_option maxRecDepth 100000 in
set_option maxHeartbeats 1000000 in
theorem tfind_any {w : World} {b : Nat} {T : Tb} (h : Tab w b T) (hr : Rok T.t) {o : Opm} {ks vs : Value} (ho : OpAt w o ks vs) :
    Calls Try.prog 57 #[.pointer (some ⟨b, 0, none⟩), opv o ks vs] w fun e w' => ∃ K, (∀ x, fnd T o = some x → K = x.1) ∧ e = .returned (.tuple #[.string K, .agg #[.string (fv (fnd T o)).1, .int .i64 (fv (fnd T o)).2], .bool (fnd T o).isSome]) ∧ Kept [] w w' := by
  obtain ⟨q, hb, ht⟩ := h
  have hz := hr.size
  obtain ⟨kd, ky, vl, rv⟩ := o
  unfold fnd opv
  simp only
  have HB := hide hb
  obtain ⟨c0, c1, c2⟩ := box3 ((hb.alloc (.cells #[.int .i64 kd, ks, vs, .int .i64 rv] 36)).alloc (.cells #[.string ⟨#[]⟩, .int .i64 0] 73))
  have hcv := conv_wide (ho.k.kept (((Kept.refl [] w).alloc (.cells #[.int .i64 kd, ks, vs, .int .i64 rv] 36)).alloc (.cells #[.string ⟨#[]⟩, .int .i64 0] 73)))
  by_cases k5 : kd = 5
  · simp only [if_pos k5]
    subst k5
    have HS : ∀ W, Kept [] w W → Hid _ := fun W (hk : Kept [] w W) => hide (Seek_any (strB ky) (ht.kept hk) (by omega))
    have HF : Hid (∀ x, T.t.at' (T.t.rank (strB ky) : Nat) = some x → fk (T.t.at' (T.t.rank (strB ky) : Nat)) = x.1) := fun x hx => by rw [hx]; rfl
    generalize T.t.at' (T.t.rank (strB ky) : Nat) = f at *
    generalize fk f = fk1 at *
    generalize fv f = fv1 at *
    obtain ⟨fv1, fv2⟩ := fv1
    generalize strB ky = kk at *
    clear hb ht ho
    go_enter Try.func57, Try.ntmps57
    go_wp2_with (first
      | (go_at_call 78; refine (unhide (HS _ (two_kept w _ _))).mono ?_; rintro e w3 ⟨rfl, hq⟩
         have HK3 := hide ((two_kept w _ _).step hq)
         have hx3 := (new2 w _ #[.string ⟨#[]⟩, .int .i64 0] 73).kept hq (by simp)
         have d0 := hx3.cell 0
         have d1 := hx3.cell 1
         have f0 := hx3.frozen 0
         have f1 := hx3.frozen 1
         have HX3 := hide hx3
         clear hq hx3))
    (try simp only [Exit.inBlock, Exit.then])
    refine ret_mid (b := w.heap.size + 1) rfl rfl (put2 (unhide HX3) _ _) Try.underlying73 infoCell rfl ⟨fk1, unhide HF, rfl, ?_⟩
    exact ((unhide HK3).setCell (Or.inr (by show w.heap.size ≤ w.heap.size + 1; omega)) _).setCell (Or.inr (by show w.heap.size ≤ w.heap.size + 1; omega)) _
  · simp only [if_neg k5]
    have HS : ∀ W, Kept [] w W → Hid _ := fun W (hk : Kept [] w W) => hide (Get_any (strB ky) (ht.kept hk))
    have HF : Hid (∀ x, T.t.find (strB ky) = some x → strB ky = x.1) := fun x hx => find_key hr.rise hx
    generalize T.t.find (strB ky) = f at *
    generalize fv f = fv1 at *
    obtain ⟨fv1, fv2⟩ := fv1
    generalize strB ky = kk at *
    have t5 : (kd == 5) = false := by simp; exact k5
    clear hb ht ho
    go_enter Try.func57, Try.ntmps57
    go_wp2_with (first
      | (go_at_call 79; refine (unhide (HS _ (two_kept w _ _))).mono ?_; rintro e w3 ⟨rfl, hq⟩
         have HK3 := hide ((two_kept w _ _).step hq)
         have hx3 := (new2 w _ #[.string ⟨#[]⟩, .int .i64 0] 73).kept hq (by simp)
         have d0 := (hx3.alloc (.cells #[.string fv1, .int .i64 fv2] 73)).cell 0
         have d1 := (hx3.alloc (.cells #[.string fv1, .int .i64 fv2] 73)).cell 1
         have f0 := (hx3.alloc (.cells #[.string fv1, .int .i64 fv2] 73)).frozen 0
         have f1 := (hx3.alloc (.cells #[.string fv1, .int .i64 fv2] 73)).frozen 1
         have HXA : Hid (Blk (w3.alloc (.cells #[.string fv1, .int .i64 fv2] 73)).drew (w.heap.size + 1) #[.string ⟨#[]⟩, .int .i64 0] 73) := hx3.alloc _
         have HKA : Hid (Kept [] w (w3.alloc (.cells #[.string fv1, .int .i64 fv2] 73)).drew) := ((unhide HK3).alloc _).drew
         clear hq hx3))
    go_region
    all_goals go_wp2
    all_goals
      (try simp only [Exit.inBlock, Exit.then])
      refine ret_mid (b := w.heap.size + 1) rfl rfl (put2 (unhide HXA) _ _) Try.underlying73 infoCell rfl ⟨kk, unhide HF, rfl, ?_⟩
      exact ((unhide HKA).setCell (Or.inr (by show w.heap.size ≤ w.heap.size + 1; omega)) _).setCell (Or.inr (by show w.heap.size ≤ w.heap.size + 1; omega)) _
end Go.Proofs.Ytkejpbfbpomjfab.tre

/- What a table answers; an op done. -/
namespace Go.Proofs.Ytkejpbfbpomjfab.tre
open Go.RowKit

theorem infoAns : (Try.prog.info? 39).map (·.size) = some 5 := by kernel_rfl
/-- texts as new bytes, wherever they come to lie -/
theorem conv_ex : ∃ (g c : World → ByteArray → Nat) (N : World → ByteArray → World), (∀ w s, (convert 9 22 (.string s)).run Try.prog w = .ok (.slice (some ⟨g w s, 0, none⟩) s.size (c w s)) (N w s)) ∧ (∀ w s, s.size ≤ 1048576 → NewS w (.slice (some ⟨g w s, 0, none⟩) s.size (c w s)) (byts s) (N w s)) ∧ ∀ w s, Kept [] w (N w s) :=
  ⟨fun w _ => w.heap.size, fun w s => grownCap w s.size 0 5, fun w s => Lib.bytesWorld w 5 s, run_bytes, new_bytes, kept_conv⟩
theorem NewS.kept {w w' w2 : World} {v : Value} {bs : List Nat} (h : NewS w v bs w') {F : List Nat} (hk : Kept F w' w2) (hF : ∀ k, v.ownBlock = some k → k ∉ F) : NewS w v bs w2 := ⟨h.1.kept hk hF, h.2⟩
theorem NewS.nil (w w' : World) : NewS w (.slice none 0 0) [] w' := ⟨Or.inl ⟨rfl, rfl⟩, fun k hk => by cases hk⟩
theorem NewS.from {w w1 w' : World} {v : Value} {bs : List Nat} (h : NewS w1 v bs w') (hs : w.heap.size ≤ w1.heap.size) : NewS w v bs w' := ⟨h.1, fun k hk => by have := h.2 k hk; omega⟩
theorem box5 {W : World} {b : Nat} {x y z u v : Value} {t : TypeId} (h : Blk W b #[x, y, z, u, v] t) : (W.cell? ⟨b, 0, none⟩ = some x ∧ W.cell? ⟨b, 1, none⟩ = some y ∧ W.cell? ⟨b, 2, none⟩ = some z ∧ W.cell? ⟨b, 3, none⟩ = some u ∧ W.cell? ⟨b, 4, none⟩ = some v) ∧ W.frozen? ⟨b, 0, none⟩ = false ∧ W.frozen? ⟨b, 1, none⟩ = false ∧ W.frozen? ⟨b, 2, none⟩ = false ∧ W.frozen? ⟨b, 3, none⟩ = false ∧ W.frozen? ⟨b, 4, none⟩ = false := ⟨⟨h.cell 0, h.cell 1, h.cell 2, h.cell 3, h.cell 4⟩, h.frozen 0, h.frozen 1, h.frozen 2, h.frozen 3, h.frozen 4⟩
theorem put5 {w : World} {b : Nat} {x y z u v : Value} {t : TypeId} (h : Blk w b #[x, y, z, u, v] t) (x' y' z' u' v' : Value) : Blk (((((w.setCell ⟨b, 0, none⟩ x').setCell ⟨b, 1, none⟩ y').setCell ⟨b, 2, none⟩ z').setCell ⟨b, 3, none⟩ u').setCell ⟨b, 4, none⟩ v') b #[x', y', z', u', v'] t := by
  have h1 := ((((h.set 0 x').set 1 y').set 2 z').set 3 u').set 4 v'
  exact h1
theorem kept5 {a w : World} {F : List Nat} (h : Kept F a w) {b : Nat} (hb : b ∈ F ∨ a.heap.size ≤ b) (x' y' z' u' v' : Value) : Kept F a (((((w.setCell ⟨b, 0, none⟩ x').setCell ⟨b, 1, none⟩ y').setCell ⟨b, 2, none⟩ z').setCell ⟨b, 3, none⟩ u').setCell ⟨b, 4, none⟩ v') :=
  ((((h.setCell (p := ⟨b, 0, none⟩) hb _).setCell (p := ⟨b, 1, none⟩) hb _).setCell (p := ⟨b, 2, none⟩) hb _).setCell (p := ⟨b, 3, none⟩) hb _).setCell (p := ⟨b, 4, none⟩) hb _
theorem far5 {w : World} {b : Nat} {a : Addr} {v : Value} (hn : b ≠ a.block) (h : w.cell? a = some v) (x' y' z' u' v' : Value) : (((((w.setCell ⟨b, 0, none⟩ x').setCell ⟨b, 1, none⟩ y').setCell ⟨b, 2, none⟩ z').setCell ⟨b, 3, none⟩ u').setCell ⟨b, 4, none⟩ v').cell? a = some v := by
  rw [World.cell?_setCell_far _ _ _ _ hn, World.cell?_setCell_far _ _ _ _ hn, World.cell?_setCell_far _ _ _ _ hn, World.cell?_setCell_far _ _ _ _ hn, World.cell?_setCell_far _ _ _ _ hn]
  exact h
set_option maxRecDepth 100000 in
set_option maxHeartbeats 2000000 in
theorem answer_any {w : World} {b : Nat} {T : Tb} (h : Tab w b T) (done : Bool) (key : ByteArray) (c : VT) (f : Bool) (hk : f = true → key.size ≤ 1048576) (hc : f = true → c.1.size ≤ 1048576) :
    Calls Try.prog 60 #[.pointer (some ⟨b, 0, none⟩), .bool done, .string key, .agg #[.string c.1, .int .i64 c.2], .bool f] w fun e w' => ∃ kv vv, e = .returned (.agg #[.bool done, kv, vv, .int .i64 (if f then c.2 else 0), .int .i64 (T.rev : Int)]) ∧ NewS w kv (if f then byts key else []) w' ∧ NewS w vv (if f then byts c.1 else []) w' ∧ Kept [] w w' := by
  obtain ⟨q, hb, ht⟩ := h
  obtain ⟨x1, x2⟩ := c
  obtain ⟨c0, c1, c2⟩ := box3 hb
  have hbl := hb.lt
  have HB := hide hb
  clear hb ht
  cases f
  · simp only [Bool.false_eq_true, if_false]
    go_enter Try.func60, Try.ntmps60
    go_wp2_with fail
    (try simp only [Exit.inBlock, Exit.then])
    refine ret_struct (b := w.heap.size + 1) rfl rfl (new2 w _ _ _) Try.underlying39 infoAns rfl ⟨_, _, rfl, NewS.nil w _, NewS.nil w _, two_kept w _ _⟩
  · simp only [if_true]
    replace hk := hk rfl
    replace hc := hc rfl
    obtain ⟨cG, cC, cN, HCV, HNW, HCK⟩ := conv_ex
    have bw_blk : ∀ (W : World) (s : ByteArray) (b : Nat) (cs : Array Value) (t : TypeId), Blk W b cs t → Blk (cN W s) b cs t := fun _ _ _ _ _ h => h.kept (HCK _ _) (by simp)
    have bw_cell : ∀ (W : World) (s : ByteArray) (a : Addr) (v : Value), W.cell? a = some v → (cN W s).cell? a = some v := fun _ _ _ _ h => ((HCK _ _).cell (World.block_lt_of_cell? _ _ h) (by simp)).trans h
    go_enter Try.func60, Try.ntmps60
    go_wp2_with fail
    refine world_at (R := fun X => Blk X (w.heap.size + 1) #[.bool false, .slice none 0 0, .slice none 0 0, .int .i64 0, .int .i64 0] 39 ∧ Kept [] w X ∧ Blk X w.heap.size #[.string x1, .int .i64 x2] 73 ∧ X.heap.size = w.heap.size + 2) ⟨new2 w _ _ _, two_kept w _ _, (Blk.new w _ _).alloc _, by simp [World.size_alloc]⟩ ?_
    rintro X ⟨hb0, hk0, hx0, hs0⟩
    have hWb : Blk X.drew (w.heap.size + 1) #[.bool false, .slice none 0 0, .slice none 0 0, .int .i64 0, .int .i64 0] 39 := hb0
    have hWk : Kept [] w X.drew := hk0.drew
    have hWx : Blk X.drew w.heap.size #[.string x1, .int .i64 x2] 73 := hx0
    have hWt : Blk X.drew b #[.pointer q, .int .i64 (T.rev : Int), .int .i64 (bodyOf T.t.list : Int)] 66 := (unhide HB).kept hWk (by simp)
    obtain ⟨⟨p0, p1, p2, p3, p4⟩, g0, g1, g2, g3, g4⟩ := box5 (bw_blk _ x1 _ _ _ (bw_blk _ key _ _ _ hWb))
    obtain ⟨⟨r0, r1, r2, r3, r4⟩, s0, s1, s2, s3, s4⟩ := box5 (bw_blk _ key _ _ _ (bw_blk _ x1 _ _ _ hWb))
    have hne1 : w.heap.size + 1 ≠ b := by omega
    have hne2 : w.heap.size + 1 ≠ w.heap.size := by omega
    have m0 : X.drew.cell? ⟨w.heap.size, 0, none⟩ = some (.string x1) := hWx.cell 0
    have m1 : X.drew.cell? ⟨w.heap.size, 1, none⟩ = some (.int .i64 x2) := hWx.cell 1
    have m2 : X.drew.cell? ⟨b, 1, none⟩ = some (.int .i64 (T.rev : Int)) := hWt.cell 1
    have BWC := hide bw_cell
    have BWB := hide bw_blk
    have HNW2 := hide HNW
    have HCK2 := hide HCK
    have HWB := hide hWb
    have HWK := hide hWk
    have hsz : X.drew.heap.size = w.heap.size + 2 := hs0
    have HSZ := hide hsz
    clear bw_cell bw_blk HNW HCK hWb hWk hWx hWt c0 c1 c2 hbl hb0 hk0 hx0 hs0 hsz
    go_region_held (fun w' => w'.cell? ⟨w.heap.size, 0, none⟩ = some (.string x1) ∧ w'.cell? ⟨w.heap.size, 1, none⟩ = some (.int .i64 x2) ∧ w'.cell? ⟨b, 1, none⟩ = some (.int .i64 (T.rev : Int))) (first
      | (with_reducible exact ⟨m0, m1, m2⟩)
      | (with_reducible exact ⟨(unhide BWC) _ _ _ _ m0, (unhide BWC) _ _ _ _ m1, (unhide BWC) _ _ _ _ m2⟩)
      | (with_reducible exact ⟨(unhide BWC) _ _ _ _ ((unhide BWC) _ _ _ _ m0), (unhide BWC) _ _ _ _ ((unhide BWC) _ _ _ _ m1), (unhide BWC) _ _ _ _ ((unhide BWC) _ _ _ _ m2)⟩)
      | (with_reducible exact ⟨far5 hne2 ((unhide BWC) _ _ _ _ ((unhide BWC) _ _ _ _ m0)) _ _ _ _ _, far5 hne2 ((unhide BWC) _ _ _ _ ((unhide BWC) _ _ _ _ m1)) _ _ _ _ _, far5 hne1 ((unhide BWC) _ _ _ _ ((unhide BWC) _ _ _ _ m2)) _ _ _ _ _⟩)
) (fail)
    all_goals go_wp2
    all_goals (try simp only [Exit.inBlock, Exit.then])
    · refine ret_struct (b := w.heap.size + 1) rfl rfl (put5 ((unhide BWB) _ _ _ _ _ ((unhide BWB) _ _ _ _ _ (unhide HWB))) _ _ _ _ _) Try.underlying39 infoAns rfl ⟨_, _, rfl, ?_, ?_, ?_⟩
      · have h1 := unhide HNW2 X.drew key hk
        have h2 : Kept [] (cN X.drew key) (cN (cN X.drew key) x1) := unhide HCK2 _ _
        have h3 := (h1.kept h2 (by simp)).from (unhide HWK).size
        refine h3.kept (kept5 (Kept.refl [w.heap.size + 1] _) (Or.inl (by simp)) _ _ _ _ _) (fun k hq => ?_)
        have h4 := h1.2 k hq
        have h5 := unhide HSZ
        simp only [List.mem_singleton]; omega
      · have h1 := unhide HNW2 (cN X.drew key) x1 hc
        have h2 := (unhide HCK2 X.drew key).size
        have h3 := h1.from (Nat.le_trans (unhide HWK).size h2)
        refine h3.kept (kept5 (Kept.refl [w.heap.size + 1] _) (Or.inl (by simp)) _ _ _ _ _) (fun k hq => ?_)
        have h4 := h1.2 k hq
        have h5 := unhide HSZ
        simp only [List.mem_singleton]; omega
      · exact kept5 (((unhide HWK).step (unhide HCK2 _ _)).step (unhide HCK2 _ _)) (Or.inr (by omega)) _ _ _ _ _
    · refine ret_struct (b := w.heap.size + 1) rfl rfl (put5 ((unhide BWB) _ _ _ _ _ ((unhide BWB) _ _ _ _ _ (unhide HWB))) _ _ _ _ _) Try.underlying39 infoAns rfl ⟨_, _, rfl, ?_, ?_, ?_⟩
      · have h1 := unhide HNW2 (cN X.drew x1) key hk
        have h2 := (unhide HCK2 X.drew x1).size
        have h3 := h1.from (Nat.le_trans (unhide HWK).size h2)
        refine h3.kept (kept5 (Kept.refl [w.heap.size + 1] _) (Or.inl (by simp)) _ _ _ _ _) (fun k hq => ?_)
        have h4 := h1.2 k hq
        have h5 := unhide HSZ
        simp only [List.mem_singleton]; omega
      · have h1 := unhide HNW2 X.drew x1 hc
        have h2 : Kept [] (cN X.drew x1) (cN (cN X.drew x1) key) := unhide HCK2 _ _
        have h3 := (h1.kept h2 (by simp)).from (unhide HWK).size
        refine h3.kept (kept5 (Kept.refl [w.heap.size + 1] _) (Or.inl (by simp)) _ _ _ _ _) (fun k hq => ?_)
        have h4 := h1.2 k hq
        have h5 := unhide HSZ
        simp only [List.mem_singleton]; omega
      · exact kept5 (((unhide HWK).step (unhide HCK2 _ _)).step (unhide HCK2 _ _)) (Or.inr (by omega)) _ _ _ _ _
end Go.Proofs.Ytkejpbfbpomjfab.tre

/- An op done on a table. -/
namespace Go.Proofs.Ytkejpbfbpomjfab.tre
open Go.RowKit

/-- the tree behind a change -/
def chg (t : TI) (o : Opm) (rev : Nat) : TI :=
  if o.kind = 2 ∨ o.kind = 4 then setT t (strB o.key) (strB o.val, (rev : Int)) else if o.kind = 3 then (t.without (strB o.key)).1 else t
set_option maxRecDepth 100000 in
set_option maxHeartbeats 2000000 in
theorem change_any {w : World} {b : Nat} {T : Tb} (h : Tab w b T) (hr : Rok T.t) {o : Opm} {ks vs : Value} (ho : OpAt w o ks vs) (hk : o.key.length ≤ 65) (hv : o.val.length ≤ 256) (hrev : T.rev ≤ 1099511627776) (hz : o.kind = 2 ∨ o.kind = 4 → o.key.length ≤ 64 ∧ T.t.size < 1099511627776) :
    Calls Try.prog 59 #[.pointer (some ⟨b, 0, none⟩), opv o ks vs] w fun e w' => e = .returned (.tuple #[]) ∧ Tab w' b ⟨chg T.t o T.rev, T.rev⟩ ∧ Kept [b] w w' := by
  obtain ⟨kd, ky, vl, rv⟩ := o
  simp only at hk hv hz
  have hTA := h.kept ((Kept.refl [] w).alloc (.cells #[.int .i64 kd, ks, vs, .int .i64 rv] 36))
  have hck := conv_wide (ho.k.kept ((Kept.refl [] w).alloc (.cells #[.int .i64 kd, ks, vs, .int .i64 rv] 36)).drew)
  have hcv := conv_wide (ho.v.kept ((Kept.refl [] w).alloc (.cells #[.int .i64 kd, ks, vs, .int .i64 rv] 36)).drew)
  have hck0 := conv_wide (ho.k.kept ((Kept.refl [] w).alloc (.cells #[.int .i64 kd, ks, vs, .int .i64 rv] 36)))
  simp only at hck hcv hck0
  have hKs : (strB ky).size ≤ 65 := by rw [strB_size]; exact hk
  have hVs : (strB vl).size ≤ 256 := by rw [strB_size]; exact hv
  have HP : Hid (kd = 2 ∨ kd = 4 → ∀ W, Tab W b T → Calls Try.prog 51 #[.pointer (some ⟨b, 0, none⟩), .string (strB ky), .agg #[.string (strB vl), .int .i64 (T.rev : Int)]] W fun e w' => e = .returned (.tuple #[]) ∧ Tab w' b ⟨setT T.t (strB ky) (strB vl, (T.rev : Int)), T.rev⟩ ∧ Kept [b] W w') := fun hkd W hT => tput_any hT hr (strB ky) (strB vl, (T.rev : Int)) ⟨by rw [strB_size]; exact (hz hkd).1, hVs, by simp only; omega, by simp only; omega⟩ (hz hkd).2
  have HR : Hid (∀ W, Tab W b T → Calls Try.prog 71 #[.pointer (some ⟨b, 0, none⟩), .string (strB ky)] W fun e w' => e = .returned (.tuple #[]) ∧ Tab w' b ⟨(T.t.without (strB ky)).1, T.rev⟩ ∧ Kept [b] W w') := fun W hT => remove_any hT hr (strB ky) (by omega)
  have HT := hide h
  have HTA := hide hTA
  obtain ⟨q, hb, -⟩ := hTA
  obtain ⟨c0, c1, c2⟩ := box3 hb
  unfold chg opv
  simp only
  have HBL : Hid (b < w.heap.size) := by obtain ⟨q0, hb0, -⟩ := h; exact hb0.lt
  clear hb h ho hr hz
  generalize strB ky = K at *
  generalize strB vl = V at *
  by_cases k24 : kd = 2 ∨ kd = 4
  · rw [if_pos k24]
    rcases k24 with rfl | rfl
    · go_enter Try.func59, Try.ntmps59
      have n1 : (w.alloc (.cells #[.int .i64 2, ks, vs, .int .i64 rv] 36)).drew.cell? ⟨w.heap.size, 1, none⟩ = some ks := (Blk.new w #[.int .i64 2, ks, vs, .int .i64 rv] 36).cell 1
      have n2 : (w.alloc (.cells #[.int .i64 2, ks, vs, .int .i64 rv] 36)).drew.cell? ⟨w.heap.size, 2, none⟩ = some vs := (Blk.new w #[.int .i64 2, ks, vs, .int .i64 rv] 36).cell 2
      have n3 : (w.alloc (.cells #[.int .i64 2, ks, vs, .int .i64 rv] 36)).drew.cell? ⟨b, 1, none⟩ = some (.int .i64 (T.rev : Int)) := c1
      go_wp2_with fail
      go_region_held (fun w' => w'.cell? ⟨w.heap.size, 1, none⟩ = some ks ∧ w'.cell? ⟨w.heap.size, 2, none⟩ = some vs ∧ w'.cell? ⟨b, 1, none⟩ = some (.int .i64 (T.rev : Int))) (first
        | (with_reducible exact ⟨n1, n2, n3⟩)
        | (with_reducible exact HS3)) (first
        | (go_at_call 51; refine (unhide HP (by simp) _ ((unhide HTA).kept (Kept.refl [] _).drew)).mono ?_; rintro e w3 ⟨rfl, ht3, hk3⟩
           have hbw : b ≠ w.heap.size := by have := unhide HBL; omega
           have HS3 : w3.cell? ⟨w.heap.size, 1, none⟩ = some ks ∧ w3.cell? ⟨w.heap.size, 2, none⟩ = some vs ∧ w3.cell? ⟨b, 1, none⟩ = some (.int .i64 (T.rev : Int)) := ⟨(hk3.cell (p := ⟨w.heap.size, 1, none⟩) (World.block_lt_of_cell? _ _ n1) (by simp; omega)).trans n1, (hk3.cell (p := ⟨w.heap.size, 2, none⟩) (World.block_lt_of_cell? _ _ n2) (by simp; omega)).trans n2, by obtain ⟨q3, hb3, -⟩ := ht3; exact hb3.cell 1⟩
           have HT3 := hide ht3
           have HK3 := hide ((((Kept.refl [b] w).alloc _).drew).trans hk3 (by simp))
           clear ht3 hk3 hbw))
      all_goals go_wp2
      all_goals
        go_end0
        exact ⟨rfl, unhide HT3, unhide HK3⟩
    · go_enter Try.func59, Try.ntmps59
      have n1 : (w.alloc (.cells #[.int .i64 4, ks, vs, .int .i64 rv] 36)).drew.cell? ⟨w.heap.size, 1, none⟩ = some ks := (Blk.new w #[.int .i64 4, ks, vs, .int .i64 rv] 36).cell 1
      have n2 : (w.alloc (.cells #[.int .i64 4, ks, vs, .int .i64 rv] 36)).drew.cell? ⟨w.heap.size, 2, none⟩ = some vs := (Blk.new w #[.int .i64 4, ks, vs, .int .i64 rv] 36).cell 2
      have n3 : (w.alloc (.cells #[.int .i64 4, ks, vs, .int .i64 rv] 36)).drew.cell? ⟨b, 1, none⟩ = some (.int .i64 (T.rev : Int)) := c1
      go_wp2_with fail
      go_region_held (fun w' => w'.cell? ⟨w.heap.size, 1, none⟩ = some ks ∧ w'.cell? ⟨w.heap.size, 2, none⟩ = some vs ∧ w'.cell? ⟨b, 1, none⟩ = some (.int .i64 (T.rev : Int))) (first
        | (with_reducible exact ⟨n1, n2, n3⟩)
        | (with_reducible exact HS3)) (first
        | (go_at_call 51; refine (unhide HP (by simp) _ ((unhide HTA).kept (Kept.refl [] _).drew)).mono ?_; rintro e w3 ⟨rfl, ht3, hk3⟩
           have hbw : b ≠ w.heap.size := by have := unhide HBL; omega
           have HS3 : w3.cell? ⟨w.heap.size, 1, none⟩ = some ks ∧ w3.cell? ⟨w.heap.size, 2, none⟩ = some vs ∧ w3.cell? ⟨b, 1, none⟩ = some (.int .i64 (T.rev : Int)) := ⟨(hk3.cell (p := ⟨w.heap.size, 1, none⟩) (World.block_lt_of_cell? _ _ n1) (by simp; omega)).trans n1, (hk3.cell (p := ⟨w.heap.size, 2, none⟩) (World.block_lt_of_cell? _ _ n2) (by simp; omega)).trans n2, by obtain ⟨q3, hb3, -⟩ := ht3; exact hb3.cell 1⟩
           have HT3 := hide ht3
           have HK3 := hide ((((Kept.refl [b] w).alloc _).drew).trans hk3 (by simp))
           clear ht3 hk3 hbw))
      all_goals go_wp2
      all_goals
        go_end0
        exact ⟨rfl, unhide HT3, unhide HK3⟩
  · rw [if_neg k24]
    by_cases k3 : kd = 3
    · rw [if_pos k3]
      subst k3
      go_enter Try.func59, Try.ntmps59
      go_wp2_with (first
        | (go_at_call 71; refine (unhide HR _ (unhide HTA)).mono ?_; rintro e w3 ⟨rfl, ht3, hk3⟩
           have HT3 := hide ht3
           have HK3 := hide (((Kept.refl [b] w).alloc _).trans hk3 (by simp))
           clear ht3 hk3))
      go_end0
      exact ⟨rfl, unhide HT3, unhide HK3⟩
    · rw [if_neg k3]
      have t2 : (kd == 2) = false := by simp; omega
      have t3 : (kd == 3) = false := by simp; omega
      have t4 : (kd == 4) = false := by simp; omega
      go_enter Try.func59, Try.ntmps59
      go_wp2_with fail
      go_end0
      exact ⟨rfl, unhide HTA, ((Kept.refl [b] w).alloc _)⟩
/-- is it a write? -/
def wrs (o : Opm) : Bool := decide (o.kind ≠ 1 ∧ o.kind ≠ 5)
def rvn (T : Tb) (o : Opm) : Nat := if wrs o then T.rev + 1 else T.rev
def dn (T : Tb) (o : Opm) : Bool := dne o (fv (fnd T o)).2 (fnd T o).isSome
/-- the table behind an op -/
def nxt (T : Tb) (o : Opm) : Tb := ⟨if dn T o then chg T.t o (rvn T o) else T.t, rvn T o⟩
/-- a table that may be -/
structure Tok (T : Tb) : Prop where
  ok : Rok T.t
  size : T.t.size ≤ T.rev
  rev : T.rev ≤ 1099511627776
  up : ∀ e ∈ T.t.list, 1 ≤ e.2.2 ∧ e.2.2 ≤ (T.rev : Int)
theorem fnd_mem {T : Tb} {o : Opm} {e : ByteArray × VT} (hr : Rise T.t.list) (h : fnd T o = some e) : e ∈ T.t.list := by
  unfold fnd at h
  split at h
  · rw [Tr.at_list] at h
    split at h
    · exact List.mem_of_getElem? h
    · cases h
  · rcases row_cases hr (strB o.key) with ⟨x, h1, h2⟩ | ⟨h1, h2⟩
    · rw [h1] at h; cases h
      rw [h2]; simp
    · rw [h1] at h; cases h
/-- a list that does not lie in that block, or an empty one, wherever -/
def Free (b : Nat) (v : Value) : Prop := (∃ a, v = .slice (some a) 0 0) ∨ ∀ x, v.ownBlock = some x → x ≠ b
theorem wide_keep {w w' : World} {b : Nat} {v : Value} {bs : List Nat} (h : Wide w v bs) (hf : Free b v) (hk : Kept [b] w w') : Wide w' v bs := by
  rcases hf with ⟨a, rfl⟩ | hf
  · obtain ⟨a', c', he⟩ := wide_len h
    simp only [Value.slice.injEq] at he
    exact Or.inr ⟨a, rfl, List.eq_nil_of_length_eq_zero he.2.1.symm⟩
  · rcases h with h | ⟨a, h3, h4⟩
    · exact Or.inl (h.kept hk (fun k hq => by simpa using hf k hq))
    · exact Or.inr ⟨a, h3, h4⟩
theorem OpAt.keep {w w' : World} {o : Opm} {ks vs : Value} {b : Nat} (h : OpAt w o ks vs) (hk : Kept [b] w w') (h1 : Free b ks) (h2 : Free b vs) : OpAt w' o ks vs :=
  ⟨wide_keep h.k h1 hk, wide_keep h.v h2 hk, h.kb, h.vb⟩
end Go.Proofs.Ytkejpbfbpomjfab.tre

/- An op done on a table: the whole. -/
namespace Go.Proofs.Ytkejpbfbpomjfab.tre
open Go.RowKit

/-- where 'do' stands: the op's box, the answer's, the row's; the table; what has turned -/
structure Stg (w X : World) (b n : Nat) (o : Opm) (ks vs : Value) (x1 : ByteArray) (x2 : Int) (T : Tb) : Prop where
  op : Blk X w.heap.size #[.int .i64 o.kind, ks, vs, .int .i64 o.rev] 36
  an : Blk X (w.heap.size + 1) #[.bool false, .slice none 0 0, .slice none 0 0, .int .i64 0, .int .i64 0] 39
  ro : Blk X n #[.string x1, .int .i64 x2] 73
  tb : Tab X b T
  at_ : OpAt X o ks vs
  kp : Kept [b] w X
  nn : w.heap.size + 2 ≤ n
  bl : b < w.heap.size
theorem Stg.kept {w X X' : World} {b n : Nat} {o : Opm} {ks vs : Value} {x1 : ByteArray} {x2 : Int} {T : Tb} (h : Stg w X b n o ks vs x1 x2 T) (hk : Kept [] X X') : Stg w X' b n o ks vs x1 x2 T :=
  ⟨h.op.kept hk (by simp), h.an.kept hk (by simp), h.ro.kept hk (by simp), h.tb.kept hk, h.at_.kept hk, h.kp.step hk, h.nn, h.bl⟩
theorem Stg.turn {w X X' : World} {b n : Nat} {o : Opm} {ks vs : Value} {x1 : ByteArray} {x2 : Int} {T T' : Tb} (h : Stg w X b n o ks vs x1 x2 T) (hk : Kept [b] X X') (ht : Tab X' b T') (h1 : Free b ks) (h2 : Free b vs) : Stg w X' b n o ks vs x1 x2 T' := by
  have hb := h.bl
  have hn := h.nn
  exact ⟨h.op.kept hk (by simp; omega), h.an.kept hk (by simp; omega), h.ro.kept hk (by simp; omega), ht, h.at_.keep hk h1 h2, h.kp.trans hk (by simp), h.nn, h.bl⟩
/-- a table's number raised -/
theorem Tab.rise {X : World} {b : Nat} {T : Tb} (h : Tab X b T) : Tab (X.setCell ⟨b, 1, none⟩ (.int .i64 ((T.rev : Int) + 1))) b ⟨T.t, T.rev + 1⟩ := by
  obtain ⟨q, hb, ht⟩ := h
  exact ⟨q, hb.set 1 _, ht.keep ((Kept.refl [b] X).setCell (p := ⟨b, 1, none⟩) (Or.inl (by simp)) _) (off_ty hb (by decide) (by decide))⟩
theorem fin_do {w X w7 : World} {b n : Nat} {o : Opm} {ks vs : Value} {x1 : ByteArray} {x2 : Int} {T2 : Tb} (hS : Stg w X b n o ks vs x1 x2 T2) {kv vv : Value} {L1 L2 : List Nat} (n1 : NewS X kv L1 w7) (n2 : NewS X vv L2 w7) (k7 : Kept [] X w7) (p0 p1 p2 p3 p4 : Value) :
    NewS w kv L1 (((((w7.setCell ⟨w.heap.size + 1, 0, none⟩ p0).setCell ⟨w.heap.size + 1, 1, none⟩ p1).setCell ⟨w.heap.size + 1, 2, none⟩ p2).setCell ⟨w.heap.size + 1, 3, none⟩ p3).setCell ⟨w.heap.size + 1, 4, none⟩ p4) ∧
    NewS w vv L2 (((((w7.setCell ⟨w.heap.size + 1, 0, none⟩ p0).setCell ⟨w.heap.size + 1, 1, none⟩ p1).setCell ⟨w.heap.size + 1, 2, none⟩ p2).setCell ⟨w.heap.size + 1, 3, none⟩ p3).setCell ⟨w.heap.size + 1, 4, none⟩ p4) ∧
    Tab (((((w7.setCell ⟨w.heap.size + 1, 0, none⟩ p0).setCell ⟨w.heap.size + 1, 1, none⟩ p1).setCell ⟨w.heap.size + 1, 2, none⟩ p2).setCell ⟨w.heap.size + 1, 3, none⟩ p3).setCell ⟨w.heap.size + 1, 4, none⟩ p4) b T2 ∧
    Kept [b] w (((((w7.setCell ⟨w.heap.size + 1, 0, none⟩ p0).setCell ⟨w.heap.size + 1, 1, none⟩ p1).setCell ⟨w.heap.size + 1, 2, none⟩ p2).setCell ⟨w.heap.size + 1, 3, none⟩ p3).setCell ⟨w.heap.size + 1, 4, none⟩ p4) := by
  have hS7 := hS.kept k7
  have hk := kept5 (Kept.refl [w.heap.size + 1] w7) (b := w.heap.size + 1) (Or.inl (by simp)) p0 p1 p2 p3 p4
  have hl := hS.an.lt
  have hbl := hS.bl
  have hsz := hS.kp.size
  refine ⟨(n1.from hsz).kept hk (fun k hq => ?_), (n2.from hsz).kept hk (fun k hq => ?_), hS7.tb.keep hk (by simp; omega) (off_ty hS7.an (by decide) (by decide)), kept5 hS7.kp (Or.inr (by omega)) _ _ _ _ _⟩
  · have := n1.2 k hq; simp; omega
  · have := n2.2 k hq; simp; omega
theorem Tab.rev {X : World} {b : Nat} {T : Tb} (h : Tab X b T) : X.cell? ⟨b, 1, none⟩ = some (.int .i64 (T.rev : Int)) ∧ X.frozen? ⟨b, 1, none⟩ = false := by
  obtain ⟨q, hb, ht⟩ := h
  exact ⟨hb.cell 1, hb.frozen 1⟩
theorem box2 {W : World} {b : Nat} {x y : Value} {t : TypeId} (h : Blk W b #[x, y] t) : W.cell? ⟨b, 0, none⟩ = some x ∧ W.cell? ⟨b, 1, none⟩ = some y := ⟨h.cell 0, h.cell 1⟩

set_option maxRecDepth 100000 in
set_option maxHeartbeats 8000000 in
theorem do_any {w : World} {b : Nat} {T : Tb} (h : Tab w b T) (hT : Tok T) {o : Opm} {ks vs : Value} (ho : OpAt w o ks vs) (hkb : Free b ks) (hvb : Free b vs) (hk : o.key.length ≤ 65) (hv : o.val.length ≤ 256) (hk2 : o.kind = 2 ∨ o.kind = 4 → o.key.length ≤ 64) (hw : wrs o = true → T.rev < 1099511627776) :
    Calls Try.prog 36 #[.pointer (some ⟨b, 0, none⟩), opv o ks vs] w fun e w' => ∃ kv vv, e = .returned (.agg #[.bool (dn T o), kv, vv, .int .i64 (if (fnd T o).isSome then (fv (fnd T o)).2 else 0), .int .i64 (rvn T o : Int)]) ∧ NewS w kv (if (fnd T o).isSome then byts (fk (fnd T o)) else []) w' ∧ NewS w vv (if (fnd T o).isSome then byts (fv (fnd T o)).1 else []) w' ∧ Tab w' b (nxt T o) ∧ Kept [b] w w' := by
  have hbl : b < w.heap.size := by obtain ⟨q0, hb0, -⟩ := h; exact hb0.lt
  have hrev := hT.rev
  have hsz := hT.size
  have HF : Hid (∀ W, Kept [] w W → _) := hide (fun W (hk : Kept [] w W) => tfind_any (h.kept hk) hT.ok (ho.kept hk))
  have HD := fun W v r f => hide (isDone_any W o ks vs v r f)
  have HW := fun W => hide (isWrite_any W o ks vs)
  have hmem : ∀ e, fnd T o = some e → Rw e := fun e he => hT.ok.rows e (fnd_mem hT.ok.rise he)
  have HC : Hid (∀ (W : World) (r : Nat), r ≤ 1099511627776 → T.t.size < r ∨ wrs o = false → Tab W b ⟨T.t, r⟩ → OpAt W o ks vs → Calls Try.prog 59 #[.pointer (some ⟨b, 0, none⟩), opv o ks vs] W fun e w' => e = .returned (.tuple #[]) ∧ Tab w' b ⟨chg T.t o r, r⟩ ∧ Kept [b] W w') := fun W r h1 h2 h3 h4 =>
    change_any h3 hT.ok h4 hk hv h1 (fun hkd => ⟨hk2 hkd, by
      rcases h2 with h2 | h2
      · exact Nat.lt_of_lt_of_le h2 h1
      · exfalso; unfold wrs at h2; simp at h2; omega⟩)
  have HST : Hid (∀ (w3 : World) (x1 : ByteArray) (x2 : Int), Kept [] ((w.alloc (.cells #[.int .i64 o.kind, ks, vs, .int .i64 o.rev] 36)).alloc (.cells #[.bool false, .slice none 0 0, .slice none 0 0, .int .i64 0, .int .i64 0] 39)) w3 → Stg w (w3.alloc (.cells #[.string x1, .int .i64 x2] 73)) b w3.heap.size o ks vs x1 x2 T) := fun w3 x1 x2 hq =>
    ⟨(((Blk.new w _ _).alloc _).kept hq (by simp)).alloc _, ((new2 w _ _ _).kept hq (by simp)).alloc _, Blk.new w3 _ _, h.kept (((two_kept w _ _).step hq).alloc _), ho.kept (((two_kept w _ _).step hq).alloc _), (((two_kept w _ _).step hq).alloc _).mono (by simp), by have := hq.size; simp [World.size_alloc] at this; omega, hbl⟩
  have HA := fun (W : World) (T' : Tb) (hT' : Tab W b T') (d : Bool) (K x1 : ByteArray) (x2 : Int) (f : Bool) (h1 : f = true → K.size ≤ 1048576) (h2 : f = true → x1.size ≤ 1048576) => hide (answer_any hT' d K (x1, x2) f h1 h2)
  have HDN : Hid (dne o (fv (fnd T o)).2 (fnd T o).isSome = dn T o) := rfl
  have hx1 : (fv (fnd T o)).1.size ≤ 1048576 := by
    cases hf : fnd T o with
    | none => simp [fv]
    | some e => have := (hmem e hf).2.1; simp only [fv, Option.getD_some]; omega
  have hfk : (fk (fnd T o)).size ≤ 1048576 := by
    cases hf : fnd T o with
    | none => simp [fk]
    | some e => have := (hmem e hf).1; simp only [fk, Option.getD_some]; omega
  unfold nxt rvn
  unfold opv at *
  have HF2 : Hid (∀ W, Kept [] w W → Calls Try.prog 57 #[.pointer (some ⟨b, 0, none⟩), .agg #[.int .i64 o.kind, ks, vs, .int .i64 o.rev]] W fun e w' => ∃ K, ((fnd T o).isSome = true → K = fk (fnd T o)) ∧ e = .returned (.tuple #[.string K, .agg #[.string (fv (fnd T o)).1, .int .i64 (fv (fnd T o)).2], .bool (fnd T o).isSome]) ∧ Kept [] W w') := fun W hkW => by
    refine (unhide HF W hkW).mono ?_
    rintro e w' ⟨K, h1, h2, h3⟩
    refine ⟨K, fun hs => ?_, h2, h3⟩
    cases hf : fnd T o with
    | none => rw [hf] at hs; cases hs
    | some y => rw [h1 y hf]; rfl
  clear HF hmem
  generalize (fnd T o).isSome = fb at *
  generalize (fv (fnd T o)).1 = x1 at *
  generalize (fv (fnd T o)).2 = x2 at *
  generalize fk (fnd T o) = kf at *
  generalize dn T o = d at *
  obtain ⟨R, hR⟩ : ∃ R : Int, (if fb = true then x2 else 0) = R := ⟨_, rfl⟩
  obtain ⟨LK, hLK⟩ : ∃ LK : List Nat, (if fb = true then byts kf else []) = LK := ⟨_, rfl⟩
  obtain ⟨LV, hLV⟩ : ∃ LV : List Nat, (if fb = true then byts x1 else []) = LV := ⟨_, rfl⟩
  have HA2 : ∀ (W : World) (T' : Tb) (_ : Tab W b T') (d : Bool) (K : ByteArray) (_ : fb = true → K = kf), Hid (Calls Try.prog 60 #[.pointer (some ⟨b, 0, none⟩), .bool d, .string K, .agg #[.string x1, .int .i64 x2], .bool fb] W fun e w' => ∃ ka kn kc va vn vc, e = .returned (.agg #[.bool d, .slice ka kn kc, .slice va vn vc, .int .i64 R, .int .i64 (T'.rev : Int)]) ∧ NewS W (.slice ka kn kc) LK w' ∧ NewS W (.slice va vn vc) LV w' ∧ Kept [] W w') := fun W T' hT' d K hK => by
    refine hide ((unhide (HA W T' hT' d K x1 x2 fb (fun hs => by rw [hK hs]; exact hfk) (fun _ => hx1))).mono ?_)
    rintro e w' ⟨kv, vv, rfl, n1, n2, hq⟩
    have e1 : (if fb = true then byts K else []) = LK := by
      rw [← hLK]
      cases hfb : fb with
      | false => rfl
      | true => rw [hK hfb]
    rw [e1] at n1
    simp only at n2 ⊢
    rw [hLV] at n2
    rw [hR]
    obtain ⟨ka, kc, rfl⟩ := sees_len n1.1
    obtain ⟨va, vc, rfl⟩ := sees_len n2.1
    exact ⟨_, _, _, _, _, _, rfl, n1, n2, hq⟩
  rw [hR, hLK, hLV]
  clear h ho hT hk hv hk2 HA hR hLK hLV
  cases hwr : wrs o
  · have HWR : Hid (decide (o.kind ≠ 1 ∧ o.kind ≠ 5) = false) := hwr
    simp only [Bool.false_eq_true, if_false]
    cases d
    · simp only [Bool.false_eq_true, if_false]
      go_enter Try.func36, Try.ntmps36
      go_wp2_with (first
        | (go_at_call 57; refine (unhide HF2 _ (two_kept w _ _)).mono ?_; rintro e w3 ⟨K, hK, rfl, hq⟩
           have hS3 := unhide HST w3 x1 x2 hq
           have HK := hide hK
           have HS3 := hide hS3
           obtain ⟨o0, o1, o2, o3⟩ := box4 hS3.op
           obtain ⟨y0, y1⟩ := box2 hS3.ro
           clear hq hS3 hK)
        | (go_at_call 58; refine (unhide (HD _ _ _ _)).mono ?_; rw [unhide HDN]; rintro e w4 ⟨rfl, hq⟩
           have hS4 := (unhide HS3).kept hq
           have HS4 := hide hS4
           obtain ⟨q0, q1, q2, q3⟩ := box4 hS4.op
           clear hq hS4)
        | (go_at_call 56; refine (unhide (HW _)).mono ?_; rw [unhide HWR]; rintro e w5 ⟨rfl, hq⟩
           have hS5 := (unhide HS4).kept hq
           have HS5 := hide hS5
           obtain ⟨r0, r1, r2, r3⟩ := box4 hS5.op
           obtain ⟨z0, z1⟩ := box2 hS5.ro
           obtain ⟨t0, t1⟩ := hS5.tb.rev
           clear hq hS5)
        | (go_at_call 60; refine (unhide (HA2 _ _ (unhide HS5).tb _ _ (unhide HK))).mono ?_; rintro e w7 ⟨ka, kn, kc, va, vn, vc, rfl, n1, n2, hq⟩
           obtain ⟨⟨p0, p1, p2, p3, p4⟩, g0, g1, g2, g3, g4⟩ := box5 ((unhide HS5).kept hq).an
           have HFIN := hide (fin_do (unhide HS5) n1 n2 hq)
           have HAN := hide ((unhide HS5).kept hq).an
           clear n1 n2 hq))
      (try simp only [Exit.inBlock, Exit.then])
      refine ret_struct (b := w.heap.size + 1) rfl rfl (put5 (unhide HAN) _ _ _ _ _) Try.underlying39 infoAns rfl ⟨_, _, rfl, (unhide HFIN _ _ _ _ _).1, (unhide HFIN _ _ _ _ _).2.1, (unhide HFIN _ _ _ _ _).2.2.1, (unhide HFIN _ _ _ _ _).2.2.2⟩
    · simp only [if_true]
      go_enter Try.func36, Try.ntmps36
      go_wp2_with (first
        | (go_at_call 57; refine (unhide HF2 _ (two_kept w _ _)).mono ?_; rintro e w3 ⟨K, hK, rfl, hq⟩
           have hS3 := unhide HST w3 x1 x2 hq
           have HK := hide hK
           have HS3 := hide hS3
           obtain ⟨o0, o1, o2, o3⟩ := box4 hS3.op
           obtain ⟨y0, y1⟩ := box2 hS3.ro
           clear hq hS3 hK)
        | (go_at_call 58; refine (unhide (HD _ _ _ _)).mono ?_; rw [unhide HDN]; rintro e w4 ⟨rfl, hq⟩
           have hS4 := (unhide HS3).kept hq
           have HS4 := hide hS4
           obtain ⟨q0, q1, q2, q3⟩ := box4 hS4.op
           clear hq hS4)
        | (go_at_call 56; refine (unhide (HW _)).mono ?_; rw [unhide HWR]; rintro e w5 ⟨rfl, hq⟩
           have hS5 := (unhide HS4).kept hq
           have HS5 := hide hS5
           obtain ⟨r0, r1, r2, r3⟩ := box4 hS5.op
           obtain ⟨z0, z1⟩ := box2 hS5.ro
           obtain ⟨t0, t1⟩ := hS5.tb.rev
           clear hq hS5)
        | (go_at_call 59; refine (unhide HC _ _ hrev (Or.inr hwr) (unhide HS5).tb (unhide HS5).at_).mono ?_; rintro e w6 ⟨rfl, ht6, hk6⟩
           have hS6 := (unhide HS5).turn hk6 ht6 hkb hvb
           have HS6 := hide hS6
           obtain ⟨v0, v1⟩ := box2 hS6.ro
           clear ht6 hk6 hS6)
        | (go_at_call 60; refine (unhide (HA2 _ _ (unhide HS6).tb _ _ (unhide HK))).mono ?_; rintro e w7 ⟨ka, kn, kc, va, vn, vc, rfl, n1, n2, hq⟩
           obtain ⟨⟨p0, p1, p2, p3, p4⟩, g0, g1, g2, g3, g4⟩ := box5 ((unhide HS6).kept hq).an
           have HFIN := hide (fin_do (unhide HS6) n1 n2 hq)
           have HAN := hide ((unhide HS6).kept hq).an
           clear n1 n2 hq))
      (try simp only [Exit.inBlock, Exit.then])
      refine ret_struct (b := w.heap.size + 1) rfl rfl (put5 (unhide HAN) _ _ _ _ _) Try.underlying39 infoAns rfl ⟨_, _, rfl, (unhide HFIN _ _ _ _ _).1, (unhide HFIN _ _ _ _ _).2.1, (unhide HFIN _ _ _ _ _).2.2.1, (unhide HFIN _ _ _ _ _).2.2.2⟩
  · have HWR : Hid (decide (o.kind ≠ 1 ∧ o.kind ≠ 5) = true) := hwr
    simp only [if_true]
    have hlt := hw hwr
    cases d
    · simp only [Bool.false_eq_true, if_false]
      go_enter Try.func36, Try.ntmps36
      go_wp2_with (first
        | (go_at_call 57; refine (unhide HF2 _ (two_kept w _ _)).mono ?_; rintro e w3 ⟨K, hK, rfl, hq⟩
           have hS3 := unhide HST w3 x1 x2 hq
           have HK := hide hK
           have HS3 := hide hS3
           obtain ⟨o0, o1, o2, o3⟩ := box4 hS3.op
           obtain ⟨y0, y1⟩ := box2 hS3.ro
           clear hq hS3 hK)
        | (go_at_call 58; refine (unhide (HD _ _ _ _)).mono ?_; rw [unhide HDN]; rintro e w4 ⟨rfl, hq⟩
           have hS4 := (unhide HS3).kept hq
           have HS4 := hide hS4
           obtain ⟨q0, q1, q2, q3⟩ := box4 hS4.op
           clear hq hS4)
        | (go_at_call 56; refine (unhide (HW _)).mono ?_; rw [unhide HWR]; rintro e w5 ⟨rfl, hq⟩
           have hS5 := (unhide HS4).kept hq
           have HS5 := hide hS5
           obtain ⟨r0, r1, r2, r3⟩ := box4 hS5.op
           obtain ⟨z0, z1⟩ := box2 hS5.ro
           obtain ⟨t0, t1⟩ := hS5.tb.rev
           have hR5 := hS5.turn ((Kept.refl [b] w5).setCell (p := ⟨b, 1, none⟩) (Or.inl (by simp)) _) hS5.tb.rise hkb hvb
           have HR5 := hide hR5
           obtain ⟨a0, a1, a2, a3⟩ := box4 hR5.op
           obtain ⟨b0, b1⟩ := box2 hR5.ro
           clear hR5
           clear hq hS5)
        | (go_at_call 60; refine (unhide (HA2 _ _ (unhide HR5).tb _ _ (unhide HK))).mono ?_; rintro e w7 ⟨ka, kn, kc, va, vn, vc, rfl, n1, n2, hq⟩
           obtain ⟨⟨p0, p1, p2, p3, p4⟩, g0, g1, g2, g3, g4⟩ := box5 ((unhide HR5).kept hq).an
           have HFIN := hide (fin_do (unhide HR5) n1 n2 hq)
           have HAN := hide ((unhide HR5).kept hq).an
           clear n1 n2 hq))
      (try simp only [Exit.inBlock, Exit.then])
      refine ret_struct (b := w.heap.size + 1) rfl rfl (put5 (unhide HAN) _ _ _ _ _) Try.underlying39 infoAns rfl ⟨_, _, rfl, (unhide HFIN _ _ _ _ _).1, (unhide HFIN _ _ _ _ _).2.1, (unhide HFIN _ _ _ _ _).2.2.1, (unhide HFIN _ _ _ _ _).2.2.2⟩
    · simp only [if_true]
      go_enter Try.func36, Try.ntmps36
      go_wp2_with (first
        | (go_at_call 57; refine (unhide HF2 _ (two_kept w _ _)).mono ?_; rintro e w3 ⟨K, hK, rfl, hq⟩
           have hS3 := unhide HST w3 x1 x2 hq
           have HK := hide hK
           have HS3 := hide hS3
           obtain ⟨o0, o1, o2, o3⟩ := box4 hS3.op
           obtain ⟨y0, y1⟩ := box2 hS3.ro
           clear hq hS3 hK)
        | (go_at_call 58; refine (unhide (HD _ _ _ _)).mono ?_; rw [unhide HDN]; rintro e w4 ⟨rfl, hq⟩
           have hS4 := (unhide HS3).kept hq
           have HS4 := hide hS4
           obtain ⟨q0, q1, q2, q3⟩ := box4 hS4.op
           clear hq hS4)
        | (go_at_call 56; refine (unhide (HW _)).mono ?_; rw [unhide HWR]; rintro e w5 ⟨rfl, hq⟩
           have hS5 := (unhide HS4).kept hq
           have HS5 := hide hS5
           obtain ⟨r0, r1, r2, r3⟩ := box4 hS5.op
           obtain ⟨z0, z1⟩ := box2 hS5.ro
           obtain ⟨t0, t1⟩ := hS5.tb.rev
           have hR5 := hS5.turn ((Kept.refl [b] w5).setCell (p := ⟨b, 1, none⟩) (Or.inl (by simp)) _) hS5.tb.rise hkb hvb
           have HR5 := hide hR5
           obtain ⟨a0, a1, a2, a3⟩ := box4 hR5.op
           obtain ⟨b0, b1⟩ := box2 hR5.ro
           clear hR5
           clear hq hS5)
        | (go_at_call 59; refine (unhide HC _ _ (by omega) (Or.inl (by omega)) (unhide HR5).tb (unhide HR5).at_).mono ?_; rintro e w6 ⟨rfl, ht6, hk6⟩
           have hS6 := (unhide HR5).turn hk6 ht6 hkb hvb
           have HS6 := hide hS6
           obtain ⟨v0, v1⟩ := box2 hS6.ro
           clear ht6 hk6 hS6)
        | (go_at_call 60; refine (unhide (HA2 _ _ (unhide HS6).tb _ _ (unhide HK))).mono ?_; rintro e w7 ⟨ka, kn, kc, va, vn, vc, rfl, n1, n2, hq⟩
           obtain ⟨⟨p0, p1, p2, p3, p4⟩, g0, g1, g2, g3, g4⟩ := box5 ((unhide HS6).kept hq).an
           have HFIN := hide (fin_do (unhide HS6) n1 n2 hq)
           have HAN := hide ((unhide HS6).kept hq).an
           clear n1 n2 hq))
      (try simp only [Exit.inBlock, Exit.then])
      refine ret_struct (b := w.heap.size + 1) rfl rfl (put5 (unhide HAN) _ _ _ _ _) Try.underlying39 infoAns rfl ⟨_, _, rfl, (unhide HFIN _ _ _ _ _).1, (unhide HFIN _ _ _ _ _).2.1, (unhide HFIN _ _ _ _ _).2.2.1, (unhide HFIN _ _ _ _ _).2.2.2⟩
end Go.Proofs.Ytkejpbfbpomjfab.tre

/- Do: what speaks against an op; its answer. -/
namespace Go.Proofs.Ytkejpbfbpomjfab.tre
open Go.RowKit

/-- what speaks against an op -/
def rfs (T : Tb) (o : Opm) : Int := if rgt o = false then 131 else if wrs o = true ∧ T.rev = 1099511627776 then 132 else 0
set_option maxRecDepth 100000 in
set_option maxHeartbeats 1000000 in
theorem refusal_any {w : World} {b : Nat} {T : Tb} (h : Tab w b T) {o : Opm} {ks vs : Value} (ho : OpAt w o ks vs) :
    Calls Try.prog 35 #[.pointer (some ⟨b, 0, none⟩), opv o ks vs] w fun e w' => e = .returned (.int .i64 (rfs T o)) ∧ Kept [] w w' := by
  have HR : Hid (∀ W, Kept [] w W → _) := hide (fun W (hk : Kept [] w W) => right_any (ho.kept hk))
  have HW := fun W => hide (isWrite_any W o ks vs)
  have HT := hide h
  have HOB := hide (Blk.new w #[.int .i64 o.kind, ks, vs, .int .i64 o.rev] 36)
  have HWD : Hid (decide (o.kind ≠ 1 ∧ o.kind ≠ 5) = wrs o) := rfl
  unfold rfs
  unfold opv at *
  clear h ho
  obtain ⟨T1, T2⟩ := T
  simp only at *
  generalize rgt o = rg at *
  generalize wrs o = wr at *
  cases rg
  · simp only [if_true]
    go_enter Try.func35, Try.ntmps35
    go_wp2_with (first
      | (go_at_call 19; refine (unhide HR _ ((Kept.refl [] w).alloc _)).mono ?_; rintro e w3 ⟨rfl, hq⟩
         have HK3 := hide (((Kept.refl [] w).alloc _).step hq)
         clear hq))
    go_ret
    exact ⟨rfl, unhide HK3⟩
  · simp only [Bool.true_eq_false, if_false]
    cases wr
    · simp only [Bool.false_eq_true, false_and, if_false]
      go_enter Try.func35, Try.ntmps35
      go_wp2_with (first
        | (go_at_call 19; refine (unhide HR _ ((Kept.refl [] w).alloc _)).mono ?_; rintro e w3 ⟨rfl, hq⟩
           have HK3 := hide (((Kept.refl [] w).alloc _).step hq)
           obtain ⟨o0, o1, o2, o3⟩ := box4 ((unhide HOB).kept hq (by simp))
           clear hq)
        | (go_at_call 56; refine (unhide (HW _)).mono ?_; rw [unhide HWD]; rintro e w4 ⟨rfl, hq⟩
           have HK4 := hide ((unhide HK3).step hq)
           clear hq))
      go_ret
      exact ⟨rfl, unhide HK4⟩
    · by_cases hm : T2 = 1099511627776
      · simp only [hm, and_self, if_true]
        subst hm
        go_enter Try.func35, Try.ntmps35
        go_wp2_with (first
          | (go_at_call 19; refine (unhide HR _ ((Kept.refl [] w).alloc _)).mono ?_; rintro e w3 ⟨rfl, hq⟩
             have HK3 := hide (((Kept.refl [] w).alloc _).step hq)
             obtain ⟨o0, o1, o2, o3⟩ := box4 ((unhide HOB).kept hq (by simp))
             clear hq)
          | (go_at_call 56; refine (unhide (HW _)).mono ?_; rw [unhide HWD]; rintro e w4 ⟨rfl, hq⟩
             have HK4 := hide ((unhide HK3).step hq)
             have t4 : w4.cell? ⟨b, 1, none⟩ = some (.int .i64 1099511627776) := ((unhide HT).kept (unhide HK4)).rev.1
             clear hq))
        go_ret
        exact ⟨rfl, unhide HK4⟩
      · simp only [hm, and_false, if_false]
        have hmI : ((T2 : Int) == 1099511627776) = false := by simp; omega
        have hmJ : (T2 == 1099511627776) = false := by simp; exact hm
        go_enter Try.func35, Try.ntmps35
        go_wp2_with (first
          | (go_at_call 19; refine (unhide HR _ ((Kept.refl [] w).alloc _)).mono ?_; rintro e w3 ⟨rfl, hq⟩
             have HK3 := hide (((Kept.refl [] w).alloc _).step hq)
             obtain ⟨o0, o1, o2, o3⟩ := box4 ((unhide HOB).kept hq (by simp))
             clear hq)
          | (go_at_call 56; refine (unhide (HW _)).mono ?_; rw [unhide HWD]; rintro e w4 ⟨rfl, hq⟩
             have HK4 := hide ((unhide HK3).step hq)
             have t4 := ((unhide HT).kept (unhide HK4)).rev.1
             clear hq))
        go_ret
        exact ⟨rfl, unhide HK4⟩
/-- an answer, and that nothing speaks against it -/
structure Ansd (w w' : World) (b : Nat) (T : Tb) (o : Opm) (ka : Option Addr) (kn kc : Nat) (va : Option Addr) (vn vc : Nat) : Prop where
  k : NewS w (.slice ka kn kc) (if (fnd T o).isSome then byts (fk (fnd T o)) else []) w'
  v : NewS w (.slice va vn vc) (if (fnd T o).isSome then byts (fv (fnd T o)).1 else []) w'
  t : Tab w' b (nxt T o)
  kp : Kept [b] w w'
set_option maxRecDepth 100000 in
set_option maxHeartbeats 2000000 in
theorem Do_yes {w : World} {b : Nat} {T : Tb} (h : Tab w b T) (hT : Tok T) {o : Opm} {ks vs : Value} (ho : OpAt w o ks vs) (hkb : Free b ks) (hvb : Free b vs) (hr : rfs T o = 0) :
    Calls Try.prog 15 #[.pointer (some ⟨b, 0, none⟩), opv o ks vs] w fun e w' => ∃ ka kn kc va vn vc, e = .returned (.tuple #[.agg #[.bool (dn T o), .slice ka kn kc, .slice va vn vc, .int .i64 (if (fnd T o).isSome then (fv (fnd T o)).2 else 0), .int .i64 (rvn T o : Int)], .int .i64 0]) ∧ Ansd w w' b T o ka kn kc va vn vc := by
  have hbl : b < w.heap.size := by obtain ⟨q0, hb0, -⟩ := h; exact hb0.lt
  have hrg : rgt o = true := by
    unfold rfs at hr
    cases hg : rgt o with
    | true => rfl
    | false => rw [hg] at hr; simp at hr
  have hwl : wrs o = true → T.rev < 1099511627776 := fun hw => by
    unfold rfs at hr
    rw [hrg, hw] at hr
    have := hT.rev
    by_cases he : T.rev = 1099511627776
    · simp [he] at hr
    · omega
  have hlen : o.key.length ≤ 65 ∧ o.val.length ≤ 256 ∧ (o.kind = 2 ∨ o.kind = 4 → o.key.length ≤ 64) := by
    unfold rgt at hrg
    split at hrg
    · (simp only [decide_eq_true_eq] at hrg); omega
    · split at hrg
      · (simp only [decide_eq_true_eq] at hrg); omega
      · split at hrg
        · (simp only [decide_eq_true_eq] at hrg); omega
        · split at hrg
          · (simp only [decide_eq_true_eq] at hrg); omega
          · cases hrg
  have HR : Hid (∀ W, Kept [] w W → _) := hide (fun W (hk : Kept [] w W) => refusal_any (h.kept hk) (ho.kept hk))
  rw [hr] at HR
  have HD : Hid (∀ W, Kept [] w W → _) := hide (fun W (hk : Kept [] w W) => do_any (h.kept hk) hT (ho.kept hk) hkb hvb hlen.1 hlen.2.1 hlen.2.2 hwl)
  have HOB := hide ((Blk.new w #[.int .i64 o.kind, ks, vs, .int .i64 o.rev] 36).alloc (.cells #[.bool false, .slice none 0 0, .slice none 0 0, .int .i64 0, .int .i64 0] 39))
  have HAB := hide (new2 w (.cells #[.int .i64 o.kind, ks, vs, .int .i64 o.rev] 36) #[.bool false, .slice none 0 0, .slice none 0 0, .int .i64 0, .int .i64 0] 39)
  have HFN : Hid (∀ (W w4 : World) (ka : Option Addr) (kn kc : Nat) (va : Option Addr) (vn vc : Nat) (p0 p1 p2 p3 p4 : Value), Kept [] w W → Blk W (w.heap.size + 1) #[.bool false, .slice none 0 0, .slice none 0 0, .int .i64 0, .int .i64 0] 39 → Ansd W w4 b T o ka kn kc va vn vc → Ansd w (((((w4.setCell ⟨w.heap.size + 1, 0, none⟩ p0).setCell ⟨w.heap.size + 1, 1, none⟩ p1).setCell ⟨w.heap.size + 1, 2, none⟩ p2).setCell ⟨w.heap.size + 1, 3, none⟩ p3).setCell ⟨w.heap.size + 1, 4, none⟩ p4) b T o ka kn kc va vn vc) := by
    intro W w4 ka kn kc va vn vc p0 p1 p2 p3 p4 hkW hbW hA
    have hk := kept5 (Kept.refl [w.heap.size + 1] w4) (b := w.heap.size + 1) (Or.inl (by simp)) p0 p1 p2 p3 p4
    have hl := hbW.lt
    have h4 := hbW.kept hA.kp (by simp; omega)
    refine ⟨(hA.k.from hkW.size).kept hk (fun x hx => ?_), (hA.v.from hkW.size).kept hk (fun x hx => ?_), hA.t.keep hk (by simp; omega) (off_ty h4 (by decide) (by decide)), kept5 ((hkW.mono (by simp)).trans hA.kp (by simp)) (Or.inr (by omega)) _ _ _ _ _⟩
    · have := hA.k.2 x hx; simp; omega
    · have := hA.v.2 x hx; simp; omega
  generalize dn T o = d at *
  generalize (if (fnd T o).isSome = true then (fv (fnd T o)).2 else 0) = R at *
  unfold opv at *
  clear h ho hT hr hrg hlen hwl hkb hvb
  go_enter Try.func15, Try.ntmps15
  go_wp2_with (first
    | (go_at_call 35; refine (unhide HR _ (two_kept w _ _)).mono ?_; rintro e w3 ⟨rfl, hq⟩
       have HK3 := hide ((two_kept w _ _).step hq)
       have HA3 := hide ((unhide HAB).kept hq (by simp))
       obtain ⟨o0, o1, o2, o3⟩ := box4 ((unhide HOB).kept hq (by simp))
       clear hq)
    | (go_at_call 36; refine (unhide HD _ (unhide HK3)).mono ?_; rintro e w4 ⟨kv, vv, rfl, n1, n2, n3, n4⟩
       obtain ⟨ka, kc, rfl⟩ := sees_len n1.1
       obtain ⟨va, vc, rfl⟩ := sees_len n2.1
       have hA : Ansd w3 w4 b T o ka _ kc va _ vc := ⟨n1, n2, n3, n4⟩
       have HA := hide hA
       have ha4 := (unhide HA3).kept n4 (by simp; omega)
       obtain ⟨⟨p0, p1, p2, p3, p4⟩, g0, g1, g2, g3, g4⟩ := box5 ha4
       have HA4 := hide ha4
       clear n1 n2 n3 n4 ha4 hA
       generalize hL1 : (if (fnd T o).isSome = true then byts (fk (fnd T o)) else []).length = l1 at *
       generalize hL2 : (if (fnd T o).isSome = true then byts (fv (fnd T o)).1 else []).length = l2 at *
       clear hL1 hL2))
  (try simp only [Exit.inBlock, Exit.then])
  refine ret_struct_tmp (b := w.heap.size + 1) rfl rfl (put5 (unhide HA4) _ _ _ _ _) Try.underlying39 infoAns rfl ⟨_, _, _, _, _, _, rfl, ?_⟩
  exact unhide HFN _ _ _ _ _ _ _ _ _ _ _ _ _ (unhide HK3) (unhide HA3) (unhide HA)
set_option maxRecDepth 100000 in
set_option maxHeartbeats 1000000 in
theorem Do_no {w : World} {b : Nat} {T : Tb} (h : Tab w b T) {o : Opm} {ks vs : Value} (ho : OpAt w o ks vs) (hr : rfs T o ≠ 0) :
    Calls Try.prog 15 #[.pointer (some ⟨b, 0, none⟩), opv o ks vs] w fun e w' => e = .returned (.tuple #[.agg #[.bool false, .slice none 0 0, .slice none 0 0, .int .i64 0, .int .i64 0], .int .i64 (rfs T o)]) ∧ Kept [] w w' := by
  have HR : Hid (∀ W, Kept [] w W → _) := hide (fun W (hk : Kept [] w W) => refusal_any (h.kept hk) (ho.kept hk))
  have HAB := hide (new2 w (.cells #[.int .i64 o.kind, ks, vs, .int .i64 o.rev] 36) #[.bool false, .slice none 0 0, .slice none 0 0, .int .i64 0, .int .i64 0] 39)
  have hrb : (rfs T o == 0) = false := by simp; exact hr
  generalize rfs T o = R at *
  unfold opv at *
  clear h ho hr
  go_enter Try.func15, Try.ntmps15
  go_wp2_with (first
    | (go_at_call 35; refine (unhide HR _ (two_kept w _ _)).mono ?_; rintro e w3 ⟨rfl, hq⟩
       have HK3 := hide ((two_kept w _ _).step hq)
       have ha3 := (unhide HAB).kept hq (by simp)
       obtain ⟨⟨p0, p1, p2, p3, p4⟩, g0, g1, g2, g3, g4⟩ := box5 ha3
       have HA3 := hide ha3
       clear hq ha3))
  (try simp only [Exit.inBlock, Exit.then])
  refine ret_struct_tmp (b := w.heap.size + 1) rfl rfl (put5 (unhide HA3) _ _ _ _ _) Try.underlying39 infoAns rfl ⟨rfl, ?_⟩
  exact kept5 (unhide HK3) (Or.inr (by omega)) _ _ _ _ _
end Go.Proofs.Ytkejpbfbpomjfab.tre
