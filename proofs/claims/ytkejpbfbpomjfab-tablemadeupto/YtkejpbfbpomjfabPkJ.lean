/- Texts laid one behind the other: CTree CTree2. -/
import Derived.Test.YtkejpbfbpomjfabPkD
import Derived.Test.YtkejpbfbpomjfabPkI
/- Trees in memory, and the calls that ask them. -/
namespace Go.Proofs.Ytkejpbfbpomjfab.tre
open Go.RowKit

/-- the tree at q is this one -/
def Tt (w : World) (q : Option Addr) (t : TI) : Prop := (q = none ∧ t = .nil) ∨ ∃ b p, q = some ⟨b, 0, none⟩ ∧ Blk w b #[.pointer p] 123 ∧ Nd w p t
theorem Tt.kept {w w' : World} {t : TI} {q : Option Addr} (h : Tt w q t) (hk : Kept [] w w') : Tt w' q t := by
  rcases h with h | ⟨b, p, h1, h2, h3⟩
  · exact Or.inl h
  · exact Or.inr ⟨b, p, h1, h2.kept hk (by simp), h3.kept hk⟩
theorem Tt.of_nil {w : World} : Tt w none .nil := Or.inl ⟨rfl, rfl⟩
theorem Tt.new {w : World} {p : Option Addr} {t : TI} (h : Nd w p t) : Tt (w.alloc (.cells #[.pointer p] 123)) (some ⟨w.heap.size, 0, none⟩) t :=
  Or.inr ⟨_, p, rfl, Blk.new _ _ _, h.kept ((Kept.refl [] w).alloc _)⟩

set_option maxRecDepth 100000 in
theorem root_any {w : World} {q : Option Addr} {t : TI} (h : Tt w q t) : ∃ p, Nd w p t ∧ ∀ W, Kept [] w W → Calls Try.prog 55 #[.pointer q] W fun e w' => e = .returned (.pointer p) ∧ w' = W := by
  rcases h with ⟨rfl, rfl⟩ | ⟨b, p, rfl, hb, hp⟩
  · refine ⟨none, rfl, fun W hk => ?_⟩
    go_enter Try.func55, Try.ntmps55
    go_wp2
    go_ret
    exact ⟨rfl, rfl⟩
  · refine ⟨p, hp, fun W hk => ?_⟩
    have hc := (hb.kept hk (by simp)).cell 0
    simp only [List.getElem?_toArray, List.getElem?_cons_zero] at hc
    clear hb hp hk
    go_enter Try.func55, Try.ntmps55
    go_wp2
    go_ret
    exact ⟨rfl, rfl⟩

set_option maxRecDepth 100000 in
theorem Len_any {w : World} {q : Option Addr} {t : TI} (h : Tt w q t) : Calls Try.prog 45 #[.pointer q] w fun e w' => e = .returned (.int .i64 (t.size : Nat)) ∧ w' = w := by
  obtain ⟨p, hp, hr⟩ := root_any h
  have HR := hide (hr w (Kept.refl _ _))
  have HC := hide (count_any hp)
  clear hr hp h
  go_enter Try.func45, Try.ntmps45
  go_wp2_with (first
    | (go_at_call 55; refine (unhide HR).mono ?_; rintro e w3 ⟨rfl, hq⟩; have hq' := hq.symm; subst hq')
    | (go_at_call 64; refine (unhide HC).mono ?_; rintro e w3 ⟨rfl, hq⟩; have hq' := hq.symm; subst hq'))
  go_ret
  exact ⟨rfl, rfl⟩
set_option maxRecDepth 100000 in
theorem Rank_any {w : World} {q : Option Addr} {t : TI} (k : ByteArray) (h : Tt w q t) (hz : t.size < 4611686018427384000) : Calls Try.prog 88 #[.pointer q, .string k] w fun e w' => e = .returned (.int .i64 (t.rank k : Nat)) ∧ w' = w := by
  obtain ⟨p, hp, hr⟩ := root_any h
  have HR := hide (hr w (Kept.refl _ _))
  have HC := hide (rank_any k hp (by omega))
  clear hr hp h
  go_enter Try.func88, Try.ntmps88
  go_wp2_with (first
    | (go_at_call 55; refine (unhide HR).mono ?_; rintro e w3 ⟨rfl, hq⟩; have hq' := hq.symm; subst hq')
    | (go_at_call 95; refine (unhide HC).mono ?_; rintro e w3 ⟨rfl, hq⟩; have hq' := hq.symm; subst hq'))
  go_ret
  exact ⟨rfl, rfl⟩

/-- key, value and presence of what was found -/
def fk (o : Option (ByteArray × VT)) : ByteArray := (o.getD (ByteArray.empty, ByteArray.empty, 0)).1
def fv (o : Option (ByteArray × VT)) : VT := (o.getD (ByteArray.empty, ByteArray.empty, 0)).2
set_option maxRecDepth 100000 in
theorem Get_any {w : World} {q : Option Addr} {t : TI} (k : ByteArray) (h : Tt w q t) : Calls Try.prog 79 #[.pointer q, .string k] w fun e w' => e = .returned (.tuple #[.agg #[.string (fv (t.find k)).1, .int .i64 (fv (t.find k)).2], .bool (t.find k).isSome]) ∧ Kept [] w w' := by
  obtain ⟨p, hp, hr⟩ := root_any h
  have HR := hide hr
  have HC : Hid (∀ W, Kept [] w W → _) := hide (fun W (hk : Kept [] w W) => find_any k (hp.kept hk))
  clear hr hp h
  go_enter Try.func79, Try.ntmps79
  go_wp2_with (first
    | (go_at_call 55; refine (unhide HR _ ((Kept.refl [] w).alloc _)).mono ?_; rintro e w3 ⟨rfl, hq⟩; have hq' := hq.symm; subst hq')
    | fail)
  refine (unhide HC _ ((Kept.refl [] w).alloc _)).mono ?_
  rintro e w3 ⟨⟨p3, rfl, hf⟩, hq⟩
  subst hq
  have hbx := Blk.new w #[.string ByteArray.empty, .int .i64 0] 73
  rcases hf with ⟨hf, rfl⟩ | ⟨k', x, hf, b, u1, u2, u3, u4, rfl, hb⟩
  · have HF := hide hf
    have HBX := hide hbx
    clear hf hbx
    go_wp2
    (try simp only [Exit.inBlock, Exit.then])
    refine ret_struct_tmp (b := w.heap.size) rfl rfl ((unhide HBX).alloc _) Try.underlying73 infoCell rfl ⟨by rw [unhide HF]; rfl, ?_⟩
    exact ((Kept.refl [] w).alloc _).alloc _
  · have HF := hide hf
    obtain ⟨c0, c1, c1s, -, -, -, -⟩ := seven hb
    have d0 := hbx.cell 0
    have d1 := hbx.cell 1
    have f0 := hbx.frozen 0
    have f1 := hbx.frozen 1
    have HBX := hide hbx
    clear hb hf hbx
    go_wp2
    (try simp only [Exit.inBlock, Exit.then])
    refine ret_struct_tmp (b := w.heap.size) rfl rfl (Blk.new w _ _) Try.underlying73 infoCell rfl ⟨by rw [unhide HF]; rfl, ?_⟩
    exact (Kept.refl [] w).alloc _
set_option maxRecDepth 100000 in
theorem At_any {w : World} {q : Option Addr} {t : TI} (i : Int) (h : Tt w q t) (hz : t.size < 4611686018427384000) (hi : -9223372036854775808 ≤ i ∧ i ≤ 9223372036854775807) :
    Calls Try.prog 87 #[.pointer q, .int .i64 i] w fun e w' => e = .returned (.tuple #[.string (fk (t.at' i)), .agg #[.string (fv (t.at' i)).1, .int .i64 (fv (t.at' i)).2], .bool (t.at' i).isSome]) ∧ Kept [] w w' := by
  obtain ⟨p, hp, hr⟩ := root_any h
  have HR := hide hr
  have HC : Hid (∀ W, Kept [] w W → _) := hide (fun W (hk : Kept [] w W) => at_any i (hp.kept hk) (by omega) hi)
  clear hr hp h
  go_enter Try.func87, Try.ntmps87
  go_wp2_with (first
    | (go_at_call 55; refine (unhide HR _ (by first | exact (Kept.refl [] w).alloc _ | exact ((Kept.refl [] w).alloc _).alloc _)).mono ?_; rintro e w3 ⟨rfl, hq⟩; have hq' := hq.symm; subst hq')
    | fail)
  refine (unhide HC _ (by first | exact (Kept.refl [] w).alloc _ | exact ((Kept.refl [] w).alloc _).alloc _)).mono ?_
  rintro e w3 ⟨⟨p3, rfl, hf⟩, hq⟩
  subst hq
  have hbx := Blk.new w #[.string ByteArray.empty, .int .i64 0] 73
  rcases hf with ⟨hf, rfl⟩ | ⟨k', x, hf, b, u1, u2, u3, u4, rfl, hb⟩
  · have HF := hide hf
    have HBX := hide hbx
    clear hf hbx
    go_wp2_with fail
    go_region
    all_goals go_wp2
    all_goals
      (try simp only [Exit.inBlock, Exit.then])
      refine ret_mid (b := w.heap.size) rfl rfl ((unhide HBX).alloc _) Try.underlying73 infoCell rfl ⟨by rw [unhide HF]; rfl, ?_⟩
      exact (((Kept.refl [] w).alloc _).alloc _).drew
  · have HF := hide hf
    obtain ⟨c0, c1, c1s, -, -, -, -⟩ := seven hb
    have d0 := hbx.cell 0
    have d1 := hbx.cell 1
    have f0 := hbx.frozen 0
    have f1 := hbx.frozen 1
    have HBX := hide hbx
    clear hb hf hbx
    go_wp2_with fail
    go_region
    all_goals go_wp2
    all_goals
      (try simp only [Exit.inBlock, Exit.then])
      refine ret_mid (b := w.heap.size) rfl rfl (Blk.new w _ _) Try.underlying73 infoCell rfl ⟨by rw [unhide HF]; rfl, ?_⟩
      exact ((Kept.refl [] w).alloc _).drew
set_option maxRecDepth 100000 in
theorem Seek_any {w : World} {q : Option Addr} {t : TI} (k : ByteArray) (h : Tt w q t) (hz : t.size < 4611686018427384000) :
    Calls Try.prog 78 #[.pointer q, .string k] w fun e w' => e = .returned (.tuple #[.string (fk (t.at' (t.rank k : Nat))), .agg #[.string (fv (t.at' (t.rank k : Nat))).1, .int .i64 (fv (t.at' (t.rank k : Nat))).2], .bool (t.at' (t.rank k : Nat)).isSome]) ∧ Kept [] w w' := by
  have s1 := t.rank_size k
  have HR : Hid (∀ W, Kept [] w W → _) := hide (fun W (hk : Kept [] w W) => Rank_any k (h.kept hk) hz)
  have HC : Hid (∀ W, Kept [] w W → _) := hide (fun W (hk : Kept [] w W) => At_any ((t.rank k : Nat) : Int) (h.kept hk) hz (by omega))
  clear h s1
  generalize ((t.rank k : Nat) : Int) = rk at *
  generalize fk (t.at' rk) = a1 at *
  generalize fv (t.at' rk) = a2 at *
  generalize (t.at' rk).isSome = a3 at *
  obtain ⟨v1, v2⟩ := a2
  go_enter Try.func78, Try.ntmps78
  have hbx := Blk.new w #[.string ByteArray.empty, .int .i64 0] 73
  have HBX := hide hbx
  clear hbx
  go_wp2_with (first
    | (go_at_call 88; refine (unhide HR _ ((Kept.refl [] w).alloc _)).mono ?_; rintro e w3 ⟨rfl, hq⟩; have hq' := hq.symm; subst hq')
    | (go_at_call 87; refine (unhide HC _ ((Kept.refl [] w).alloc _)).mono ?_; rintro e w3 ⟨rfl, hq⟩; have HQ := hide (((Kept.refl [] w).alloc _).trans hq (by simp)); have hb3 := (unhide HBX).kept hq (by simp); have d0 := hb3.cell 0; have d1 := hb3.cell 1; have f0 := hb3.frozen 0; have f1 := hb3.frozen 1; have HB3 := hide hb3; clear hq hb3))
  (try simp only [Exit.inBlock, Exit.then])
  refine ret_mid (b := w.heap.size) rfl rfl (put2 (unhide HB3) _ _) Try.underlying73 infoCell rfl ⟨rfl, ?_⟩
  exact ((unhide HQ).setCell (Or.inr (Nat.le_refl _)) _).setCell (Or.inr (Nat.le_refl _)) _
end Go.Proofs.Ytkejpbfbpomjfab.tre

/- The calls that make trees. -/
namespace Go.Proofs.Ytkejpbfbpomjfab.tre
open Go.RowKit

set_option maxRecDepth 100000 in
set_option maxHeartbeats 1000000 in
theorem Put_any {w : World} {q : Option Addr} {t : TI} (k : ByteArray) (x : VT) (h : Tt w q t) (hz : t.size < 4611686018427384000) :
    Calls Try.prog 72 #[.pointer q, .string k, .agg #[.string x.1, .int .i64 x.2]] w fun e w' => ∃ q, e = .returned (.pointer q) ∧ Tt w' q (t.put k x) ∧ Kept [] w w' := by
  obtain ⟨p, hp, hr⟩ := root_any h
  have HR := hide hr
  have HC : Hid (∀ W b, Kept [] w W → Blk W b #[.string k, .string x.1, .int .i64 x.2, .pointer none, .pointer none, .int .i64 0, .int .i64 0] 118 → Made 85 #[.pointer p, .pointer (some ⟨b, 0, none⟩)] W (t.put k x)) := fun W b hk hb => put_at (hp.kept hk) ⟨b, _, _, _, _, rfl, hb⟩ hz
  clear hr hp h hz
  generalize t.put k x = t2 at *
  go_enter Try.func72, Try.ntmps72
  go_wp2_with fail
  have hbx := Blk.new w #[.string x.1, .int .i64 x.2] 73
  have d0 := hbx.cell 0
  have d1 := hbx.cell 1
  simp only [List.getElem?_toArray, List.getElem?_cons_zero, List.getElem?_cons_succ] at d0 d1
  have HD : Hid (∀ W, Kept [] (w.alloc (.cells #[.string x.1, .int .i64 x.2] 73)) W → W.cell? ⟨w.heap.size, 0, none⟩ = some (.string x.1) ∧ W.cell? ⟨w.heap.size, 1, none⟩ = some (.int .i64 x.2)) := fun W hk => ⟨(hk.cell (p := ⟨w.heap.size, 0, none⟩) hbx.lt (by simp)).trans d0, (hk.cell (p := ⟨w.heap.size, 1, none⟩) hbx.lt (by simp)).trans d1⟩
  clear hbx
  go_region_held3 (fun w' => w'.cell? ⟨w.heap.size, 0, none⟩ = some (.string x.1) ∧ w'.cell? ⟨w.heap.size, 1, none⟩ = some (.int .i64 x.2)) (first | go_keep | (exact HS3)) (first
    | (go_at_call 55; refine (unhide HR _ (by first | exact (Kept.refl [] w).alloc _ | exact ((Kept.refl [] w).alloc _).drew | exact two_kept w _ _ | exact (two_kept w _ _).drew)).mono ?_; rintro e w3 ⟨rfl, hq⟩; have hq' := hq.symm; subst hq')
    | (go_at_call 85; refine (unhide HC _ (w.heap.size + 1) (by first | exact two_kept w _ _ | exact (two_kept w _ _).drew) (by first | exact new2 w _ _ _) _ (Kept.refl _ _)).mono ?_; rintro e w3 ⟨p3, rfl, hn3, hk3⟩; have HS3 := unhide HD _ (((Kept.refl _ _).alloc _).drew.trans hk3 (by simp)); have HN := hide (Tt.new hn3); have HK := hide (((two_kept w _ _).drew.trans hk3 (by simp)).alloc (.cells #[.pointer p3] 123)); clear hn3 hk3))
  all_goals go_wp2
  all_goals
    go_ret
    exact ⟨_, rfl, unhide HN, unhide HK⟩
set_option maxRecDepth 100000 in
set_option maxHeartbeats 1000000 in
theorem Delete_any {w : World} {q : Option Addr} {t : TI} (k : ByteArray) (h : Tt w q t) (hz : t.size < 4611686018427384000) :
    Calls Try.prog 84 #[.pointer q, .string k] w fun e w' => ∃ q, e = .returned (.tuple #[.pointer q, .bool (t.without k).2]) ∧ Tt w' q (t.without k).1 ∧ Kept [] w w' := by
  obtain ⟨p, hp, hr⟩ := root_any h
  have HR := hide (hr w (Kept.refl _ _))
  have HC := hide (without_any t w p k hp hz)
  clear hr hp h hz
  generalize (t.without k).1 = t2 at *
  generalize (t.without k).2 = f2 at *
  go_enter Try.func84, Try.ntmps84
  go_wp2_with (first
    | (go_at_call 55; refine (unhide HR).mono ?_; rintro e w3 ⟨rfl, hq⟩; have hq' := hq.symm; subst hq')
    | (go_at_call 90; refine (unhide HC).mono ?_; rintro e w3 ⟨p3, rfl, hn3, hk3⟩; have HN := hide (Tt.new hn3); have HK := hide (hk3.alloc (.cells #[.pointer p3] 123)); clear hn3 hk3))
  go_ret2
  exact ⟨_, rfl, unhide HN, unhide HK⟩
end Go.Proofs.Ytkejpbfbpomjfab.tre
