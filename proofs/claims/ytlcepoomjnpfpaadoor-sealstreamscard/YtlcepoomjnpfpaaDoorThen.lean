/- Squares of bits: then, oneByte, manyBytes, pass. -/
import Derived.Test.YtlcepoomjnpfpaaDoorSquare
import Derived.Deep.RegionHeld3
namespace Go.Proofs.YtlcepoomjnpfpaaDoor
open Go.RowKit

/-- the cells of the square of m steps -/
def sqc (m : Nat) : Array Value := ((List.range 32).map fun i => Value.int .u32 ((stps m (2 ^ i) : Nat) : Int)).toArray
theorem sqr_eq (m : Nat) : sqr m = .agg (sqc m) := rfl
theorem sqc_size (m : Nat) : (sqc m).size = 32 := by simp [sqc]
theorem sqc_at (m k : Nat) (hk : k < 32) : (sqc m)[k]? = some (.int .u32 (stps m (2 ^ k) : Nat)) := by simp [sqc, hk]
theorem sqc_one (m : Nat) : (sqc m).all (·.oneCell') = true := row_one _
theorem sqc_info (m : Nat) : (Tryd.prog.info? 60).map (·.size) = some (sqc m).size := by rw [sqc_size]; exact info42

/-- the same cells, as a list -/
def sql (n : Nat) : List Value := (List.range 32).map fun i => Value.int .u32 ((stps n (2 ^ i) : Nat) : Int)
theorem sql_eq (n : Nat) : sqc n = (sql n).toArray := rfl
theorem sql_length (n : Nat) : (sql n).length = 32 := by simp [sql]
theorem sql_one (n : Nat) : ∀ v ∈ sql n, v.oneCell' = true := by
  intro v hv
  obtain ⟨_, _, rfl⟩ := List.mem_map.1 hv
  rfl

theorem rangeAt_kept {F : List Nat} {w w' : World} {b : Nat} {l : List Value} (h : w.rangeAt b 0 l) (hk : Kept F w w') (hb : b < w.heap.size) (hn : b ∉ F) : w'.rangeAt b 0 l :=
  fun j v hv => (hk.cell (p := ⟨b, 0 + j, none⟩) hb hn).trans (h j v hv)
theorem rangeAt_blk {w : World} {b : Nat} {l : List Value} {t : TypeId} (h : Blk w b l.toArray t) : w.rangeAt b 0 l :=
  fun j v hv => by rw [Nat.zero_add, h.cell]; simpa using hv

/-- what the square holds in the midst of 'then' -/
def mix (m n k j : Nat) : Value := .int .u32 ((if j < k then stps (m + n) (2 ^ j) else stps m (2 ^ j) : Nat) : Int)

theorem Row32.mixed {w : World} {b m n k : Nat} (h : Row32 w b (mix m n k) 32) (hk : k < 32) : Row32 (w.setCell ⟨b, k, none⟩ (.int .u32 (stps (m + n) (2 ^ k) : Nat))) b (mix m n (k + 1)) 32 := by
  obtain ⟨cs, h1, h2, h3⟩ := h
  refine ⟨_, by simpa using h1, h2.set k _, fun j hj => ?_⟩
  by_cases e : j = k
  · subst e; simp [h1, hk, mix]
  · rw [Array.getElem?_setIfInBounds_ne (by omega), h3 j hj]
    have : (j < k + 1) = (j < k) := by apply propext; omega
    simp [mix, this]

theorem Row32.lt {w : World} {b k : Nat} {f : Nat → Value} (h : Row32 w b f k) : b < w.heap.size := by
  obtain ⟨cs, h1, h2, h3⟩ := h
  exact h2.lt

theorem Row32.zero {w : World} {b : Nat} {f g : Nat → Value} (h : Row32 w b f 0) : Row32 w b g 0 := by
  obtain ⟨cs, h1, h2, h3⟩ := h
  exact ⟨cs, h1, h2, fun j hj => by omega⟩

theorem Row32.of_cells {w : World} {b : Nat} {cs : Array Value} {f : Nat → Value} (h1 : cs.size = 32) (h2 : Blk w b cs 60) (h3 : ∀ j, j < 32 → cs[j]? = some (f j)) : Row32 w b f 32 := ⟨cs, h1, h2, h3⟩

theorem Row32.new3 (w : World) (o o2 : Obj) (cs : Array Value) (h : cs.size = 32) (f : Nat → Value) : Row32 (((w.alloc o).alloc o2).alloc (.cells cs 60)) (w.heap.size + 1 + 1) f 0 := by
  have := Row32.new2 (w.alloc o) o2 cs h f
  simpa using this

set_option maxRecDepth 100000 in
set_option maxHeartbeats 1000000 in
theorem then_any (m n : Nat) (w : World) :
    Calls Tryd.prog 37 #[sqr m, sqr n] w fun e w' => e = .returned (sqr (m + n)) ∧ Kept [] w w' := by
  obtain ⟨l, hl⟩ : ∃ l, l = sql n := ⟨_, rfl⟩
  have HOF : Hid (∀ (x : Nat) (wx : World), x < 4294967296 → Calls Tryd.prog 35 #[.agg l.toArray, .int .u32 x] wx fun e w' => e = .returned (.int .u32 (stps n x : Nat)) ∧ Kept [] wx w') := by
    intro x wx hx
    rw [hl, ← sql_eq, ← sqr_eq]
    exact of_any n x hx wx
  rw [sqr_eq, sqr_eq, sqr_eq, sql_eq n, ← hl]
  obtain ⟨cs, hcs⟩ : ∃ cs, cs = sqc m := ⟨_, rfl⟩
  rw [← hcs]
  have HC := hide (⟨hcs, hl⟩ : _ ∧ _)
  have hs : cs.size = 32 := by rw [hcs]; exact sqc_size _
  have hl2 : l.length = 32 := by rw [hl]; exact sql_length _
  have hl1 : ∀ v ∈ l, v.oneCell' = true := by rw [hl]; exact sql_one _
  have hu42 := Tryd.underlying60
  have hin : (Tryd.prog.info? 60).map (·.size) = some l.length := by rw [hl2]; exact info42
  have HL := hide (⟨hl2, hl1, hu42, hin⟩ : _ ∧ _ ∧ _ ∧ _)
  clear hcs hl hl1 hl2 hu42 hin
  go_enter Tryd.func37, Tryd.ntmps37
  go_wp2_with fail
  go_loopw [6] (fun i wr => ∃ k : Nat, k ≤ 32 ∧ i = .int .i64 k ∧ Row32 wr w.heap.size (mix m n k) 32 ∧ Blk wr (w.heap.size + 1) l.toArray 60 ∧ Row32 wr (w.heap.size + 1 + 1) (mix m n k) 0 ∧ Kept [] w wr) (fun i _ => 32 - (intOf i).toNat)
  case atStart =>
    refine ⟨0, by omega, rfl, Row32.of_cells hs (((Blk.new w cs 60).alloc _).alloc _) (fun j hj => ?_), Blk.alloc (b := w.heap.size + 1) (by simpa using Blk.new (w.alloc (Obj.cells cs 60)) l.toArray 60) _, ?_, (((Kept.refl _ _).alloc _).alloc _).alloc _⟩
    · rw [(unhide HC).1, sqc_at m j hj]; simp [mix]
    · exact Row32.new3 w _ _ _ (by rfl) _
  case round =>
    obtain ⟨k, hk, rfl, hr, hrd, hr0, hkk⟩ := hrel
    have HR := hide hr
    have HRD := hide hrd
    have HR0 := hide hr0
    have HK := hide hkk
    clear hkk hr0
    by_cases hlt : k < 32
    · have hv := hr.cell k hlt
      have hf := hr.frozen k
      have e1 : mix m n k k = .int .u32 (stps m (2 ^ k) : Nat) := by simp [mix]
      rw [e1] at hv
      have h1 := stps_lt m (two_pow_lt hlt)
      have HE : Hid (stps (m + n) (2 ^ k) = stps n (stps m (2 ^ k))) := stps_add m n _
      generalize stps m (2 ^ k) = x at hv h1 HE
      have hbl := (unhide HR).lt
      have hbd := (unhide HRD).lt
      have hS := rangeAt_blk hrd
      have hS0 : wr.drew.rangeAt (w.heap.size + 1) 0 l := hS
      clear hr hrd e1 hS
      obtain ⟨hl2, hl1, hu42, hin⟩ := unhide HL
      go_wp2_with fail
      refine wp_region_any (by kernel_rfl) ?_
      change wpAny _ _ _ _ _ _ _ (World.drew _)
      refine wpAny_take (i := 0) (v := .int .i64 k) rfl (by kernel_rfl) (by kernel_rfl) (by kernel_rfl) (fun _ _ _ h => h) (Or.inl ⟨by rfl, by intro w; go_simp⟩) ?_
      refine wpAny_take (i := 2) (v := .int .i64 k) rfl (by kernel_rfl) (by kernel_rfl) (by kernel_rfl) (fun _ _ _ h => h) (Or.inl ⟨by rfl, by intro w; go_simp⟩) ?_
      refine wpAny_take (i := 3) (v := .pointer (some ⟨w.heap.size, k, none⟩)) rfl (by kernel_rfl) (by kernel_rfl) (by kernel_rfl) (fun _ _ _ h => h) (Or.inl ⟨by rfl, by intro w; go_simp⟩) ?_
      refine wpAny_ready (rs := [1, 4]) (by kernel_rfl) (by simp) ?_
      refine AllReady.cons rfl (fun K hK => ?_) (AllReady.cons rfl (fun K hK => ?_) AllReady.nil)
      · skip
        rw [if_pos (by rfl)]
        refine wp_load_mid 60 _ rfl (w.heap.size + 1) 0 rfl l _ hS0 hu42 rfl hin ?_
        refine hK _ _ ?_
        clear hK K
        refine wpAny_ready (rs := [4]) (by kernel_rfl) (by simp) ?_
        refine AllReady.cons rfl (fun K hK => ?_) AllReady.nil
        go_simp
        refine hK _ _ ?_
        clear hK K
        refine wpAny_ready (rs := [5]) (by kernel_rfl) (by simp) ?_
        refine AllReady.cons rfl (fun K hK => ?_) AllReady.nil
        go_simp
        go_wp2_with (first | (go_at_call 35; refine (unhide HOF x _ h1).mono ?_; rintro e w1 ⟨rfl, hk1⟩; have hv1 := (hk1.cell (p := ⟨w.heap.size, k, none⟩) hbl (by simp)).trans hv; have hf1 := (hk1.frozen (p := ⟨w.heap.size, k, none⟩) hbl (by simp)).trans hf; have HK1 := hide hk1; clear hk1))
        refine wpAny_take (i := 6) (v := .pointer (some ⟨w.heap.size, k, none⟩)) rfl (by kernel_rfl) (by kernel_rfl) (by kernel_rfl) (fun _ _ _ h => h) (Or.inl ⟨by rfl, by intro w; go_simp⟩) ?_
        refine wpAny_ready (rs := [7]) (by kernel_rfl) (by simp) ?_
        refine AllReady.cons rfl (fun K hK => ?_) AllReady.nil
        go_simp
        refine hK _ _ ?_
        clear hK K
        refine wpAny_done (by kernel_rfl) ?_ _
        have HKX : Hid (Kept [] wr w1) := ((Kept.refl [] wr).drew).trans (unhide HK1) (by simp)
        clear HK1 hl2 hl1 hu42 hin hS0
        go_wp2
        go_roundw
        case rel =>
          have := ((unhide HR).kept (unhide HKX) (by simp)).mixed (n := n) hlt
          rw [unhide HE] at this
          have ks : Kept [w.heap.size] w1 (w1.setCell ⟨w.heap.size, k, none⟩ (Value.int IntKind.u32 (stps n x : Nat))) := (Kept.refl _ _).setCell (Or.inl (by simp)) _
          exact ⟨k + 1, by omega, by simp, this, ((unhide HRD).kept (unhide HKX) (by simp)).kept ks (by simp), Row32.zero (((unhide HR0).kept (unhide HKX) (by simp)).kept ks (by simp; omega)), ((unhide HK).trans (unhide HKX) (by simp)).setCell (Or.inr (Nat.le_refl _)) _⟩
        case measure => simp [intOf]; omega
      · skip
        go_simp
        refine hK _ _ ?_
        clear hK K
        refine wpAny_ready (rs := [1]) (by kernel_rfl) (by simp) ?_
        refine AllReady.cons rfl (fun K hK => ?_) AllReady.nil
        rw [if_pos (by rfl)]
        refine wp_load_mid 60 _ rfl (w.heap.size + 1) 0 rfl l _ hS0 hu42 rfl hin ?_
        refine hK _ _ ?_
        clear hK K
        refine wpAny_ready (rs := [5]) (by kernel_rfl) (by simp) ?_
        refine AllReady.cons rfl (fun K hK => ?_) AllReady.nil
        go_simp
        go_wp2_with (first | (go_at_call 35; refine (unhide HOF x _ h1).mono ?_; rintro e w1 ⟨rfl, hk1⟩; have hv1 := (hk1.cell (p := ⟨w.heap.size, k, none⟩) hbl (by simp)).trans hv; have hf1 := (hk1.frozen (p := ⟨w.heap.size, k, none⟩) hbl (by simp)).trans hf; have HK1 := hide hk1; clear hk1))
        refine wpAny_take (i := 6) (v := .pointer (some ⟨w.heap.size, k, none⟩)) rfl (by kernel_rfl) (by kernel_rfl) (by kernel_rfl) (fun _ _ _ h => h) (Or.inl ⟨by rfl, by intro w; go_simp⟩) ?_
        refine wpAny_ready (rs := [7]) (by kernel_rfl) (by simp) ?_
        refine AllReady.cons rfl (fun K hK => ?_) AllReady.nil
        go_simp
        refine hK _ _ ?_
        clear hK K
        refine wpAny_done (by kernel_rfl) ?_ _
        have HKX : Hid (Kept [] wr w1) := ((Kept.refl [] wr).drew).trans (unhide HK1) (by simp)
        clear HK1 hl2 hl1 hu42 hin hS0
        go_wp2
        go_roundw
        case rel =>
          have := ((unhide HR).kept (unhide HKX) (by simp)).mixed (n := n) hlt
          rw [unhide HE] at this
          have ks : Kept [w.heap.size] w1 (w1.setCell ⟨w.heap.size, k, none⟩ (Value.int IntKind.u32 (stps n x : Nat))) := (Kept.refl _ _).setCell (Or.inl (by simp)) _
          exact ⟨k + 1, by omega, by simp, this, ((unhide HRD).kept (unhide HKX) (by simp)).kept ks (by simp), Row32.zero (((unhide HR0).kept (unhide HKX) (by simp)).kept ks (by simp; omega)), ((unhide HK).trans (unhide HKX) (by simp)).setCell (Or.inr (Nat.le_refl _)) _⟩
        case measure => simp [intOf]; omega
    · obtain rfl : k = 32 := by omega
      clear hr hrd
      obtain ⟨es, hse, hb, hc⟩ := unhide HR
      obtain ⟨c0, hs0, hb0, _⟩ := unhide HR0
      have hes : es = sqc (m + n) := by
        unfold sqc
        exact row_eq (f := fun i => Value.int .u32 ((stps (m + n) (2 ^ i) : Nat) : Int)) hse (fun j hj => by rw [hc j hj]; simp [mix, hj])
      have HS := hide (⟨hes, hb, hb0⟩ : _ ∧ _ ∧ _)
      have h1 : es.all (·.oneCell') = true := by rw [hes]; exact sqc_one _
      clear HR HR0 hc hes hb hb0
      go_wp2_with (first | (guard_target =~ wpList _ _ _ _ _ _; refine wpList_load_arr _ 60 rfl rfl w.heap.size 32 36 es rfl (unhide HS).2.1 Tryd.underlying60 (by rw [hse]; exact info42) ?_) | (guard_target =~ wpList _ _ _ _ _ _; refine wpList_store_arr _ _ 60 rfl rfl (w.heap.size + 1 + 1) c0 es rfl rfl (unhide HS).2.2 (by rw [hse]; exact info42) (by rw [hse, hs0]) h1 rfl ?_))
      refine ret_arr (b := w.heap.size + 1 + 1) (cs := es) rfl rfl (unhide HS).2.2.row Tryd.underlying60 (by rw [hse]; exact info42) rfl ⟨?_, (unhide HK).row (Or.inr (by omega)) _⟩
      rw [(unhide HS).1]
end Go.Proofs.YtlcepoomjnpfpaaDoor
