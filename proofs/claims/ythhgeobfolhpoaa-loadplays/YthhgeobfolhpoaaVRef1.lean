/- The document's meter in memory: New, Go. -/
import Derived.Test.YthhgeobfolhpoaaVHlf
namespace Go.Proofs.Ythhgeobfolhpoaa
open Go.RowKit

/-- a hit: its shard, its age, its weight -/
structure Ht where
  s : Nat
  a : Nat
  x : Nat
/-- the document's meter in plain words -/
structure Rt where
  n : Nat
  half : Nat
  now : Nat
  all : List Ht
def hc (x : Ht) : List Value := [.int .i64 (x.s : Int), .int .i64 (x.a : Int), .float .f64 x.x]
def flatH (l : List Ht) : List Value := l.flatMap hc
def rcells (r : Rt) (v : Value) : List Value := [.int .i64 (r.n : Int), .int .i64 (r.half : Int), .int .i64 (r.now : Int), v]
/-- the document's meter in memory: its block, its row of hits -/
structure Rp (w : World) (b : Nat) (pa : Option Addr) (pc : Nat) (r : Rt) : Prop where
  head : Blk w b (rcells r (.slice pa r.all.length pc)).toArray 68
  row : w.ownsRow 0 81 3 (.slice pa r.all.length pc) r.all.length (flatH r.all)
  apart : ∀ k, (Value.slice pa r.all.length pc).ownBlock = some k → k ≠ b
theorem Rp.kept {F : List Nat} {w w' : World} {b pc : Nat} {pa : Option Addr} {r : Rt} (h : Rp w b pa pc r) (hk : Kept F w w') (hb : b ∉ F) (hg : ∀ k, (Value.slice pa r.all.length pc).ownBlock = some k → k ∉ F) : Rp w' b pa pc r := ⟨h.head.kept hk hb, own_kept h.row hk hg, h.apart⟩
theorem Rp.cells {w : World} {b pc : Nat} {pa : Option Addr} {r : Rt} (h : Rp w b pa pc r) : w.cell? ⟨b, 0, none⟩ = some (.int .i64 (r.n : Int)) ∧ w.cell? ⟨b, 1, none⟩ = some (.int .i64 (r.half : Int)) ∧ w.cell? ⟨b, 2, none⟩ = some (.int .i64 (r.now : Int)) ∧ w.cell? ⟨b, 3, none⟩ = some (.slice pa r.all.length pc) := by
  refine ⟨?_, ?_, ?_, ?_⟩ <;> (rw [h.head.cell]; simp [rcells])

set_option maxRecDepth 100000 in
theorem rnew_yes (w : World) {n h : Nat} (h1 : 1 ≤ n) (h2 : n ≤ 64) (h3 : 1 ≤ h) (h4 : h ≤ 1048576) : Calls Try.prog 10 #[.int .i64 (n : Int), .int .i64 (h : Int)] w fun e w' => ∃ b, e = .returned (.tuple #[.pointer (some ⟨b, 0, none⟩), .int .i64 0]) ∧ Rp w' b none 0 ⟨n, h, 0, []⟩ ∧ Kept [] w w' ∧ w.heap.size ≤ b := by
  have t1 : ((n : Int) < 1) = False := by simp; omega
  have t2 : ((64 : Int) < (n : Int)) = False := by simp; omega
  have t3 : ((h : Int) < 1) = False := by simp; omega
  have t4 : ((1048576 : Int) < (h : Int)) = False := by simp; omega
  go_enter Try.func10, Try.ntmps10
  go_wp2
  go_ret2
  refine ⟨_, rfl, ⟨?_, ⟨rfl, Or.inl ⟨rfl, rfl⟩⟩, fun k hk => by cases hk⟩, (Kept.refl _ _).alloc _, Nat.le_refl _⟩
  exact Blk.new _ _ _
set_option maxRecDepth 100000 in
theorem rnew_no (w : World) {s h : Int} (hx : ¬ fits s h) : Calls Try.prog 10 #[.int .i64 s, .int .i64 h] w fun e w' => e = .returned (.tuple #[.pointer none, .int .i64 2]) ∧ w' = w := by
  unfold fits at hx
  by_cases h1 : s < 1
  · have t1 : (s < 1) = True := by simp; omega
    clear hx h1
    go_enter Try.func10, Try.ntmps10
    go_wp2
    go_ret2
    exact ⟨rfl, rfl⟩
  · have t1 : (s < 1) = False := by simp; omega
    by_cases h2 : 64 < s
    · have t2 : ((64 : Int) < s) = True := by simp; omega
      clear hx h1 h2
      go_enter Try.func10, Try.ntmps10
      go_wp2
      go_ret2
      exact ⟨rfl, rfl⟩
    · have t2 : ((64 : Int) < s) = False := by simp; omega
      by_cases h3 : h < 1
      · have t3 : (h < 1) = True := by simp; omega
        clear hx h1 h2 h3
        go_enter Try.func10, Try.ntmps10
        go_wp2
        go_ret2
        exact ⟨rfl, rfl⟩
      · have t3 : (h < 1) = False := by simp; omega
        have t4 : ((1048576 : Int) < h) = True := by simp; omega
        clear hx h1 h2 h3
        go_enter Try.func10, Try.ntmps10
        go_wp2
        go_ret2
        exact ⟨rfl, rfl⟩
/-- its errors -/
def Rt.goE (r : Rt) (now : Int) : Nat := if now < 0 ∨ 1099511627776 < now then 2 else if now < (r.now : Int) then 90 else 0
theorem Rp.setNow {w : World} {b pc : Nat} {pa : Option Addr} {r : Rt} (h : Rp w b pa pc r) (t : Nat) : Rp (w.setCell ⟨b, 2, none⟩ (.int .i64 (t : Int))) b pa pc { r with now := t } := by
  refine ⟨?_, own_kept (F := [b]) h.row ((Kept.refl [b] w).setCell (p := ⟨b, 2, none⟩) (Or.inl (by simp)) _) (fun k hk => by simp; exact h.apart k hk), h.apart⟩
  have := h.head.set 2 (.int .i64 (t : Int))
  rw [List.setIfInBounds_toArray] at this
  exact this
set_option maxRecDepth 100000 in
theorem rgo_any {w : World} {b pc : Nat} {pa : Option Addr} {r : Rt} (h : Rp w b pa pc r) (now : Int) : Calls Try.prog 31 #[.pointer (some ⟨b, 0, none⟩), .int .i64 now] w fun e w' => e = .returned (.int .i64 (r.goE now : Nat)) ∧ Rp w' b pa pc (if r.goE now = 0 then { r with now := now.toNat } else r) ∧ Kept [b] w w' := by
  obtain ⟨-, -, c2, -⟩ := h.cells
  have f2 := h.head.frozen 2
  have HR := hide h
  unfold Rt.goE
  by_cases h1 : now < 0
  · have t1 : (now < 0) = True := by simp; exact h1
    rw [if_pos (Or.inl h1), if_neg (by omega)]
    clear h h1
    go_enter Try.func31, Try.ntmps31
    go_wp2
    go_ret
    exact ⟨rfl, unhide HR, Kept.refl _ _⟩
  · have t1 : (now < 0) = False := by simp; omega
    by_cases h2 : 1099511627776 < now
    · have t2 : ((1099511627776 : Int) < now) = True := by simp; exact h2
      rw [if_pos (Or.inr h2), if_neg (by omega)]
      clear h h1 h2
      go_enter Try.func31, Try.ntmps31
      go_wp2
      go_ret
      exact ⟨rfl, unhide HR, Kept.refl _ _⟩
    · have t2 : ((1099511627776 : Int) < now) = False := by simp; omega
      rw [if_neg (by omega)]
      by_cases h3 : now < (r.now : Int)
      · have t3 : (now < (r.now : Int)) = True := by simp; exact h3
        rw [if_pos h3, if_neg (by omega)]
        clear h h1 h2 h3
        go_enter Try.func31, Try.ntmps31
        go_wp2
        go_ret
        exact ⟨rfl, unhide HR, Kept.refl _ _⟩
      · have t3 : (now < (r.now : Int)) = False := by simp; omega
        rw [if_neg h3, if_pos rfl]
        obtain ⟨t, rfl⟩ : ∃ t : Nat, now = (t : Int) := ⟨now.toNat, by omega⟩
        rw [Int.toNat_natCast]
        have HE := hide (h.setNow t)
        have HK := hide ((Kept.refl [b] w).setCell (p := ⟨b, 2, none⟩) (Or.inl (by simp)) (.int .i64 (t : Int)))
        clear h h1 h2 h3 t1
        go_enter Try.func31, Try.ntmps31
        go_wp2
        go_ret
        exact ⟨rfl, unhide HE, unhide HK⟩
set_option maxRecDepth 100000 in
theorem rngo (w : World) (now : Int) : Calls Try.prog 31 #[.pointer none, .int .i64 now] w fun e w' => e = .returned (.int .i64 1) ∧ w' = w := by
  go_enter Try.func31, Try.ntmps31
  go_wp2
  go_ret
  exact ⟨rfl, rfl⟩
set_option maxRecDepth 100000 in
theorem rnhit (w : World) (s now : Int) (x : Nat) : Calls Try.prog 30 #[.pointer none, .int .i64 s, .int .i64 now, .float .f64 x] w fun e w' => e = .returned (.int .i64 1) ∧ w' = w := by
  go_enter Try.func30, Try.ntmps30
  go_wp2
  go_ret
  exact ⟨rfl, rfl⟩
end Go.Proofs.Ythhgeobfolhpoaa
