/- A row of trees made by a script. -/
import Derived.Test.YtbpeeifgfjpghaaTRow
namespace Go.Proofs.Ytbpeeifgfjpghaa
open Go.RowKit

def in64 (x : Int) : Prop := -9223372036854775808 ≤ x ∧ x ≤ 9223372036854775807
structure OpI where
  kind : Int
  fr : Int
  key : Int
  val : Int
def OpI.ok (o : OpI) : Prop := in64 o.kind ∧ in64 o.fr ∧ in64 o.key ∧ in64 o.val
/-- a script that came in -/
def Ops (w : World) (v : Value) (os : List OpI) : Prop := ∃ a cap, v = .slice a os.length cap ∧ os.length ≤ cap ∧ cap ≤ maxLen ∧ (∀ o ∈ os, o.ok) ∧
  (os = [] ∨ ∃ b off, a = some ⟨b, off, none⟩ ∧ b < w.heap.size ∧ ∀ (j : Nat) (o : OpI), os[j]? = some o →
    w.cell? ⟨b, off + j * 4, none⟩ = some (.int .i64 o.kind) ∧ w.cell? ⟨b, off + j * 4 + 1, none⟩ = some (.int .i64 o.fr) ∧ w.cell? ⟨b, off + j * 4 + 2, none⟩ = some (.int .i64 o.key) ∧ w.cell? ⟨b, off + j * 4 + 3, none⟩ = some (.int .i64 o.val))

theorem Ops.kept {w w' : World} {v : Value} {os : List OpI} (h : Ops w v os) (hk : Kept [] w w') : Ops w' v os := by
  obtain ⟨a, cap, h1, h2, h3, h4, h5⟩ := h
  refine ⟨a, cap, h1, h2, h3, h4, ?_⟩
  rcases h5 with h5 | ⟨b, off, e, hb, hc⟩
  · exact Or.inl h5
  · refine Or.inr ⟨b, off, e, Nat.lt_of_lt_of_le hb hk.size, fun j o ho => ?_⟩
    obtain ⟨c0, c1, c2, c3⟩ := hc j o ho
    exact ⟨hk.cell' c0, hk.cell' c1, hk.cell' c2, hk.cell' c3⟩
set_option maxRecDepth 100000 in
theorem round_any {w : World} (x : Int) (n : Nat) (hx : in64 x) (hn : 1 ≤ n) (hn2 : n ≤ 4611686018427387904) : Calls Try.prog 15 #[.int .i64 x, .int .i64 (n : Int)] w fun e w' => (∃ r : Nat, r < n ∧ e = .returned (.int .i64 (r : Int))) ∧ w' = w := by
  obtain ⟨hx1, hx2⟩ := hx
  have h1 := Int.tmod_lt_of_pos x (show (0 : Int) < (n : Int) by omega)
  have h2 : -(n : Int) < x.tmod n := by
    have := Int.tmod_lt_of_pos (-x) (show (0 : Int) < (n : Int) by omega)
    rw [Int.neg_tmod] at this
    omega
  have h0 : ¬ (n : Int) = 0 := by omega
  by_cases hk : x.tmod n < 0
  · go_enter Try.func15, Try.ntmps15
    go_wp2
    go_ret
    refine ⟨⟨(x.tmod n + n).toNat, by omega, ?_⟩, rfl⟩
    show Ending.returned (Value.int .i64 _) = Ending.returned (Value.int .i64 _)
    congr 2; omega
  · go_enter Try.func15, Try.ntmps15
    go_wp2
    go_ret
    refine ⟨⟨(x.tmod n).toNat, by omega, ?_⟩, rfl⟩
    show Ending.returned (Value.int .i64 _) = Ending.returned (Value.int .i64 _)
    congr 2; omega
def t0 : TI := (((Tr.nil.put 5 50).put 3 30).put 9 90)
theorem t0_find3 : t0.find 3 = some (3, 30) := by decide +kernel
theorem t0_find4 : t0.find 4 = none := by decide +kernel
theorem t0_rank4 : t0.rank 4 = 1 := by decide +kernel
theorem t0_at1 : t0.at' 1 = some (5, 50) := by decide +kernel
theorem t0_size : t0.size = 3 := by decide +kernel
theorem t0_rank6 : t0.rank 6 = 2 := by decide +kernel
theorem t0_depth : t0.depth = 2 := by decide +kernel
theorem Get3 {w : World} {q : Option Addr} (h : Tt w q t0) : Calls Try.prog 46 #[.pointer q, .int .i64 3] w fun e w' => e = .returned (.tuple #[.int .i64 30, .bool true]) ∧ w' = w := by
  have := Get_any 3 h; rw [t0_find3] at this; exact this
theorem Get4 {w : World} {q : Option Addr} (h : Tt w q t0) : Calls Try.prog 46 #[.pointer q, .int .i64 4] w fun e w' => e = .returned (.tuple #[.int .i64 0, .bool false]) ∧ w' = w := by
  have := Get_any 4 h; rw [t0_find4] at this; exact this
theorem Seek4 {w : World} {q : Option Addr} (h : Tt w q t0) : Calls Try.prog 47 #[.pointer q, .int .i64 4] w fun e w' => e = .returned (.tuple #[.int .i64 5, .int .i64 50, .bool true]) ∧ Kept [] w w' := by
  have := Seek_any 4 h (by rw [t0_size]; omega); rw [t0_rank4, show ((1 : Nat) : Int) = 1 from rfl, t0_at1] at this; exact this
theorem Len3 {w : World} {q : Option Addr} (h : Tt w q t0) : Calls Try.prog 25 #[.pointer q] w fun e w' => e = .returned (.int .i64 3) ∧ w' = w := by
  have := Len_any h; rw [t0_size] at this; exact this
theorem Rank6 {w : World} {q : Option Addr} (h : Tt w q t0) : Calls Try.prog 48 #[.pointer q, .int .i64 6] w fun e w' => e = .returned (.int .i64 2) ∧ w' = w := by
  have := Rank_any 6 h (by rw [t0_size]; omega); rw [t0_rank6] at this; exact this
theorem Depth2 {w : World} {q : Option Addr} (h : Tt w q t0) : Calls Try.prog 28 #[.pointer q] w fun e w' => e = .returned (.int .i64 2) ∧ w' = w := by
  have := Depth_any h; rw [t0_depth] at this; exact this
theorem put1 : (Tr.nil : TI).size < 4611686018427384000 := by decide +kernel
theorem put2 : ((Tr.nil : TI).put 5 50).size < 4611686018427384000 := by decide +kernel
theorem put3 : (((Tr.nil : TI).put 5 50).put 3 30).size < 4611686018427384000 := by decide +kernel
set_option maxRecDepth 100000 in
set_option maxHeartbeats 1000000 in
theorem known_any (w : World) : Calls Try.prog 19 #[] w fun e w' => e = .returned (.bool true) ∧ Kept [] w w' := by
  have HN := hide (New_any (w := w))
  go_enter Try.func19, Try.ntmps19
  go_wp2_with (first
    | (go_at_call 31; refine (unhide HN).mono ?_; rintro e w1 ⟨q1, rfl, ht1, hk1⟩; have HP1 := hide (Put_any 5 50 ht1 put1); have HK1 := hide hk1; clear ht1 hk1 HN)
    | (go_at_call 45; refine (unhide HP1).mono ?_; rintro e w2 ⟨q2, rfl, ht2, hk2⟩; have HP2 := hide (Put_any 3 30 ht2 put2); have HK2 := hide ((unhide HK1).trans hk2 (by simp)); clear ht2 hk2 HP1 HK1)
    | (go_at_call 45; refine (unhide HP2).mono ?_; rintro e w3 ⟨q3, rfl, ht3, hk3⟩; have HP3 := hide (Put_any 9 90 ht3 put3); have HK3 := hide ((unhide HK2).trans hk3 (by simp)); clear ht3 hk3 HP2 HK2)
    | (go_at_call 45; refine (unhide HP3).mono ?_; rintro e w4 ⟨q4, rfl, ht4, hk4⟩; have HT := hide (show Tt w4 q4 t0 from ht4); have HG3 := hide (Get3 (unhide HT)); have HG4 := hide (Get4 (unhide HT)); have HS4 := hide (Seek4 (unhide HT)); have HK4 := hide ((unhide HK3).trans hk4 (by simp)); clear ht4 hk4 HP3 HK3)
    | (go_at_call 46; refine (unhide HG3).mono ?_; rintro e w5 ⟨rfl, hq⟩; have hq' := hq.symm; subst hq'; clear HG3)
    | (go_at_call 46; refine (unhide HG4).mono ?_; rintro e w5 ⟨rfl, hq⟩; have hq' := hq.symm; subst hq'; clear HG4)
    | (go_at_call 47; refine (unhide HS4).mono ?_; rintro e w6 ⟨rfl, hk6⟩; have HL := hide (Len3 ((unhide HT).kept hk6)); have HR := hide (Rank6 ((unhide HT).kept hk6)); have HD := hide (Depth2 ((unhide HT).kept hk6)); have HK6 := hide ((unhide HK4).trans hk6 (by simp)); clear hk6 HS4 HT HK4)
    | (go_at_call 25; refine (unhide HL).mono ?_; rintro e w5 ⟨rfl, hq⟩; have hq' := hq.symm; subst hq'; clear HL)
    | (go_at_call 48; refine (unhide HR).mono ?_; rintro e w5 ⟨rfl, hq⟩; have hq' := hq.symm; subst hq'; clear HR)
    | (go_at_call 28; refine (unhide HD).mono ?_; rintro e w5 ⟨rfl, hq⟩; have hq' := hq.symm; subst hq')
    | fail)
  go_ret
  exact ⟨rfl, unhide HK6⟩
set_option maxRecDepth 100000 in
theorem num_any {w : World} (x : Int) : Calls Try.prog 24 #[.int .i64 x] w fun e w' => e = .returned (.int .i64 x) ∧ w' = w := by
  go_enter Try.func24, Try.ntmps24
  go_wp2
  go_ret
  exact ⟨rfl, rfl⟩
end Go.Proofs.Ytbpeeifgfjpghaa
