/- The document's has and rule. -/
import Derived.Test.YtnpabeodakncfaaGRef
namespace Go.Proofs.Ytnpabeodakncfaa
open Go.RowKit

def dig (s : ByteArray) (p : Int) (i : Nat) : Prop := ∃ h : i < s.size, (((s[i]'h).toNat : Int) - 48) % 256 = p

set_option maxRecDepth 100000 in
theorem rhas_any (w : World) (s : ByteArray) (p : Int) (hs : s.size ≤ 100) (b : Bool) (hb : b = true ↔ ∃ i, dig s p i) : Calls Try.prog 46 #[.string s, .int .i64 p] w fun e w' => e = .returned (.bool b) ∧ w' = w := by
  have HB := hide hb
  clear hb
  obtain ⟨n, hn⟩ : ∃ n, s.size = n := ⟨_, rfl⟩
  go_enter Try.func46, Try.ntmps46
  go_wp2_with fail
  go_loopw [5] (fun i wr => ∃ k : Nat, k ≤ n ∧ i = .int .i64 (k : Int) ∧ wr = w ∧ ∀ j, j < k → ¬ dig s p j) (fun i _ => n - (intOf i).toNat)
  case atStart => exact ⟨0, by omega, rfl, rfl, fun j hj => by omega⟩
  case round =>
    obtain ⟨k, hk, rfl, rfl, hno⟩ := hrel
    by_cases hlt : k < n
    · have hks : k < s.size := by omega
      go_wp2_with fail
      · go_ret
        rename_i hq
        refine ⟨ret_bool ?_, rfl⟩
        exact ((unhide HB).2 ⟨k, hks, by simpa using hq⟩).symm
      · rename_i hq
        refine ⟨⟨k + 1, by omega, by simp, trivial, fun j hj => ?_⟩, by simp [intOf]; omega⟩
        by_cases hjk : j < k
        · exact hno j hjk
        · obtain rfl : j = k := by omega
          rintro ⟨h1, h2⟩
          simp [h2] at hq
    · have hkn : k = n := by omega
      subst hkn
      have HNo := hide hno
      clear hno
      go_wp2_with fail
      go_ret
      refine ⟨ret_bool ?_, rfl⟩
      cases hb : b
      · rfl
      · obtain ⟨i, hi⟩ := (unhide HB).1 hb
        exact absurd hi (unhide HNo i (by obtain ⟨h, -⟩ := hi; omega))
theorem dig_list (l : List UInt8) (p : Int) : (∃ i, dig (ByteArray.mk l.toArray) p i) ↔ ∃ c ∈ l, ((c.toNat : Int) - 48) % 256 = p := by
  constructor
  · rintro ⟨i, h1, h2⟩
    have h1' : i < l.length := by simpa [ByteArray.size] using h1
    refine ⟨l[i], List.getElem_mem h1', ?_⟩
    exact h2
  · rintro ⟨c, hc, h2⟩
    obtain ⟨i, hi, rfl⟩ := List.mem_iff_getElem.1 hc
    exact ⟨i, by simpa [ByteArray.size] using hi, h2⟩
theorem rhas_lit (w : World) (l : List UInt8) (p : Int) (hs : l.length ≤ 100) (b : Bool) (hb : b = true ↔ ∃ c ∈ l, ((c.toNat : Int) - 48) % 256 = p) : Calls Try.prog 46 #[.string (ByteArray.mk l.toArray), .int .i64 p] w fun e w' => e = .returned (.bool b) ∧ w' = w :=
  rhas_any w _ p (by simpa [ByteArray.size] using hs) b (hb.trans (dig_list l p).symm)
def rls (k : Int) : List UInt8 := if k = 1 ∨ k = 2 then [49] else if k = 3 ∨ k = 5 then [50] else if k = 4 then [48, 53, 52] else if k = 6 ∨ k = 8 then [52] else if k = 7 then [51] else []
def rlt (k : Int) : Int := if k = 1 then 1 else if k = 2 then 2 else if k = 3 then 1 else if k = 4 then 4 else if k = 5 then 3 else if k = 6 then 1 else if k = 7 ∨ k = 8 then 5 else -1
theorem ret_rule {a : Array UInt8} {l : List UInt8} {b c : Int} (h1 : a = l.toArray) (h2 : b = c) : Ending.returned (.tuple #[.string ⟨a⟩, .int .i64 b]) = .returned (.tuple #[.string (ByteArray.mk l.toArray), .int .i64 c]) := by rw [h1, h2]
set_option maxRecDepth 100000 in
theorem rrule_any (w : World) (k : Int) : Calls Try.prog 55 #[.int .i64 k] w fun e w' => e = .returned (.tuple #[.string (ByteArray.mk (rls k).toArray), .int .i64 (rlt k)]) ∧ w' = w := by
  go_enter Try.func55, Try.ntmps55
  go_wp2_with fail
  all_goals
    go_ret2
    refine ⟨ret_rule ?_ ?_, rfl⟩
    · simp_all [rls]
    · simp_all [rlt]
theorem has_rule (w : World) (p k : Int) (h1 : 1 ≤ k) (h8 : k ≤ 8) : Calls Try.prog 46 #[.string (ByteArray.mk (rls k).toArray), .int .i64 p] w fun e w' => e = .returned (.bool (plc p k)) ∧ w' = w := by
  refine rhas_lit w (rls k) p ?_ _ ?_
  · unfold rls; repeat' split
    all_goals decide
  · have hk : k = 1 ∨ k = 2 ∨ k = 3 ∨ k = 4 ∨ k = 5 ∨ k = 6 ∨ k = 7 ∨ k = 8 := by omega
    rcases hk with rfl | rfl | rfl | rfl | rfl | rfl | rfl | rfl <;> simp [plc, rls] <;> omega
end Go.Proofs.Ytnpabeodakncfaa
