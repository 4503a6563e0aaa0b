/- A number as bytes, the highest first; Home, the document's too. -/
import Derived.Test.YtiafnfjgmfnnoabJArr
import Derived.Test.YtiafnfjgmfnnoabJSame
import Derived.Deep.OwnRows
namespace Go.Proofs.Ytiafnfjgmfnnoab
open Go.RowKit

/-- a world by a letter: what is known of it is named -/
theorem world_at {R C : World → Prop} {x : World} (h : R x) (H : ∀ wr, R wr → C wr) : C x := H x h

theorem mark_lt (bs : List Nat) : marks fnv0 bs < 18446744073709551616 := marks_lt (by unfold fnv0; omega) _

/-- n bytes of a number, the highest first -/
def be : Nat → Nat → List Nat
  | 0, _ => []
  | n + 1, v => be n (v / 256) ++ [v % 256]
theorem be_succ (n v : Nat) : be (n + 1) v = be n (v / 256) ++ [v % 256] := rfl
theorem be_length (n v : Nat) : (be n v).length = n := by
  induction n generalizing v with
  | zero => rfl
  | succ n ih => rw [be_succ, List.length_append, ih]; rfl
theorem be_bytes (n v : Nat) : ∀ b ∈ be n v, b < 256 := by
  induction n generalizing v with
  | zero => intro b hb; cases hb
  | succ n ih =>
    intro b hb
    rw [be_succ, List.mem_append] at hb
    rcases hb with hb | hb
    · exact ih _ b hb
    · simp at hb; omega
/-- what stands of it, from the end on -/
theorem be_step (m v : Nat) (tail : List Nat) : be (m + 1) v ++ tail = be m (v / 256) ++ (v % 256 :: tail) := by
  rw [be_succ, List.append_assoc]; rfl
def zer (k : Nat) (tail : List Nat) : List Nat := List.replicate k 0 ++ tail
theorem zer_length (k : Nat) (tail : List Nat) : (zer k tail).length = k + tail.length := by simp [zer]
theorem zer_set (m x : Nat) (tail : List Nat) : (zer (m + 1) tail).set m x = zer m (x :: tail) := by
  unfold zer
  rw [List.replicate_succ', List.append_assoc, List.set_append_right _ _ (by simp)]
  simp
theorem u8s_arr_set (bs : List Nat) (k y : Nat) : (u8s bs).toArray.setIfInBounds k (.int .u8 (y : Int)) = (u8s (bs.set k y)).toArray := by
  rw [u8s_set]
  simp
theorem u8_wrap (v : Nat) : IntKind.u8.wrap (v : Int) = ((v % 256 : Nat) : Int) := by
  simp [IntKind.wrap, IntKind.bits, IntKind.signed]

theorem info8 : (Try.prog.info? 50).map (·.size) = some 8 := by kernel_rfl
theorem info8s {bs : List Nat} (h : bs.length = 8) : (Try.prog.info? 50).map (·.size) = some (u8s bs).toArray.size := by
  rw [info8]; simp [u8s, h]
theorem u8s_all (bs : List Nat) : ((u8s bs).toArray).all (·.oneCell') = true := by
  simp [u8s, Value.oneCell']
theorem eight0 : (#[.int .u8 0, .int .u8 0, .int .u8 0, .int .u8 0, .int .u8 0, .int .u8 0, .int .u8 0, .int .u8 0] : Array Value) = (u8s (zer 8 [])).toArray := by
  simp [u8s, zer]

set_option maxRecDepth 100000 in
set_option maxHeartbeats 1000000 in
theorem eight_any (w : World) (n : Nat) (hn : n < 18446744073709551616) :
    Calls Try.prog 23 #[.int .u64 n] w fun e w' => e = .returned (.agg (u8s (be 8 n)).toArray) ∧ Kept [] w w' := by
  have HE := hide eight0
  go_enter Try.func23, Try.ntmps23
  go_wp2_with fail
  rw [unhide HE]
  go_loopw [0, 4] (fun r i wr => ∃ (k v : Nat) (tail : List Nat), k ≤ 8 ∧ r = .int .u64 v ∧ i = .int .i64 ((k : Int) - 1) ∧ v < 18446744073709551616 ∧ be k v ++ tail = be 8 n ∧ Blk wr (w.heap.size + 1) (u8s (zer k tail)).toArray 50 ∧ Blk wr w.heap.size (u8s (zer 8 [])).toArray 50 ∧ Kept [] w wr) (fun _ i _ => (intOf i + 1).toNat)
  case atStart =>
    refine ⟨8, n, [], by omega, rfl, rfl, hn, by simp, ?_, ?_, ?_⟩
    · have := Blk.new (w.alloc (.cells (u8s (zer 8 [])).toArray 50)) (u8s (zer 8 [])).toArray 50
      simpa using this
    · exact (Blk.new w _ _).alloc _
    · exact ((Kept.refl [] w).alloc _).alloc _
  case round =>
    obtain ⟨k, v, tail, hk, rfl, rfl, hv, hbe, hb, hb2, hkp⟩ := hrel
    have HBE := hide hbe
    have HB := hide hb
    have HB2 := hide hb2
    have HK := hide hkp
    clear hbe hb hb2 hkp
    by_cases hpos : 0 < k
    · obtain ⟨m, rfl⟩ : ∃ m, k = m + 1 := ⟨k - 1, by omega⟩
      have em : ((m + 1 : Nat) : Int) - 1 = (m : Int) := by omega
      rw [em]
      have hlen : (u8s (zer (m + 1) tail)).length = 8 := by
        have h1 := congrArg List.length (unhide HBE)
        rw [List.length_append, be_length, be_length] at h1
        rw [u8s_length, zer_length, h1]
      have hcell : wr.cell? ⟨w.heap.size + 1, m, none⟩ = some (.int .u8 ((zer (m + 1) tail).getD m 0 : Nat)) := by
        rw [(unhide HB).cell, List.getElem?_toArray]
        exact u8s_at _ (by rw [zer_length]; omega)
      have hfr := (unhide HB).frozen m
      have t1 : (0 : Int) ≤ (m : Int) := by omega
      have t2 : m < 8 := by omega
      clear em
      go_wp2
      refine ⟨⟨m, v / 256, v % 256 :: tail, by omega, ?_, rfl, by omega, ?_, ?_, ?_, ?_⟩, ?_⟩
      · first | rfl | (congr 1) | omega
      · rw [← be_step]; exact unhide HBE
      · rw [← zer_set, ← u8s_arr_set]; exact (unhide HB).set m _
      · exact (unhide HB2).other _ (by simp) _
      · exact (unhide HK).setCell (Or.inr (by simp)) _
      · simp [intOf]
    · obtain rfl : k = 0 := by omega
      have htail : tail = be 8 n := unhide HBE
      subst htail
      have HB3 : Hid (Blk wr (w.heap.size + 1) (u8s (be 8 n)).toArray 50) := unhide HB
      have hsz : (u8s (be 8 n)).toArray.size = 8 := by simp [u8s, be_length]
      have HI : Hid ((Try.prog.info? 50).map (·.size) = some (u8s (be 8 n)).toArray.size) := info8s (be_length 8 n)
      have HO := hide (u8s_all (be 8 n))
      have HSZ : Hid ((u8s (zer 8 [])).toArray.size = (u8s (be 8 n)).toArray.size) := by rw [show (u8s (be 8 n)).toArray.size = 8 from hsz]; rfl
      have HK2 : Hid (∀ cs, Blk (wr.setRow w.heap.size cs) w.heap.size cs 50 ∧ Kept [] w (wr.setRow w.heap.size cs)) := fun cs => ⟨(unhide HB2).row, (unhide HK).row (Or.inr (Nat.le_refl _)) cs⟩
      generalize hcs : (u8s (be 8 n)).toArray = cs at *
      have HCS := hide hcs
      clear hsz HB HBE hcs
      go_wp2_with (first
        | (guard_target =~ wpList _ _ _ _ _ _; refine wpList_load_arr _ 50 rfl rfl (w.heap.size + 1) 8 5 cs rfl (unhide HB3) Try.underlying50 (unhide HI) ?_)
        | (guard_target =~ wpList _ _ _ _ _ _; refine wpList_store_arr _ _ 50 rfl rfl w.heap.size _ cs rfl rfl (unhide HB2) (unhide HI) (unhide HSZ) (unhide HO) rfl ?_))
      refine ret_arr (n := 8) (e := 5) rfl rfl (unhide HK2 cs).1 Try.underlying50 (unhide HI) rfl ?_
      exact ⟨by rw [unhide HCS], (unhide HK2 cs).2⟩

theorem made_zer (n : Nat) : madeCells #[Value.int .u8 0] n = (u8s (zer n [])).toArray := by
  apply Array.ext_getElem?
  intro i
  by_cases hi : i < n
  · have h1 := u8s_at (zer n []) (j := i) (by rw [zer_length]; simpa using hi)
    have h2 : (u8s (zer n [])).toArray[i]? = (u8s (zer n []))[i]? := by simp
    rw [h2, h1]
    simp [madeCells, hi, Nat.mod_one, zer]
  · rw [Array.getElem?_eq_none (by rw [size_madeCells]; omega), Array.getElem?_eq_none (by simp [u8s, zer]; omega)]

theorem own_of_blk {w : World} {base b n : Nat} {bs : List Nat} (h : Blk w b (u8s bs).toArray 5) (hb : base ≤ b) (hn : bs.length = n) (hm : n ≤ 9223372036854775807) : w.ownsRow base 5 1 (.slice (some ⟨b, 0, none⟩) n n) n (u8s bs) := by
  refine ⟨by rw [u8s_length, hn]; simp, Or.inr ⟨b, n, (u8s bs).toArray, rfl, hb, h, Nat.le_refl _, by unfold maxLen; omega, by simp [u8s, hn], ?_⟩⟩
  rw [Nat.mul_one, List.take_of_length_le (by simp [u8s, hn])]

end Go.Proofs.Ytiafnfjgmfnnoab
