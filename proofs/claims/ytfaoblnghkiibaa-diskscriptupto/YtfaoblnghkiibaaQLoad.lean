/- Load. -/
import Derived.Test.YtfaoblnghkiibaaQMake
import Derived.Test.YtfaoblnghkiibaaQImage
namespace Go.Proofs.Ytfaoblnghkiibaa
open Go.RowKit

/-- is an image of so many bytes no disk? -/
def noDisk (L : Nat) : Prop := L % 64 ≠ 0 ∨ L / 64 < 1 ∨ 65536 < L / 64

set_option maxRecDepth 100000 in
theorem load_no {w : World} {a : Option Addr} {L cap : Nat} (hL : L ≤ 9223372036854775807) (h : noDisk L) : Calls Try.prog 10 #[.slice a L cap] w fun e w' => e = .returned (.tuple #[.pointer none, .int .i64 82]) ∧ w' = w := by
  have e1 : IntKind.i64.wrap ((L : Int) / 64) = ((L / 64 : Nat) : Int) := by rw [IntKind.wrap_i64]; omega
  have e2 : IntKind.i64.wrap ((L : Int) % 64) = ((L % 64 : Nat) : Int) := by rw [IntKind.wrap_i64]; omega
  have e3 : (L : Int) / 64 = ((L / 64 : Nat) : Int) := by omega
  have e4 : (L : Int) % 64 = ((L % 64 : Nat) : Int) := by omega
  unfold noDisk at h
  generalize L / 64 = q at *
  generalize L % 64 = r at *
  by_cases h1 : r = 0
  · subst h1
    simp only [Int.natCast_zero] at e2 e4
    by_cases h2 : q < 1
    · have t2 : ((q : Int) < 1) = True := by simp; omega
      clear h h2
      go_enter Try.func10, Try.ntmps10
      go_wp2
      go_ret2
      exact ⟨rfl, rfl⟩
    · have t2 : ((q : Int) < 1) = False := by simp; omega
      have t3 : ((65536 : Int) < (q : Int)) = True := by simp; omega
      clear h h2
      go_enter Try.func10, Try.ntmps10
      go_wp2
      go_ret2
      exact ⟨rfl, rfl⟩
  · have t1 : (r = 0) = False := by simp [h1]
    clear h h1
    go_enter Try.func10, Try.ntmps10
    go_wp2
    go_ret2
    exact ⟨rfl, rfl⟩

/-- the image so far: k sectors, and zeros -/
def part (bs : List Nat) (n k : Nat) : List Nat := bs.take (64 * k) ++ List.replicate (64 * (n - k)) 0
theorem part_len {bs : List Nat} {n k : Nat} (hl : bs.length = 64 * n) (hk : k ≤ n) : (part bs n k).length = 64 * n := by simp [part, hl]; omega
theorem part_zero (bs : List Nat) (n : Nat) : part bs n 0 = List.replicate (64 * n) 0 := by simp [part]
theorem part_full {bs : List Nat} {n : Nat} (hl : bs.length = 64 * n) : part bs n n = bs := by simp [part, ← hl]
theorem part_succ {bs : List Nat} {n k : Nat} (hl : bs.length = 64 * n) (hk : k < n) : (part bs n k).take (k * 64) ++ sect bs k ++ (part bs n k).drop (k * 64 + 64) = part bs n (k + 1) := by
  have h1 : (bs.take (64 * k)).length = 64 * k := by simp [hl]; omega
  have e1 : (part bs n k).take (k * 64) = bs.take (64 * k) := by
    unfold part
    rw [List.take_append_of_le_length (by rw [h1]; omega), List.take_of_length_le (by rw [h1]; omega)]
  have e2 : (part bs n k).drop (k * 64 + 64) = List.replicate (64 * (n - (k + 1))) 0 := by
    unfold part
    rw [List.drop_append, List.drop_of_length_le (by rw [h1]; omega), h1, List.drop_replicate, List.nil_append]
    congr 1; omega
  rw [e1, e2, sect_succ]
  rfl

set_option maxRecDepth 100000 in
set_option maxHeartbeats 1000000 in
theorem load_yes {w : World} {v : Value} {bs : List Nat} {n : Nat} (hv : Sees w v bs) (hl : bs.length = 64 * n) (h1 : 1 ≤ n) (h2 : n ≤ 65536) :
    Calls Try.prog 10 #[v] w fun e w' => ∃ b F, e = .returned (.tuple #[.pointer (some ⟨b, 0, none⟩), .int .i64 0]) ∧ Dk w' b F (fresh n bs) ∧ Nx [] w F w' := by
  obtain ⟨va, vc, rfl, hv1, hv2, hv3, hv4⟩ := hv
  rw [hl] at hv1 ⊢
  have hvc' : vc ≤ 9223372036854775807 := by unfold maxLen at hv2; omega
  have HB := hide hv3
  have HV := hide hv4
  have HL := hide hl
  clear hv2 hv3 hv4 hl
  have e1 : IntKind.i64.wrap (((64 * n : Nat) : Int) / 64) = (n : Int) := by rw [IntKind.wrap_i64]; omega
  have e2 : IntKind.i64.wrap (((64 * n : Nat) : Int) % 64) = 0 := by rw [IntKind.wrap_i64]; omega
  have e3 : ((64 * n : Nat) : Int) / 64 = (n : Int) := by omega
  have e4 : ((64 * n : Nat) : Int) % 64 = 0 := by omega
  have t1 : ((n : Int) < 1) = False := by simp; omega
  have t2 : ((65536 : Int) < (n : Int)) = False := by simp; omega
  obtain ⟨N, hN⟩ : ∃ N, N = 64 * n := ⟨_, rfl⟩
  rw [← hN] at e1 e2 e3 e4 hv1 ⊢
  have HN := hide hN
  clear hN
  go_enter Try.func10, Try.ntmps10
  go_wp2_with (first | (at_make; refine wpList_make_blocks _ rfl _ _ rfl n h2 rfl rfl ?_))
  go_loopw [28] (fun i wr => ∃ k : Nat, k ≤ n ∧ i = .int .i64 k ∧ Blk wr w.heap.size (u8s (part bs n k)).toArray 70 ∧ Kept [] w wr) (fun i _ => n - (intOf i).toNat)
  case atStart => exact ⟨0, by omega, rfl, by rw [part_zero]; exact Blk.new _ _ _, (Kept.refl _ _).alloc _⟩
  case round =>
    obtain ⟨k, hk, rfl, hb, hkp⟩ := hrel
    by_cases hkn : k < n
    · obtain ⟨vb, voff, rfl, hvl, hvc⟩ : ∃ b off, va = some ⟨b, off, none⟩ ∧ b < w.heap.size ∧ ∀ j, j < bs.length → w.cell? ⟨b, off + j, none⟩ = some (.int .u8 (bs.getD j 0 : Nat)) := by
        rcases unhide HV with h4 | h4
        · have := unhide HL; rw [h4] at this; simp at this; omega
        · exact h4
      have hsl := sect_len (s := bs) (k := k) (unhide HL) hkn
      have hrg : wr.rangeAt vb (voff + k * 64) (u8s (sect bs k)) := by
        refine range_kept ?_ hkp hvl (by simp)
        intro j u hu
        have hj := (List.getElem?_eq_some_iff.1 hu).1
        rw [u8s_length, hsl] at hj
        have hj2 : 64 * k + j < bs.length := by rw [unhide HL]; omega
        have h9 := hvc (64 * k + j) hj2
        rw [show voff + k * 64 + j = voff + (64 * k + j) by omega, h9, ← hu]
        simp only [u8s, List.getElem?_map, sect, List.getElem?_take, List.getElem?_drop, if_pos hj, List.getElem?_eq_getElem hj2, Option.map_some, List.getD, Option.getD_some]
      have HR := hide hrg
      have HSL := hide hsl
      have hpl := part_len (unhide HL) hk
      have HT := hide (there_blk hb (o := k * 64) (n := 64) (by rw [u8s_length, hpl]; omega))
      have hnb := blk_range (u8s (sect bs k)) (k * 64) wr (u8s (part bs n k)) hb (by rw [u8s_length, u8s_length, hsl, hpl]; omega)
      rw [u8s_length, hsl, ← u8s_take, ← u8s_drop, ← u8s_append, ← u8s_append, part_succ (unhide HL) hkn] at hnb
      have HNB := hide hnb
      have HNK : Hid (Kept [] w (wr.setCells w.heap.size (k * 64) (u8s (sect bs k)))) := kept_setCells (Or.inr (Nat.le_refl _)) _ _ _ hkp
      have hat : ∀ c w, (Instr.arrayAt 70 (.slice (some ⟨vb, voff + k * 64, none⟩) 64 c)).run Try.prog w = .ok (.pointer (some ⟨vb, voff + k * 64, none⟩)) w := fun c w => by simp [Instr.arrayAt, run_underlying Try.underlying70]
      have t3 : (k : Int) < (n : Int) := by omega
      have t4 : (k : Int) * 64 ≤ ((k : Int) + 1) * 64 := by omega
      have t5 : ((k : Int) + 1) * 64 ≤ (vc : Int) := by have := unhide HN; omega
      have t6 : (((k : Int) + 1) * 64 - (k : Int) * 64).toNat = 64 := by omega
      have t7 : ((k : Int) * 64).toNat = k * 64 := by omega
      have t8 : (((k : Int) + 1) * 64).toNat = (k + 1) * 64 := by omega
      have t9 : (k + 1) * 64 - k * 64 = 64 := by omega
      have t10 : (vc = k * 64) = False := by have := unhide HN; simp; omega
      clear hrg hsl hpl hnb hb hkp hvc
      generalize sect bs k = sd at *
      have HSZ : Hid ((u8s sd).toArray.size = 64) := by unfold Hid; rw [List.size_toArray, u8s_length, unhide HSL]
      go_wp2_with (first
        | (guard_target =~ wpList _ _ _ _ _ _; refine wpList_load_mid rfl 70 _ rfl vb (voff + k * 64) rfl (u8s sd) _ (unhide HR) Try.underlying70 rfl (by rw [u8s_length, unhide HSL]; exact size70) ?_)
        | (guard_target =~ wpList _ _ _ _ _ _; refine wpList_store_mid rfl 70 _ _ rfl w.heap.size (k * 64) (u8s sd).toArray rfl rfl (by rw [unhide HSZ]; exact unhide HT) (by rw [unhide HSZ]; exact size70) (all_oneCell_toArray (u8s_one _)) ?_))
      exact ⟨⟨k + 1, by omega, by simp, unhide HNB, unhide HNK⟩, by simp [intOf]; omega⟩
    · obtain rfl : k = n := by omega
      rw [part_full (unhide HL)] at hb
      have HBB := hide hb
      have HK := hide hkp
      have hlt := hb.lt
      clear hb hkp
      go_wp2
      go_ret2
      refine ⟨_, [wr.heap.size, w.heap.size], rfl, dk_fresh (g := w.heap.size) (fresh_ok h1 h2 (unhide HL) (unhide HB)) ?_ ((unhide HBB).alloc _) (by omega), (unhide HK).alloc _, ?_⟩
      · have := Blk.new wr (dcells w.heap.size k (.slice none 0 0) none 0 0) 68
        simpa [dcells] using this
      · intro x hx
        have := (unhide HK).size
        simp at hx
        right; omega
end Go.Proofs.Ytfaoblnghkiibaa
