/- The writer's lay. -/
import Derived.Test.YtiabhgkndejigabWrt
namespace Go.Proofs.Ytiabhgkndejigab
open Go.RowKit

set_option maxRecDepth 100000 in
set_option maxHeartbeats 1000000 in
/-- lay where there is room. -/
theorem lay_fits {w : World} {b : Nat} {s : WS} {v sv : Value} (h : Wr w b s v sv) (hf : s.fault = 0) (pb pc : Nat) (ps : List (Value × List Nat))
    (hpb : Blk w pb (ps.map (·.1)).toArray 22) (hpn : pb ∉ foot b v sv) (hps : ∀ p, p ∈ ps → Sees w p.1 p.2 ∧ ∀ k, p.1.ownBlock = some k → k ∉ foot b v sv)
    (hl : s.bs.length + (cat ps).length ≤ 70368744177664) (hn : ps.length < 1000) (hroom : s.bs.length + (cat ps).length ≤ s.room) :
    Calls Try.prog 51 #[.pointer (some ⟨b, 0, none⟩), .slice (some ⟨pb, 0, none⟩) ps.length pc] w fun e w' => e = .returned (.tuple #[]) ∧
      ∃ v', Wr w' b { s with bs := s.bs ++ cat ps } v' sv ∧ Kept (foot b v sv) w w' ∧ ∀ x, x ∈ foot b v' sv → x ∈ foot b v sv ∨ w.heap.size ≤ x := by
  obtain ⟨i0, hi, hz0, hz1, hz2⟩ := info_parts Try.info5
  have HH := hide h
  have HPS := hide hps
  have HPB := hide hpb
  clear h hps hpb
  have hnn : (0 : Int) ≤ (ps.length : Int) := by omega
  go_enter Try.func51, Try.ntmps51
  go_wp2_with (first | (go_at_call 49; refine (fails_no (unhide HH) hf).mono ?_; rintro e w' ⟨rfl, rfl⟩))
  go_loop [4, 13] (fun sz i => ∃ k : Nat, k ≤ ps.length ∧ i = .int .i64 k ∧ sz = .int .i64 ((cat (ps.take k)).length : Nat)) (fun _ i => ps.length - (intOf i).toNat)
  case atStart => exact ⟨0, by omega, rfl, rfl⟩
  case round =>
    obtain ⟨k, hk, rfl, rfl⟩ := hrel
    have hle := cat_take_le ps k
    by_cases hlt : k < ps.length
    · have hce : w.cell? ⟨pb, k, none⟩ = some (ps[k].1) := by rw [(unhide HPB).cell]; simp [hlt]
      obtain ⟨a, cap, hv⟩ := sees_len ((unhide HPS) ps[k] (List.getElem_mem hlt)).1
      have ht : (cat (ps.take (k + 1))).length = (cat (ps.take k)).length + ps[k].2.length := by rw [cat_take ps k hlt]; simp
      have hle2 := cat_take_le ps (k + 1)
      have HT := hide ht
      clear ht
      rw [hv] at hce
      have hle3 : (cat (ps.take k)).length + ps[k].2.length ≤ (cat ps).length := by rw [← unhide HT]; exact hle2
      clear hle2
      clear hv
      go_wp2
      go_round
      case rel => exact ⟨k + 1, by omega, by go_num, by rw [unhide HT]; go_num⟩
      case measure => simp [intOf]; omega
    · have hkl : k = ps.length := by omega
      subst hkl
      rw [List.take_length]
      clear hle hk hlt
      go_wp2_with (first | (go_at_call 53; refine (hasRoom_any (unhide HH) _ (by omega) true (by simpa using hroom)).mono ?_; rintro e w1 ⟨rfl, hq⟩))
      have HH1 := hide ((unhide HH).quiet hq)
      go_loopw [30] (fun i wr => ∃ (k : Nat) (v' : Value), k ≤ ps.length ∧ i = .int .i64 k ∧ Wr wr b { s with bs := s.bs ++ cat (ps.take k) } v' sv ∧ Kept (foot b v sv) w wr ∧ (∀ x, x ∈ foot b v' sv → x ∈ foot b v sv ∨ w.heap.size ≤ x)) (fun i _ => ps.length - (intOf i).toNat)
      case atStart => exact ⟨0, v, by omega, rfl, by simpa [cat] using (unhide HH1), hq.kept.mono (by simp), fun x hx => Or.inl hx⟩
      case round =>
        obtain ⟨k, v1, hk, rfl, hwr, hkept, hfoot⟩ := hrel
        have hle := cat_take_le ps k
        have HK := hide hkept
        have HF := hide hfoot
        have HW := hide hwr
        clear hkept hfoot
        by_cases hlt : k < ps.length
        · have hnf : (∀ x, x ∈ foot b v1 sv → ¬ x = pb) := by
            intro x hx e; subst e
            rcases unhide HF _ hx with h1 | h1
            · exact hpn h1
            · have := (unhide HPB).lt; omega
          have hce : wr.cell? ⟨pb, k, none⟩ = some (ps[k].1) := by rw [((unhide HPB).kept (unhide HK) hpn).cell]; simp [hlt]
          obtain ⟨hs1, hs2⟩ := (unhide HPS) ps[k] (List.getElem_mem hlt)
          have hs3 := hs1.kept (unhide HK) hs2
          have HT := hide (cat_take ps k hlt)
          have hle2 : (cat (ps.take k)).length + ps[k].2.length ≤ (cat ps).length := by
            have h1 := cat_take_le ps (k + 1); rw [unhide HT] at h1; simpa using h1
          obtain ⟨c0, c1, c2, c3⟩ := blk4 hwr.blk
          have f1 := hwr.blk.frozen 1
          have hown := hwr.own
          clear hwr hs1 hs2
          go_wp2_with (at_builtin; refine wpList_append_sees _ rfl _ _ 22 rfl 0 5 i0 (.int .u8 0) Try.underlying22 hi hz0 hz1 hz2 rfl _ (s.bs ++ cat (ps.take k)) rfl hown _ ps[k].2 rfl hs3 ?c1 (Nat.zero_le _) ?_)
          case c1 => first | omega | (simp; omega)
          intro v2 w2 hown2 hg hat
          obtain ⟨a2, cap2, hv2⟩ := own_len hown2
          subst hv2
          have HR := hide ((unhide HW).grow ps[k].2 (by simpa [Nat.add_assoc] using hown2) hg hat (by simp; omega))
          have c1' : w2.cell? ⟨b, 1, none⟩ = some v1 := hg.cell c1 (fun e => (unhide HW).n1 e.symm)
          have f1' : w2.frozen? ⟨b, 1, none⟩ = false := (World.frozen?_of_block (hg.block b (unhide HW).blk.lt (fun e => (unhide HW).n1 e.symm))).trans f1
          clear hown hown2 hg hat c0 c1 c2 c3 f1 hs3 hce
          go_wp2
          go_roundw
          case rel =>
            obtain ⟨r1, r2, r3⟩ := unhide HR
            refine ⟨k + 1, .slice a2 (s.bs.length + ((cat (ps.take k)).length + ps[k].2.length)) cap2, by omega, by go_num, ?_, (unhide HK).trans r2 (fun x hx => unhide HF x hx), fun x hx => ?_⟩
            · rw [unhide HT]; simpa using r1
            · rcases r3 x hx with h1 | h1
              · exact unhide HF x h1
              · right; have := (unhide HK).size; omega
          case measure => simp [intOf]; omega
        · have hkl : k = ps.length := by omega
          subst hkl
          clear hwr
          go_wp2
          go_end0
          refine ⟨rfl, v1, ?_, unhide HK, unhide HF⟩
          have := unhide HW
          rwa [List.take_length] at this
end Go.Proofs.Ytiabhgkndejigab
