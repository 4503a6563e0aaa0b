/- Copy. -/
import Derived.Test.YtkejpbfbpomjfaaPkBL
namespace Go.Proofs.Ytkejpbfbpomjfaa.tre
open Go.RowKit

set_option maxRecDepth 100000 in
theorem copy_any {w : World} {b : Nat} {T : Tb} (h : Tab w b T) : Calls Try.prog 42 #[.pointer (some ⟨b, 0, none⟩)] w fun e w' => ∃ b2, e = .returned (.pointer (some ⟨b2, 0, none⟩)) ∧ Tab w' b2 T ∧ w.heap.size ≤ b2 ∧ Kept [] w w' := by
  obtain ⟨q, hb, ht⟩ := h
  obtain ⟨c0, c1, c2⟩ := box3 hb
  have HT : Hid (Tab (w.alloc (.cells #[.pointer q, .int .i64 (T.rev : Int), .int .i64 (bodyOf T.t.list : Int)] 59)) w.heap.size T) := ⟨q, Blk.new w _ _, ht.kept ((Kept.refl [] w).alloc _)⟩
  clear hb ht
  generalize (T.rev : Int) = rv at *
  go_enter Try.func42, Try.ntmps42
  go_wp2_with fail
  go_ret
  exact ⟨_, rfl, unhide HT, Nat.le_refl _, (Kept.refl _ _).alloc _⟩
theorem size_le_tok {T : Tb} (h : Tok T) (hr : T.rev ≤ 2097152) : tSz T ≤ 900000000000 := by
  have h1 := body_le (L := T.t.list) (fun e he => h.ok.rows e he)
  have h2 := h.size
  have h3 : T.t.list.length = T.t.size := Tr.list_length _
  have h4 : (form T.rev).length ≤ 10 := form_le10 _ (by omega)
  have h5 : (form T.t.size).length ≤ 10 := form_le10 _ (by omega)
  unfold tSz
  omega
end Go.Proofs.Ytkejpbfbpomjfaa.tre
