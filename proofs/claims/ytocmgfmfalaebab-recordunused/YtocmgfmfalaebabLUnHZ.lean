/- RecordUnused. -/
import Derived.Test.YtocmgfmfalaebabLUnPZ
namespace Go.Proofs.Ytocmgfmfalaebab
open Go.RowKit
set_option linter.unusedVariables false

theorem recW_num {w : World} {p : Pl} {l : Lo} (h : RecW w p l) (k : Nat) (hk : k ≠ 4 ∧ k ≠ 6 ∧ k ≠ 7) : RecW w (setF p k) l := by
  match k with
  | 0 => exact ⟨h.key, h.val, h.copy, h.kl, h.vl, h.cl⟩
  | 1 => exact ⟨h.key, h.val, h.copy, h.kl, h.vl, h.cl⟩
  | 2 => exact ⟨h.key, h.val, h.copy, h.kl, h.vl, h.cl⟩
  | 3 => exact ⟨h.key, h.val, h.copy, h.kl, h.vl, h.cl⟩
  | 4 => omega
  | 5 => exact ⟨h.key, h.val, h.copy, h.kl, h.vl, h.cl⟩
  | 6 => omega
  | 7 => omega
  | k + 8 => exact ⟨h.key, h.val, h.copy, h.kl, h.vl, h.cl⟩
theorem rv_litF (p : Pl) (l : Lo) (k : Nat) : rv (setF p k) l = .agg (rcc (setF p k) l) := rfl
set_option maxRecDepth 100000 in
set_option maxHeartbeats 1600000 in
theorem unused_none (w : World) (p : Pl) (l : Lo) (h : RecW w p l) (f : Int) (hs : snd p = false) : Calls Try.prog 3 #[rv p l, .int .i64 f] w fun e w' => e = .returned (.bool true) ∧ Kept [] w w' := by
  have HW := hide h
  have HA := hide (fun W => awake_any W)
  have HE1 := hide (fun W (hf : RecFar W p l []) => encode_any W p l hf)
  clear h
  have HSP := hide hs
  clear hs
  rw [rv_lit] at *
  have HB0 := hide (Blk.new w #[.int .i64 p.kind, .int .i64 p.shard, .int .i64 p.epoch, .int .i64 p.peer, .int .i64 p.client, .int .i64 p.seq, .int .i64 p.okind, .slice l.ka p.key.length l.kc, .slice l.va p.val.length l.vc, .int .i64 p.rev, .slice l.ca p.copy.length l.cc] 26)
  have HK0 := hide ((Kept.refl [] w).alloc (.cells #[.int .i64 p.kind, .int .i64 p.shard, .int .i64 p.epoch, .int .i64 p.peer, .int .i64 p.client, .int .i64 p.seq, .int .i64 p.okind, .slice l.ka p.key.length l.kc, .slice l.va p.val.length l.vc, .int .i64 p.rev, .slice l.ca p.copy.length l.cc] 26))
  have HG1 : Hid True := trivial
  go_enter Try.func3, Try.ntmps3
  go_wp2_with (first
    | (go_at_call 5; refine (unhide HA _).mono ?_; rintro e w1 ⟨rfl, k1⟩; have hb := (unhide HB0).kept k1 (by simp); obtain ⟨d0, d1, d2, d3, d4, d5, d6, d7, d8, d9, d10⟩ := box11 hb; have HB1 := hide hb; have HK1 := hide ((unhide HK0).step k1); clear hb k1)
    | (go_at_call 6; refine (unhide HE1 _ ((unhide HW).kept (unhide HK1)).far).mono ?_; rintro e w2 ⟨k2, hz⟩; rcases hz with ⟨hz, -⟩ | ⟨-, rfl⟩; (exact absurd hz (by rw [unhide HSP]; simp)); have HK2 := hide ((unhide HK1).step k2); clear k2))
  all_goals
    go_ret
    exact ⟨rfl, unhide HK2⟩
theorem recW_copy {w W : World} {p : Pl} {l : Lo} (h : RecW w p l) (k : Kept [] w W) {g : Nat} (hs : Sees W (.slice (some ⟨g, 0, none⟩) 1 1) [0]) : RecW W (setF p 4) { l with ca := some ⟨g, 0, none⟩, cc := 1 } := ⟨h.key.kept k, h.val.kept k, Or.inl hs, h.kl, h.vl, by simp [setF]⟩
theorem recW_key {w W : World} {p : Pl} {l : Lo} (h : RecW w p l) (k : Kept [] w W) {g : Nat} (hs : Sees W (.slice (some ⟨g, 0, none⟩) 1 1) [0]) : RecW W (setF p 6) { l with ka := some ⟨g, 0, none⟩, kc := 1 } := ⟨Or.inl hs, h.val.kept k, h.copy.kept k, by simp [setF], h.vl, h.cl⟩
theorem recW_val {w W : World} {p : Pl} {l : Lo} (h : RecW w p l) (k : Kept [] w W) {g : Nat} (hs : Sees W (.slice (some ⟨g, 0, none⟩) 1 1) [0]) : RecW W (setF p 7) { l with va := some ⟨g, 0, none⟩, vc := 1 } := ⟨h.key.kept k, Or.inl hs, h.copy.kept k, h.kl, by simp [setF], h.cl⟩
theorem sees_put {w : World} (a : Addr) (v : Value) : Sees ((w.setCell a v).alloc (.cells #[.int .u8 0] 5)) (.slice (some ⟨w.heap.size, 0, none⟩) 1 1) [0] := by
  have h := news_one (w.setCell a v) 0
  rwa [show (w.setCell a v).heap.size = w.heap.size by simp [World.setCell]] at h
end Go.Proofs.Ytocmgfmfalaebab
