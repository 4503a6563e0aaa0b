/- carryOut: the first bytes of a write are laid onto its sector. -/
import Derived.Test.YtfaoblnghkiibaaQArr
namespace Go.Proofs.Ytfaoblnghkiibaa
open Go.RowKit

theorem u8s_take (l : List Nat) (n : Nat) : u8s (l.take n) = (u8s l).take n := by simp [u8s, List.map_take]
theorem u8s_drop (l : List Nat) (n : Nat) : u8s (l.drop n) = (u8s l).drop n := by simp [u8s, List.map_drop]

theorem dp_lay {w w' : World} {b g pc : Nat} {pa : Option Addr} {d : Dm} (h : Dp w b g pa pc d) (hk : Kept [g] w w') {s : List Nat} (hs : Blk w' g (u8s s).toArray 70) (h1 : s.length = 64 * d.n) (h2 : ∀ x ∈ s, x < 256) : Dp w' b g pa pc { d with safe := s } :=
  ⟨⟨h.ok.one, h.ok.most, h1, h2, h.ok.pend, h.ok.fuse⟩, h.head.kept hk (by simp; exact h.bg), hs, own_kept h.pend hk (fun p hp => by simp; exact (h.pb p hp).2), h.bg, h.pb⟩

set_option maxRecDepth 100000 in
set_option maxHeartbeats 1000000 in
theorem carry_any {w : World} {b g pc : Nat} {pa : Option Addr} {d : Dm} (h : Dp w b g pa pc d) {x : Wt} (hx : x.ok d.n) {n : Nat} (hn : n ≤ 64) :
    Calls Try.prog 44 #[.pointer (some ⟨b, 0, none⟩), .agg (wc x).toArray, .int .i64 n] w fun e w' => e = .returned (.tuple #[]) ∧ Dp w' b g pa pc { d with safe := lay d.safe x.k n x.d } ∧ Kept [g] w w' := by
  have hkl := hx.lt
  have hdl := hx.len
  obtain ⟨W, hW⟩ : ∃ W, W = w.alloc (.cells (wc x).toArray 79) := ⟨_, rfl⟩
  have hka : Kept [] w W := by rw [hW]; exact (Kept.refl _ _).alloc _
  have hN : Blk W w.heap.size (wc x).toArray 79 := by rw [hW]; exact Blk.new _ _ _
  have hd' : Dp W b g pa pc d := h.keep hka (by simp) (by simp) (by simp)
  obtain ⟨c0, -, -, -, -, -⟩ := dp_cells hd'
  have c1 : W.cell? ⟨w.heap.size, 0, none⟩ = some (.int .i64 (x.k : Int)) := by rw [hN.cell]; simp [wc]
  have hcp : ∀ ty, (Builtin.copy_ #[22, 22] ty #[.slice (some ⟨g, x.k * 64, none⟩) 64 64, .slice (some ⟨w.heap.size, 1, none⟩) n 64]).run Try.prog W.drew = .ok (goInt n) (W.drew.setCells g (x.k * 64) (u8s (x.d.take n))) := fun ty => by
    have hl : (u8s (x.d.take n)).length = n := by rw [u8s_length, List.length_take, hdl]; omega
    have := run_copy_cells (P := Try.prog) W.drew 22 22 ty 5 g (x.k * 64) 64 64 ⟨w.heap.size, 1, none⟩ n 64 (u8s (x.d.take n)) Try.underlying22 (by kernel_rfl) (by rw [hl]; simp [Nat.min_def]; omega)
      (fun j v hv => by
        rw [Addr.add_mid, World.cell?_drew, hN.cell]
        have hj := (List.getElem?_eq_some_iff.1 hv).1
        rw [hl] at hj
        rw [u8s_take, List.getElem?_take, if_pos hj] at hv
        simp [wc, Nat.add_comm 1 j, hv])
      (fun j hj => by
        rw [World.cell?_drew]
        exact (there_blk hd'.safe (o := x.k * 64) (n := n) (by rw [u8s_length, h.ok.len]; omega) j (by omega)).1)
      (fun j hj => by
        rw [World.frozen?_drew]
        exact hd'.safe.frozen _) (u8s_one _)
    rw [hl] at this
    exact this
  have hend : Dp (W.drew.setCells g (x.k * 64) (u8s (x.d.take n))) b g pa pc { d with safe := lay d.safe x.k n x.d } ∧ Kept [g] w (W.drew.setCells g (x.k * 64) (u8s (x.d.take n))) := by
    have hk2 : Kept [g] W (W.drew.setCells g (x.k * 64) (u8s (x.d.take n))) := kept_setCells (Or.inl (by simp)) _ _ _ (Kept.refl _ _).drew
    have hl : (u8s (x.d.take n)).length = n := by rw [u8s_length, List.length_take, hdl]; omega
    refine ⟨dp_lay hd' hk2 ?_ (lay_len h.ok.len hkl hdl hn) (lay_bytes h.ok.byte hx.byte), hka.mono (fun _ hx => by cases hx) |>.trans hk2 (fun y hy => Or.inl hy)⟩
    have hb : Blk W.drew g (u8s d.safe).toArray 70 := hd'.safe
    have := blk_range (u8s (x.d.take n)) (x.k * 64) W.drew (u8s d.safe) hb (by rw [hl, u8s_length, h.ok.len]; omega)
    rw [hl, ← u8s_take, ← u8s_drop, ← u8s_append, ← u8s_append, Nat.mul_comm x.k 64] at this
    rw [Nat.mul_comm x.k 64]
    exact this
  have hs2 : (W.drew.setCells g (x.k * 64) (u8s (x.d.take n))).cell? ⟨b, 0, none⟩ = some (.slice (some ⟨g, 0, none⟩) d.n d.n) ∧ (W.drew.setCells g (x.k * 64) (u8s (x.d.take n))).cell? ⟨w.heap.size, 0, none⟩ = some (.int .i64 (x.k : Int)) := by
    have hgl := h.safe.lt
    exact ⟨(World.cell?_setCells_out g _ _ _ _ (fun e _ => absurd e h.bg)).trans c0, (World.cell?_setCells_out g _ _ _ _ (fun e _ => absurd e (by show w.heap.size ≠ g; omega))).trans c1⟩
  have HS2 := hide hs2
  clear hs2
  have HEND := hide hend
  have HCP := hide hcp
  have t1 : (x.k : Int) < (d.n : Int) := by omega
  have t2 : (n : Int) ≤ 64 := by omega
  have hkm : x.k < d.n := hkl
  clear hend hcp h hd' hN hka hdl hkl
  generalize x.k = k at *
  generalize d.n = m at *
  go_enter Try.func44, Try.ntmps44
  go_wp2_with fail
  rw [← hW]
  have HW := hide hW
  clear hW
  go_region_held3 (fun w' => w'.cell? ⟨b, 0, none⟩ = some (.slice (some ⟨g, 0, none⟩) m m) ∧ w'.cell? ⟨w.heap.size, 0, none⟩ = some (.int .i64 (k : Int))) (first | go_keep | exact (unhide HS2))
    ((refine step_copy_runI (by rfl) _ _ 22 22 (by rfl) _ _ (by rfl) (by rfl) (unhide HCP _) ?_))
  go_wp2
  refine bodyPost_end (results_none rfl _ _ _) rfl ?_
  exact ⟨rfl, unhide HEND⟩
end Go.Proofs.Ytfaoblnghkiibaa
