/- The document's Hit: the walk. -/
import Derived.Test.YthhgeobfolhpoaaVRf2
namespace Go.Proofs.Ythhgeobfolhpoaa
open Go.RowKit

theorem gt_wok {x : Nat} (h : wok x) : (FloatKind.f64.format.order x 4787326403894837248 == some Ordering.gt) = false := by
  have h2 := (ge_wok h).2
  cases ho : FloatKind.f64.format.order x 4787326403894837248 with
  | none => rfl
  | some o => rw [ho] at h2; cases o <;> first | rfl | (simp at h2)
/-- what a call of the document's meter may touch: its own blocks, those that it takes -/
structure Rk (w : World) (b : Nat) (G : List Nat) (r : Rt) : Prop where
  rp : ∃ pa pc, Rp w b pa pc r ∧ ∀ k, (Value.slice pa r.all.length pc).ownBlock = some k → k ∈ G
  b : b ∈ G
  lt : ∀ x ∈ G, x < w.heap.size
theorem Rk.keep {w w' : World} {b : Nat} {F G : List Nat} {r : Rt} (h : Rk w b G r) (hk : Kept F w w') (hn : ∀ x ∈ G, x ∉ F) : Rk w' b G r := by
  obtain ⟨pa, pc, h1, h2⟩ := h.rp
  exact ⟨⟨pa, pc, h1.kept hk (hn b h.b) (fun k hk => hn k (h2 k hk)), h2⟩, h.b, fun x hx => Nat.lt_of_lt_of_le (h.lt x hx) hk.size⟩

set_option maxRecDepth 100000 in
set_option maxHeartbeats 2000000 in
theorem rhit_yes {w : World} {b : Nat} {G : List Nat} {r : Rt} (h : Rk w b G r) {m : Mt} (hm : Rel m r) {s t x : Nat} (hs : s < m.loads.length) (ht : t ≤ 1099511627776) (hcl : m.clock ≤ t) (hx : wok x) (hpl : (r.all.length + 1) * 24 ≤ 140737488355328) :
    Calls Try.prog 30 #[.pointer (some ⟨b, 0, none⟩), .int .i64 (s : Int), .int .i64 (t : Int), .float .f64 x] w fun e w' => ∃ G', e = .returned (.int .i64 0) ∧ Rk w' b G' { r with now := t, all := r.all ++ [⟨s, t / m.half, x⟩] } ∧ Kept G w w' ∧ ∀ y ∈ G', y ∈ G ∨ w.heap.size ≤ y := by
  obtain ⟨⟨pa, pc, hrp, hpg⟩, hbG, hlt⟩ := h
  obtain ⟨c0, c1, c2, c3⟩ := hrp.cells
  have f2 := hrp.head.frozen 2
  obtain ⟨u1, u2⟩ := ge_wok hx
  have u3 := gt_wok hx
  have e1 := hm.half
  have e2 := hm.n
  have e3 := hm.now
  have hh1 := hm.ok.h1
  have hh2 := hm.ok.h2
  have hl2 := hm.ok.l2
  rw [e1] at c1
  rw [e2] at c0
  rw [e3] at c2
  generalize m.half = hf at *
  generalize m.loads.length = L at *
  generalize m.clock = cl at *
  have HS1 := hide (hrp.setNow t)
  have HRP := hide hrp
  clear hrp
  have HFF : Hid (b ∈ G ∧ (∀ k, (Value.slice pa r.all.length pc).ownBlock = some k → k ∈ G) ∧ ∀ x ∈ G, x < w.heap.size) := ⟨hbG, hpg, hlt⟩
  obtain ⟨q, hq⟩ : ∃ q, t / hf = q := ⟨_, rfl⟩
  have hqw : IntKind.i64.wrap ((t : Int) / (hf : Int)) = (q : Int) := by
    have hle : t / hf ≤ t := Nat.div_le_self _ _
    rw [← Int.natCast_ediv, hq, IntKind.wrap_i64]
    omega
  rw [hq]
  clear hq
  have t7 : (hf = 0) = False := by simp; omega
  have t1 : ((s : Int) < 0) = False := by simp
  have t2 : ((L : Int) ≤ (s : Int)) = False := by simp; omega
  have t3 : ((t : Int) < 0) = False := by simp
  have t4 : ((1099511627776 : Int) < (t : Int)) = False := by simp; omega
  have t5 : ((t : Int) < (cl : Int)) = False := by simp; omega
  have t6 : ((hf : Int) = 0) = False := by simp; omega
  have HE1 := hide e1
  clear hbG hpg hlt hm e1 e2 e3 hx
  go_enter Try.func30, Try.ntmps30
  go_wp2_with fail
  have HS2 : Hid (Rp (w.setCell ⟨b, 2, none⟩ (.int .i64 (t : Int))).drew b pa pc { r with now := t }) := (unhide HS1).kept ((Kept.refl [] _).drew) (by simp) (by simp)
  have hbl : b < (w.setCell ⟨b, 2, none⟩ (.int .i64 (t : Int))).drew.heap.size := (unhide HS2).head.lt
  obtain ⟨a3, c3v, w3, hap, hk3, hnb3, hlt3, hR3⟩ := rh_append (unhide HS2) ⟨s, q, x⟩ hbl hpl 66
  have hkw1 : Kept G w (w.setCell ⟨b, 2, none⟩ (.int .i64 (t : Int))).drew := ((Kept.refl G w).setCell (p := ⟨b, 2, none⟩) (Or.inl (unhide HFF).1) _).drew
  have HREL : Hid (∃ G', Rk (w3.setCell ⟨b, 3, none⟩ (.slice a3 (r.all.length + 1) c3v)) b G' { r with now := t, all := r.all ++ [⟨s, q, x⟩] } ∧ Kept G w (w3.setCell ⟨b, 3, none⟩ (.slice a3 (r.all.length + 1) c3v)) ∧ ∀ y ∈ G', y ∈ G ∨ w.heap.size ≤ y) := by
    have hkm : Kept [b] w3 (w3.setCell ⟨b, 3, none⟩ (.slice a3 (r.all.length + 1) c3v)) := (Kept.refl _ _).setCell (p := ⟨b, 3, none⟩) (Or.inl (by simp)) _
    have hkw : Kept G w w3 := hkw1.trans hk3 (fun y hy => by left; simp at hy; exact (unhide HFF).2.1 y hy)
    have hkz : Kept G w (w3.setCell ⟨b, 3, none⟩ (.slice a3 (r.all.length + 1) c3v)) := hkw.trans hkm (fun y hy => by simp at hy; subst hy; exact Or.inl (unhide HFF).1)
    refine ⟨b :: (Value.slice a3 (r.all.length + 1) c3v).ownBlock.toList, ⟨⟨a3, c3v, hR3, fun k hk => ?_⟩, by simp, fun y hy => ?_⟩, hkz, fun y hy => ?_⟩
    · have : (Value.slice a3 (r.all.length + 1) c3v).ownBlock = some k := by simpa using hk
      simp [this]
    · simp only [List.mem_cons, Option.mem_toList] at hy
      rcases hy with rfl | hy
      · exact Nat.lt_of_lt_of_le ((unhide HFF).2.2 _ (unhide HFF).1) hkz.size
      · exact Nat.lt_of_lt_of_le (hlt3 y hy) hkm.size
    · simp only [List.mem_cons, Option.mem_toList] at hy
      rcases hy with rfl | hy
      · exact Or.inl (unhide HFF).1
      · rcases hnb3 y hy with e | e
        · exact Or.inl ((unhide HFF).2.1 y e)
        · right; have := hkw1.size; omega
  have hb3 := (unhide HS2).head.kept hk3 (fun hm => by simp at hm; exact (unhide HS2).apart b hm rfl)
  have p3 : w3.cell? ⟨b, 3, none⟩ = some (.slice pa r.all.length pc) := by rw [hb3.cell]; simp [rcells]
  have f3 := hb3.frozen 3
  have d1 := (unhide HS2).cells.2.1
  simp only [unhide HE1] at d1
  have d3 := (unhide HS2).cells.2.2.2
  have HA0 : Hid (Blk ((w.setCell ⟨b, 2, none⟩ (.int .i64 (t : Int))).drew.alloc (.cells (hc ⟨s, q, x⟩).toArray 81)) b (rcells { r with now := t } (.slice pa r.all.length pc)).toArray 68) := (unhide HS2).head.alloc _
  have d3a := (unhide HA0).cell 3
  simp [rcells] at d3a
  have hsz : (w.setCell ⟨b, 2, none⟩ (.int .i64 (t : Int))).drew.heap.size = w.heap.size := by simp
  rw [hsz] at hap
  have HAP := hide hap
  simp only [hc] at d3a HAP
  have HAP2 : Hid ((Builtin.append_ #[66, 66] 66 #[.slice pa r.all.length pc, .slice (some ⟨w.heap.size, 0, none⟩) 1 1]).run Try.prog ((w.setCell ⟨b, 2, none⟩ (.int .i64 (t : Int))).alloc (.cells #[.int .i64 (s : Int), .int .i64 (q : Int), .float .f64 x] 81)).drew = .ok (.slice a3 (r.all.length + 1) c3v) w3) := unhide HAP
  have d3b : ((w.setCell ⟨b, 2, none⟩ (.int .i64 (t : Int))).alloc (.cells #[.int .i64 (s : Int), .int .i64 (q : Int), .float .f64 x] 81)).cell? ⟨b, 3, none⟩ = some (.slice pa r.all.length pc) := d3a
  clear hap hk3 hnb3 hlt3 hR3 hkw1 hb3 HA0 hbl HRP
  go_cut [61] (fun _ wc => wc = w3.setCell ⟨b, 3, none⟩ (.slice a3 (r.all.length + 1) c3v))
  case first =>
    go_region_law (first | (refine step_append_runE (by rfl) _ _ 66 66 (by rfl) _ _ (by rfl) (by rfl) (unhide HAP) ?_) | (refine step_append_runE (by rfl) _ _ 66 66 (by rfl) _ _ (by rfl) (by rfl) (unhide HAP2) ?_))
    all_goals (go_wp2_with fail; go_meet)
    all_goals exact rfl
  case rest =>
    have hcut' := hcut.symm
    subst hcut'
    go_wp2_with fail
    go_ret
    obtain ⟨G', hG⟩ := unhide HREL
    exact ⟨rfl, G', hG⟩
end Go.Proofs.Ythhgeobfolhpoaa
