/- The law's crash. -/
import Derived.Test.YtfaoblnghkiibaaQStep
import Derived.Deep.OwnRows
namespace Go.Proofs.Ytfaoblnghkiibaa
open Go.RowKit

def bl (l : List Bool) : List Value := l.map .bool
theorem bl_len (l : List Bool) : (bl l).length = l.length := by simp [bl]
theorem bl_one (l : List Bool) : ∀ v ∈ bl l, v.oneCell' = true := by
  intro v hv
  obtain ⟨b, _, rfl⟩ := List.mem_map.1 hv
  rfl
theorem bl_app (a b : List Bool) : bl (a ++ b) = bl a ++ bl b := by simp [bl]
theorem infoB : (Try.prog.info? 4).map (fun i => (i.zero, i.size, i.bytes)) = some (some (.bool false), 1, 1) := by kernel_rfl
theorem made4 (N : Nat) : madeCells #[Value.bool false] N = (bl (List.replicate N false)).toArray := by
  apply Array.ext_getElem?
  intro i
  by_cases hi : i < N
  · have e1 : (bl (List.replicate N false)).toArray[i]? = some (.bool false) := by
      simp only [bl, List.getElem?_toArray, List.getElem?_map, List.getElem?_replicate, if_pos hi]; rfl
    rw [e1]
    simp [madeCells, hi, Nat.mod_one]
  · rw [Array.getElem?_eq_none (by rw [size_madeCells]; omega), Array.getElem?_eq_none (by simp [bl_len]; omega)]

theorem wpList_copy_at {P : Program} {w : World} {ops : Array Oper} {rest : List Oper} {o : Oper} {a : Act} {Q : Exit → Act → World → Prop} (hgd : o.guard = none) (d x : Operand) (dT sT : TypeId)
    (ho : o.op = .call { callee := .builtin .copy, args := #[d, x], argTypes := #[dT, sT] }) (v u : Value) (hd : a.eval d = v) (hx : a.eval x = u) {v' : Value} {w' : World} (hr : (Builtin.copy_ #[dT, sT] o.type #[v, u]).run P w = .ok v' w')
    (h : wpList P ops Q rest (a.put o.dst v') w') : wpList P ops Q (o :: rest) a w := by
  refine wpList_plain hgd fun K hK => ?_
  unfold Oper.wp execOp
  simp only [ho, resolve, invoke, builtin, Sem.run_bind, Sem.run_pure, Result.andThen_ok, List.map_toArray, List.map_cons, List.map_nil, hd, hx, hr]
  exact hK _ _ h
theorem copy_bools {w : World} {g : Nat} {v : Value} {l : List Bool} (hv : SeesB w v l) (hb : Blk w g (bl (List.replicate (l.length + 1) false)).toArray 4) (ty : TypeId) :
    ∃ w', (Builtin.copy_ #[39, 39] ty #[.slice (some ⟨g, 0, none⟩) (l.length + 1) (l.length + 1), v]).run Try.prog w = .ok (goInt l.length) w' ∧ Blk w' g (bl (l ++ [false])).toArray 4 ∧ Kept [g] w w' := by
  obtain ⟨a, cap, rfl, h1, h2⟩ := hv
  cases l with
  | nil => exact ⟨w, run_copy_none (P := Try.prog) w 39 39 ty 4 _ _ 1 1 0 cap Try.underlying39 (by kernel_rfl) rfl, by simpa using hb, Kept.refl _ _⟩
  | cons x r =>
    obtain ⟨b, off, rfl, hbl, -⟩ := h2 0 (by simp)
    generalize hl : x :: r = l at *
    have hn : (bl l).length = Nat.min l.length (l.length + 1) := by rw [bl_len]; simp
    have hrun := run_copy_cells (P := Try.prog) w 39 39 ty 4 g 0 (l.length + 1) (l.length + 1) ⟨b, off, none⟩ l.length cap (bl l) Try.underlying39 (by kernel_rfl) hn
      (fun j u hu => by
        have hj : j < l.length := by have := (List.getElem?_eq_some_iff.1 hu).1; rwa [bl_len] at this
        obtain ⟨b', off', e, _, hc⟩ := h2 j hj
        cases e
        rw [Addr.add_mid, hc]
        simp [bl, List.getElem?_eq_getElem hj] at hu ⊢
        exact hu)
      (fun j hj => by rw [bl_len] at hj; rw [Nat.zero_add, hb.cell]; simp [bl]; omega)
      (fun j hj => hb.frozen _) (bl_one l)
    refine ⟨_, by rw [bl_len] at hrun; exact hrun, ?_, kept_setCells (Or.inl (by simp)) _ _ _ (Kept.refl _ _)⟩
    have := blk_range (bl l) 0 w (bl (List.replicate (l.length + 1) false)) hb (by simp [bl])
    have e : (bl (List.replicate (l.length + 1) false)).take 0 ++ bl l ++ (bl (List.replicate (l.length + 1) false)).drop (0 + (bl l).length) = bl (l ++ [false]) := by
      rw [bl_app, bl_len, List.take_zero, List.nil_append, Nat.zero_add]
      congr 1
      simp [bl, List.drop_replicate]
    rw [e] at this
    exact this
theorem sees_bl {w : World} {g : Nat} {l : List Bool} (h : Blk w g (bl (l ++ [true])).toArray 4) (hl : l.length ≤ 9223372036854775807) (cap : Nat) : SeesB w (.slice (some ⟨g, 0, none⟩) l.length cap) l :=
  ⟨_, cap, rfl, hl, fun k hk => ⟨g, 0, rfl, h.lt, by rw [Nat.zero_add, h.cell]; simp [bl, List.getElem?_append_left, hk]⟩⟩
/-- the Bools turned one by one -/
def trn (l : List Bool) (k : Nat) : List Bool := (l.take k).map (!·) ++ l.drop k
theorem trn_len (l : List Bool) {k : Nat} (hk : k ≤ l.length) : (trn l k).length = l.length := by simp [trn]; omega
theorem trn_at {l : List Bool} {k : Nat} (hk : k < l.length) : (trn l k)[k]? = some (l.getD k false) := by
  simp [trn, List.getElem?_append_right, hk, Nat.min_eq_left (Nat.le_of_lt hk)]
theorem trn_set {l : List Bool} {k : Nat} (hk : k < l.length) : (trn l k).set k (!(l.getD k false)) = trn l (k + 1) := by
  have e1 : l.take (k + 1) = l.take k ++ [l[k]] := take_succ_at (List.getElem?_eq_getElem hk)
  have e2 : l.drop k = l[k] :: l.drop (k + 1) := List.drop_eq_getElem_cons hk
  unfold trn
  rw [e1, e2, List.map_append, List.set_append_right _ _ (by simp; omega)]
  simp only [List.length_map, List.length_take, Nat.min_eq_left (Nat.le_of_lt hk), Nat.sub_self, List.set_cons_zero]
  simp [hk]

set_option maxRecDepth 100000 in
set_option maxHeartbeats 4000000 in
theorem crash_law {w : World} {p q : Value} {X Y : List Nat} {s : Option Dm} {o : OpM} (h : StepIn w p q X Y s o) :
    Calls Try.prog 36 #[p, q, .agg (oc o).toArray] w fun e w' => e = .returned (.bool true) ∧ Out w p q X Y s w' := by
  obtain ⟨i0, hi, hz0, hz1, hz2⟩ := info_parts infoB
  have HI := hide (⟨hi, hz0, hz1, hz2⟩ : _ ∧ _ ∧ _ ∧ _)
  clear hi hz0 hz1 hz2
  obtain ⟨who, kind, n, dv, dl, kv, kl, torn, cut⟩ := o
  have hke : SeesB w kv kl := h.ok.keep
  obtain ⟨ka, kc, rfl, hkl, -⟩ := hke
  have hk2 : kl.length ≤ 1048576 := h.kl
  have h' := h.quiet ((Kept.refl [] w).alloc (.cells (oc ⟨who, kind, n, dv, dl, .slice ka kl.length kc, kl, torn, cut⟩).toArray 41))
  have HB0 := hide (Blk.new w (oc ⟨who, kind, n, dv, dl, .slice ka kl.length kc, kl, torn, cut⟩).toArray 41)
  have HBX : Hid (w.heap.size ∉ X) := fun hm => by have := h.dh.1 _ hm; omega
  have HBY : Hid (w.heap.size ∉ Y) := fun hm => by have := h.rh.1 _ hm; omega
  have HEND : Hid (∀ w', Out (w.alloc (.cells (oc ⟨who, kind, n, dv, dl, .slice ka kl.length kc, kl, torn, cut⟩).toArray 41)) p q X Y s w' → Out w p q X Y s w') := fun w' hw => out_after ((Kept.refl [] w).alloc _) hw
  clear h
  have h := h'
  clear h'
  have HM := hide (rcrash_h h.rh (Nat.le_trans (by omega : lenP s ≤ (lenP s + 1) * 72) (Nat.le_trans h.pl (by omega))) h.ok.keep (h.ka.imp id (fun f k hk => (f k hk).2)) torn cut)
  have HH := hide h
  clear h
  simp only [oc]
  simp only [oc] at HM
  generalize hL : kl.length = L at *
  have HL := hide hL
  have hN : ((L : Int) + 1) = ((L + 1 : Nat) : Int) := by omega
  have HN := hide hN
  clear hN hL
  obtain ⟨M, hM⟩ : ∃ M, M = madeCells #[Value.bool false] (L + 1) := ⟨_, rfl⟩
  go_enter Try.func36, Try.ntmps36
  go_wp2_with (first
    | (go_at_call 46; refine (unhide HM).mono ?_; rintro e w1 ⟨rfl, hr1, hn1⟩; have HR1 := hide hr1; have HN1 := hide hn1; clear HM hr1 hn1
       have HB1 := hide ((unhide HB0).kept (unhide HN1).kept (unhide HBY)); have q4 := (unhide HB1).cell 4; simp [oc] at q4
       have HS1 : Hid (SeesB w1 (.slice ka L kc) kl) := (unhide HH).ok.keep.keptO (unhide HN1).kept ((unhide HH).ka.imp id (fun f k hk => (f k hk).2))
       have HG : Hid (w1.heap.size ∉ X) := fun hm => by have h1 := (unhide HH).dh.1 _ hm; have h2 := (unhide HN1).kept.size; exact absurd h1 (Nat.not_lt.2 h2)
       have HBG : Hid (w.heap.size < w1.heap.size) := (unhide HB1).lt
       have HX1 : Hid (Dh w1 p X s) := (unhide HH).dh.keep (unhide HN1).kept (unhide HH).ap)
    | (at_make; refine wpList_make_row _ rfl _ _ 39 rfl 4 i0 (.bool false) Try.underlying39 (unhide HI).1 (unhide HI).2.1 (unhide HI).2.2.1 rfl .i64 .i64 (L + 1) (by rw [← unhide HN]; rfl) (by rw [← unhide HN]; rfl) (by rw [(unhide HI).2.2.2]; omega) (by omega) ?_; rw [← hM]
       have hb2 : Blk (w1.alloc (.cells M 4)) w1.heap.size (bl (List.replicate (kl.length + 1) false)).toArray 4 := by
         rw [unhide HL, ← made4, ← hM]; exact Blk.new _ _ _
       have hk12 : Kept [] w1 (w1.alloc (.cells M 4)) := (Kept.refl [] w1).alloc _
       obtain ⟨w3, hcp, hb3, hk3⟩ := copy_bools ((unhide HS1).kept hk12 (by simp)) hb2 3
       rw [unhide HL] at hcp
       have HCP := hide hcp
       have hk13 : Kept [] w1 w3 := hk12.trans hk3 (fun x hx => by simp at hx; right; omega)
       have hb4 : Blk (w3.setCell ⟨w1.heap.size, L, none⟩ (.bool true)) w1.heap.size (bl (kl ++ [true])).toArray 4 := by
         have := hb3.set L (.bool true)
         have e : (bl (kl ++ [false])).toArray.setIfInBounds L (.bool true) = (bl (kl ++ [true])).toArray := by
           rw [List.setIfInBounds_toArray, bl_app, List.set_append_right _ _ (by rw [bl_len, unhide HL]; exact Nat.le_refl _), bl_len, unhide HL, Nat.sub_self]
           simp [bl]
         rw [e] at this
         exact this
       have hk14 : Kept [] w1 (w3.setCell ⟨w1.heap.size, L, none⟩ (.bool true)) := hk13.setCell (p := ⟨w1.heap.size, L, none⟩) (Or.inr (Nat.le_refl _)) _
       have c2b := ((unhide HB1).kept hk12 (by simp)).cell 4; simp [oc] at c2b
       have c3b := ((unhide HB1).kept hk13 (by simp)).cell 4; simp [oc] at c3b
       have c4b := ((unhide HB1).kept hk14 (by simp)).cell 4; simp [oc] at c4b
       have c4t := ((unhide HB1).kept hk14 (by simp)).cell 5; simp [oc] at c4t
       have c4c := ((unhide HB1).kept hk14 (by simp)).cell 6; simp [oc] at c4c
       have c3g : w3.cell? ⟨w1.heap.size, L, none⟩ = some (.bool false) := by rw [hb3.cell]; simp [bl, ← unhide HL]
       have f3g := hb3.frozen L
       have HD : Hid (∀ W, Quiet (w3.setCell ⟨w1.heap.size, L, none⟩ (.bool true)) W → Calls Try.prog 25 #[p, .slice (some ⟨w1.heap.size, 0, none⟩) L (L + 1), .int .i64 torn, .int .i64 cut] W fun e w' => e = .returned (.tuple #[]) ∧ Dh w' p X (onC s kl torn cut) ∧ Nx X (w3.setCell ⟨w1.heap.size, L, none⟩ (.bool true)) X w') := by
         intro W hW
         have := crash_h ((unhide HX1).quiet (hk14.trans hW.kept (by simp))) (Nat.le_trans (by omega : lenP s ≤ (lenP s + 1) * 72) (Nat.le_trans (unhide HH).pl (by omega))) (sees_bl (hb4.kept hW.kept (by simp)) (by rw [unhide HL]; omega) (L + 1)) (Or.inr fun k hk => by simp [Value.ownBlock] at hk; subst hk; exact unhide HG) torn cut
         rw [unhide HL] at this
         exact this.mono fun e w' ⟨he, h1, h2⟩ => ⟨he, h1, Nx.after hW.kept h2⟩
       have HB4 := hide hb4
       have HK14 := hide hk14
       clear hM hb2 hk12 hcp hb3 hk3 hk13 hb4 hk14)
    | (guard_target =~ wpList _ _ _ _ _ _; refine wpList_copy_at rfl _ _ 39 39 rfl _ _ rfl rfl (unhide HCP) ?_))
  have t1 : (L : Int) ≤ (L : Int) + 1 := by omega
  have t0 : (0 : Int) ≤ (L : Int) := by omega
  go_region_held3 (fun W => W.cell? ⟨w.heap.size, 4, none⟩ = some (.slice ka L kc) ∧ W.cell? ⟨w.heap.size, 5, none⟩ = some (.int .i64 torn) ∧ W.cell? ⟨w.heap.size, 6, none⟩ = some (.int .i64 cut)) (go_keep)
    (first
    | (go_at_call 25; refine (unhide HD _ (by first | exact Quiet.refl _ | exact (Quiet.refl _).drew | exact (Quiet.refl _).drewN _)).mono ?_; rintro e w5 ⟨rfl, hd5, hn5⟩; have HD5 := hide hd5; have HN5 := hide hn5; clear HD hd5 hn5
       have HB5 := hide ((unhide HB4).kept (unhide HN5).kept (unhide HG))
       have HO5 := hide (((unhide HB1).kept (unhide HK14) (by simp)).kept (unhide HN5).kept (unhide HBX))
       have d4 := (unhide HO5).cell 4; have d5 := (unhide HO5).cell 5; have d6 := (unhide HO5).cell 6; simp [oc] at d4 d5 d6))
  go_wp2_with fail
  have HS5 : Hid (SeesB w5 (.slice ka L kc) kl) := ((unhide HS1).kept (unhide HK14) (by simp)).keptO (unhide HN5).kept ((unhide HH).ka.imp id (fun f k hk => (f k hk).1))
  clear d4 d5 d6 c2b c3b c4b c4t c4c c3g f3g q4 HCP
  go_loopw [8] (fun i wr => ∃ k : Nat, k ≤ L ∧ i = .int .i64 k ∧ Blk wr w1.heap.size (bl (trn kl k ++ [true])).toArray 4 ∧ Kept [w1.heap.size] w5 wr) (fun i _ => L - (intOf i).toNat)
  case atStart => exact ⟨0, by omega, rfl, by simpa [trn] using unhide HB5, Kept.refl _ _⟩
  case round =>
    obtain ⟨k, hk, rfl, hb, hkp⟩ := hrel
    have HB := hide hb
    have HKP := hide hkp
    have o4 := ((unhide HO5).kept hkp (by have := unhide HBG; simp; omega)).cell 4
    simp [oc] at o4
    by_cases hkl : k < L
    · have hkl' : k < kl.length := by rw [unhide HL]; exact hkl
      have hlen : (trn kl k).length = L := by rw [trn_len kl (by rw [unhide HL]; exact hk), unhide HL]
      have t2 : (k : Int) < (L : Int) := by omega
      have t3 : (k : Int) < (L : Int) + 1 := by omega
      have t4 : (0 : Int) ≤ (k : Int) := by omega
      have hcg : wr.cell? ⟨w1.heap.size, k, none⟩ = some (.bool (kl.getD k false)) := by
        rw [hb.cell]
        have h9 := trn_at hkl'
        rw [List.getElem?_toArray, bl_app, List.getElem?_append_left (by rw [bl_len, hlen]; exact hkl)]
        simp only [bl, List.getElem?_map, h9, Option.map_some]
      have hfg := hb.frozen k
      obtain ⟨kb, koff, rfl, -, hck⟩ : ∃ b off, ka = some ⟨b, off, none⟩ ∧ True ∧ wr.cell? ⟨b, off + k, none⟩ = some (.bool (kl.getD k false)) := by
        obtain ⟨a1, c1, e1, -, h1⟩ := unhide HS1
        injection e1 with e1 e2 e3
        subst e1
        obtain ⟨b1, off1, rfl, hb1, -⟩ := h1 k hkl'
        obtain ⟨a5, c5, e5, -, h5⟩ := unhide HS5
        injection e5 with e5 e6 e7
        subst e5
        obtain ⟨b5, off5, e8, hb5, hc5⟩ := h5 k hkl'
        cases e8
        exact ⟨_, _, rfl, trivial, (hkp.cell (p := ⟨b1, off1 + k, none⟩) hb5 (by simp; omega)).trans hc5⟩
      have HSET : Hid (Blk (wr.setCell ⟨w1.heap.size, k, none⟩ (.bool (!(kl.getD k false)))) w1.heap.size (bl (trn kl (k + 1) ++ [true])).toArray 4) := by
        have := hb.set k (.bool (!(kl.getD k false)))
        have e : (bl (trn kl k ++ [true])).toArray.setIfInBounds k (.bool (!(kl.getD k false))) = (bl (trn kl (k + 1) ++ [true])).toArray := by
          rw [List.setIfInBounds_toArray, bl_app, List.set_append_left _ _ (by rw [bl_len, hlen]; exact hkl), ← trn_set hkl', bl_app]
          simp [bl]
        rw [e] at this
        exact this
      clear hb hkp HB hlen
      generalize kl.getD k false = x at *
      go_wp2_with fail
      go_region_held3 (fun W => W.cell? ⟨w1.heap.size, k, none⟩ = some (.bool x) ∧ W.cell? ⟨w.heap.size, 4, none⟩ = some (.slice (some ⟨kb, koff, none⟩) L kc) ∧ W.cell? ⟨kb, koff + k, none⟩ = some (.bool x)) (go_keep) (fail)
      go_wp2_with fail
      exact ⟨⟨k + 1, by omega, by simp, (unhide HSET).kept ((Kept.refl [] _).drew) (by simp), ((unhide HKP).setCell (p := ⟨w1.heap.size, k, none⟩) (Or.inl (by simp)) _).drew⟩, by simp [intOf]; omega⟩
    · obtain rfl : k = L := by omega
      have hlen : (trn kl k).length = k := by rw [trn_len kl (by rw [unhide HL]; exact hk), unhide HL]
      have hcg : wr.cell? ⟨w1.heap.size, k, none⟩ = some (.bool true) := by
        rw [hb.cell]
        simp [bl, hlen]
      have t3 : (k : Int) < (k : Int) + 1 := by omega
      clear hb hkp
      go_wp2_with fail
      go_ret
      refine ⟨rfl, unhide HEND _ <| out_mk (unhide HH).dh.1 (unhide HH).ap (unhide HR1) (unhide HN1) (unhide HK14) (unhide HD5) (unhide HN5) (H := [w1.heap.size]) (fun g hg => ?_) (unhide HKP) (Nat.le_trans (lenC_le _ _ _ _) (by omega))⟩
      simp at hg
      subst hg
      exact ⟨Nat.le_refl _, unhide HG⟩

theorem range_blk {w : World} {b : Nat} {cs : List Value} {t : TypeId} (h : Blk w b cs.toArray t) : w.rangeAt b 0 cs := fun j v hv => by rw [Nat.zero_add, h.cell]; simpa using hv
set_option maxRecDepth 100000 in
set_option maxHeartbeats 2000000 in
theorem step_crash {w : World} {p q : Value} {X Y : List Nat} {s : Option Dm} {o : OpM} (h : StepIn w p q X Y s o) (hk : o.kind = 5) :
    Calls Try.prog 16 #[p, q, .agg (oc o).toArray] w fun e w' => e = .returned (.bool true) ∧ Out w p q X Y s w' := by
  obtain ⟨who, kind, n, dv, dl, kv, kl, torn, cut⟩ := o
  simp only at hk
  subst hk
  have HB0 := hide (range_blk (Blk.new w (oc ⟨who, 5, n, dv, dl, kv, kl, torn, cut⟩).toArray 41))
  have HEND : Hid (∀ w', Out (w.alloc (.cells (oc ⟨who, 5, n, dv, dl, kv, kl, torn, cut⟩).toArray 41)) p q X Y s w' → Out w p q X Y s w') := fun w' hw => out_after ((Kept.refl [] w).alloc _) hw
  have HC := hide (crash_law (h.quiet ((Kept.refl [] w).alloc (.cells (oc ⟨who, 5, n, dv, dl, kv, kl, torn, cut⟩).toArray 41))))
  clear h
  simp only [oc]
  simp only [oc] at HC HB0
  go_enter Try.func16, Try.ntmps16
  go_wp2_with (first
    | (go_at_call 36; refine (unhide HC).mono ?_; rintro e w1 ⟨rfl, ho⟩; have HO := hide ho; clear ho HC)
    | (guard_target =~ wpList _ _ _ _ _ _; refine wpList_load_mid rfl 41 _ rfl w.heap.size 0 rfl _ _ (unhide HB0) Try.underlying41 rfl size41 ?_))
  go_ret
  exact ⟨rfl, unhide HEND _ (unhide HO)⟩
theorem step_any {w : World} {p q : Value} {X Y : List Nat} {s : Option Dm} {o : OpM} (h : StepIn w p q X Y s o) :
    Calls Try.prog 16 #[p, q, .agg (oc o).toArray] w fun e w' => e = .returned (.bool true) ∧ Out w p q X Y s w' := by
  by_cases h0 : o.kind = 0
  · exact step_write h h0
  by_cases h1 : o.kind = 1
  · exact step_read h h1
  by_cases h2 : o.kind = 2
  · exact step_sync h h2
  by_cases h3 : o.kind = 3
  · exact step_pending h h3
  by_cases h4 : o.kind = 4
  · exact step_fuse h h4
  by_cases h5 : o.kind = 5
  · exact step_crash h h5
  by_cases h6 : o.kind = 6
  · exact step_image h h6
  by_cases h7 : o.kind = 7
  · exact step_counts h h7
  exact step_else h (by simpa using h0) (by simpa using h1) (by simpa using h2) (by simpa using h3) (by simpa using h4) (by simpa using h5) (by simpa using h6) (by simpa using h7)
end Go.Proofs.Ytfaoblnghkiibaa
