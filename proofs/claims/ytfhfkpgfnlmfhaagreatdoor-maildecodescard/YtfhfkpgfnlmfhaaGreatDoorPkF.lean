/- Texts laid one behind the other: Take Rnum Rint Pure PureN Cut. -/
import Derived.Test.YtfhfkpgfnlmfhaaGreatDoorPkE
import Derived.Deep.RegionHeld3
/- The reader's take where the reading gives up; Read, Num, Int, Done; same. -/
namespace Go.Proofs.YtfhfkpgfnlmfhaaGreatDoor
open Go.RowKit

/-- A reader with a fault. -/
def RdF (w : World) (b : Nat) (c : Nat) : Prop := Blk w b #[nilS, nilS, .int .i64 (c : Int)] 69

theorem Blk.set3 {w : World} {b : Nat} {x0 x1 x2 y0 y1 y2 : Value} {t : TypeId} (h : Blk w b #[x0, x1, x2] t) :
    Blk (((w.setCell ⟨b, 0, none⟩ y0).setCell ⟨b, 1, none⟩ y1).setCell ⟨b, 2, none⟩ y2) b #[y0, y1, y2] t := by
  have h1 := h.set 0 y0
  have h2 := h1.set 1 y1
  have h3 := h2.set 2 y2
  simpa using h3

set_option maxRecDepth 100000 in
set_option maxHeartbeats 400000 in
theorem recover_panicking {w : World} (p b : Nat) (lv bv : Value) (l : List Nat) (u : TypeId) (pv : Value) (c : Nat) (hp : w.cell? ⟨p, 0, none⟩ = some (.pointer (some ⟨b, 0, none⟩)))
    (h : Rd w b lv bv l) (hf : (u = 8 ∧ c = 10) ∨ (u = 26 ∧ pv = .int .i64 c)) :
    CallsD Tryz.prog 58 #[.pointer (some ⟨p, 0, none⟩)] (.panicking [{ v := .iface u pv, recovered := false }]) w fun e u' w' =>
      e = .returned (.tuple #[]) ∧ u' = .panicking [{ v := .iface u pv, recovered := true }] ∧ RdF w' b c ∧ Kept [b] w w' := by
  have hcall : ∀ w, Calls Tryz.prog 59 #[.iface u pv] w fun e w' => e = .returned (.int .i64 c) ∧ w = w' := by
    intro w
    rcases hf with ⟨rfl, rfl⟩ | ⟨rfl, rfl⟩
    · exact faultOf_bounds pv w
    · exact faultOf_errno c w
  have HC := hide hcall
  obtain ⟨c0, c1, c2⟩ := blk3 h.blk
  have f0 := h.blk.frozen 0
  have f1 := h.blk.frozen 1
  have f2 := h.blk.frozen 2
  clear hcall hf
  refine callsD_of_wpS Tryz.func58 rfl fun c₀ cs hu => ?_
  apply wpS_seq
  apply wpS_region
  simp [wpOpsS, go_sem, recoverD, hu, Tryz.ntmps58, Exit.thenS]
  apply wpS_seq
  apply wpS_region
  simp [wpOpsS, go_sem, Exit.thenS, Array.replicate]
  refine wpS_cond (t := true) (by simp [Act.eval]) ?_
  simp only [if_true]
  refine wpS_of_wp ?_
  have HB := hide h
  clear h
  go_region_with (go_at_call 59; refine (unhide HC _).mono ?_; rintro e w' ⟨rfl, rfl⟩)
  all_goals
    simp [bodyPostS, results, Tryz.results58]
    exact ⟨(unhide HB).blk.set3.kept ((Kept.refl [] _).drew) (by simp), ((((Kept.refl [b] w).setCell (Or.inl (by simp)) _).setCell (Or.inl (by simp)) _).setCell (Or.inl (by simp)) _).drew⟩

set_option maxRecDepth 100000 in
set_option maxHeartbeats 400000 in
/-- take, whatever the reading does: it ends well, or it gives up and the reader has a fault. -/
theorem take_any {w : World} {b g : Nat} {lv bv : Value} {left : List Nat} (h : Rd w b lv bv left) (caps : Array Value) (R : World → Prop) (c : Nat) (F : List Nat) (hen : ∀ w, (callFunc g caps).run Tryz.prog w = .ok (.enter g caps) w) (hF : w.heap.size ∉ F)
    (hc : Calls Tryz.prog g caps (w.alloc (.cells #[.pointer (some ⟨b, 0, none⟩)] 40)) fun e w1 => (e = .returned (.tuple #[]) ∧ R w1) ∨ (Faulty e c ∧ (∃ lv' l', Rd w1 b lv' bv l') ∧ Kept F (w.alloc (.cells #[.pointer (some ⟨b, 0, none⟩)] 40)) w1)) :
    Calls Tryz.prog 40 #[.pointer (some ⟨b, 0, none⟩), .func (.func g) #[] caps] w fun e w' => e = .returned (.tuple #[]) ∧ (R w' ∨ (RdF w' b c ∧ Kept (b :: F) w w')) := by
  have hmf : ∀ (fn : Fn) (first cap : Array Value) (w : World), (Instr.makeFunc fn first cap).run Tryz.prog w = .ok (.func fn first cap) w := fun _ _ _ _ => rfl
  have hb := h.blk.lt
  have c2' : (w.alloc (.cells #[.pointer (some ⟨b, 0, none⟩)] 40)).cell? ⟨b, 2, none⟩ = some (.int .i64 0) := (blk3 (h.blk.alloc _)).2.2
  have HC := hide hc
  clear h hc
  go_enter_defers Tryz.func40, Tryz.ntmps40
  go_wp2_with fail
  refine (unhide HC).mono ?_
  rintro e w1 (⟨rfl, hR⟩ | ⟨⟨u, pv, rfl, hu⟩, ⟨lv', l', hrd⟩, hk⟩)
  · go_wp2
    refine leaves_cons (f := 58) (args := #[.pointer (some ⟨w.heap.size, 0, none⟩)]) (by simp) (by simp [go_sem]) ?_
    refine (recover_idle ⟨w.heap.size, 0, none⟩ _).mono ?_
    rintro e u' w'' ⟨rfl, rfl, rfl⟩
    simp [Leaves, settle, results, Tryz.results40, go_sem, hR]
  · go_wp2
    refine leaves_cons (f := 58) (args := #[.pointer (some ⟨w.heap.size, 0, none⟩)]) (by simp) (by simp [go_sem]) ?_
    have hp : w1.cell? ⟨w.heap.size, 0, none⟩ = some (.pointer (some ⟨b, 0, none⟩)) := by
      rw [hk.cell (p := ⟨w.heap.size, 0, none⟩) (by simp) hF]; exact blk1 (Blk.new _ _ _)
    refine (recover_panicking w.heap.size b lv' bv l' u pv c hp hrd hu).mono ?_
    rintro e u' w'' ⟨rfl, rfl, h1, h2⟩
    simp [Leaves, settle, results, Tryz.results40, go_sem]
    right
    refine ⟨h1, ?_⟩
    have k1 : Kept (b :: F) w w1 := ((Kept.refl [] w).alloc _ |>.mono (G := b :: F) (by simp)).trans hk (fun x hx => Or.inl (by simp [hx]))
    exact k1.trans h2 (fun x hx => Or.inl (by simp at hx; simp [hx]))

/-- The face of a call that takes: the reading ends well. q: the variable into which it lays its answer. -/
theorem face_ok {W : World} {b g : Nat} {lv bv : Value} {l : List Nat} (h : Rd W b lv bv l) (caps : Array Value) (hen : ∀ w, (callFunc g caps).run Tryz.prog w = .ok (.enter g caps) w) (Post : World → World → Prop)
    (hmono : ∀ w3 w', Kept [] W w3 → Post w3 w' → Post W w')
    (hc : ∀ w3, Kept [] W w3 → Calls Tryz.prog g caps w3 fun e w' => e = .returned (.tuple #[]) ∧ Post w3 w') :
    Calls Tryz.prog 40 #[.pointer (some ⟨b, 0, none⟩), .func (.func g) #[] caps] W fun e w' => e = .returned (.tuple #[]) ∧ Post W w' := by
  have k0 : Kept [] W (W.alloc (.cells #[.pointer (some ⟨b, 0, none⟩)] 40)) := (Kept.refl _ _).alloc _
  refine take_ok h caps (fun w' => Post W w') hen ?_
  refine (hc _ k0).mono ?_
  rintro e w' ⟨rfl, hp⟩
  exact ⟨rfl, hmono _ _ k0 hp⟩

/-- The face of a call that takes: the reading gives up. -/
theorem face_err {W : World} {b g : Nat} {lv bv : Value} {l : List Nat} (h : Rd W b lv bv l) (caps : Array Value) (c : Nat) (hen : ∀ w, (callFunc g caps).run Tryz.prog w = .ok (.enter g caps) w)
    (hc : ∀ w3, Kept [] W w3 → Calls Tryz.prog g caps w3 fun e w' => Faulty e c ∧ (∃ lv' l', Rd w' b lv' bv l') ∧ Kept [b] w3 w') :
    Calls Tryz.prog 40 #[.pointer (some ⟨b, 0, none⟩), .func (.func g) #[] caps] W fun e w' => e = .returned (.tuple #[]) ∧ RdF w' b c ∧ Kept [b] W w' := by
  have k0 : Kept [] W (W.alloc (.cells #[.pointer (some ⟨b, 0, none⟩)] 40)) := (Kept.refl _ _).alloc _
  have hb := h.blk.lt
  refine (take_any h caps (fun _ => False) c [b] hen (by simp; omega) ?_).mono ?_
  · refine (hc _ k0).mono ?_
    intro e w' hp
    exact Or.inr hp
  · rintro e w' ⟨rfl, hp | ⟨h1, h2⟩⟩
    · exact hp.elim
    · exact ⟨rfl, h1, h2.mono (fun x hx => by simp at hx; exact Or.inl (by simp [hx]))⟩
end Go.Proofs.YtfhfkpgfnlmfhaaGreatDoor

/- The reader's Num and Int. -/
namespace Go.Proofs.YtfhfkpgfnlmfhaaGreatDoor
open Go.RowKit

theorem en74 (a : Array Value) (w : World) : (callFunc 116 a).run Tryz.prog w = .ok (.enter 116 a) w := by kernel_rfl
theorem readNum_lt (l : List Nat) (k acc : Nat) (hk : k ≤ 9) (ha : acc < 128 ^ k) (hl : ∀ x ∈ l, x < 256) {n : Nat} {rest : List Nat} (h : readNum k acc l = .inr (n, rest)) : n < 18446744073709551616 ∧ (∀ x ∈ rest, x < 256) ∧ rest.length < l.length := by
  induction l generalizing k acc with
  | nil => simp [readNum] at h
  | cons x l ih =>
    rw [readNum] at h
    split at h
    · cases h
    · rename_i hA
      split at h
      · split at h
        · cases h
        · simp at h
          obtain ⟨rfl, rfl⟩ := h
          refine ⟨?_, fun y hy => hl y (by simp [hy]), by simp⟩
          by_cases h9 : k = 9
          · subst h9
            have : x ≤ 1 := by omega
            have : x * 128 ^ 9 ≤ 1 * 128 ^ 9 := Nat.mul_le_mul_right _ this
            omega
          · have h1 : x * 128 ^ k ≤ 127 * 128 ^ k := Nat.mul_le_mul_right _ (by omega)
            have h2 : 128 ^ k ≤ 128 ^ 8 := Nat.pow_le_pow_right (by omega) (by omega)
            omega
      · have h9 : k ≠ 9 := by
          intro e; subst e; omega
        have := ih (k + 1) _ (by omega) (or_shift k acc (x % 128) hk ha (by omega) (fun e => absurd e h9)).2 (fun y hy => hl y (by simp [hy])) h
        exact ⟨this.1, this.2.1, by simp; omega⟩

set_option maxRecDepth 100000 in
set_option maxHeartbeats 400000 in
theorem clos_num_ok {w : World} {b : Nat} {lv bv : Value} {l : List Nat} (h : Rd w b lv bv l) (hl : ∀ x ∈ l, x < 256) (p q : Nat) (z : Value) (hp : w.cell? ⟨p, 0, none⟩ = some (.pointer (some ⟨b, 0, none⟩))) (hq : Blk w q #[z] 23) (hqb : q ≠ b) (hql : lv.ownBlock ≠ some q) {n : Nat} {rest : List Nat} (hr : readNum 0 0 l = .inr (n, rest)) :
    Calls Tryz.prog 116 #[.pointer (some ⟨p, 0, none⟩), .pointer (some ⟨q, 0, none⟩)] w fun e w' => e = .returned (.tuple #[]) ∧ (∃ lv', Rd w' b lv' bv rest ∧ lv'.ownBlock = lv.ownBlock) ∧ Blk w' q #[.int .u64 (n : Nat)] 23 ∧ Kept [b, q] w w' := by
  have HC := hide (number_any h hl)
  have HH := hide h
  have HQ := hide hq
  have HR := hide hr
  clear h hl hq hr
  go_enter Tryz.func116, Tryz.ntmps116
  go_wp2_with fail
  refine (unhide HC).mono ?_
  rintro e w1 ⟨g1, _, hk⟩
  obtain ⟨rfl, lv', hrd, ho⟩ := g1 n rest (unhide HR)
  have hq1 : Blk w1 q #[z] 23 := (unhide HQ).kept hk (by simpa using hqb)
  have hc1 := blk1 hq1
  have hf1 := hq1.frozen 0
  have HQ1 := hide hq1
  have HRD := hide hrd
  clear hq1 g1 hrd
  go_wp2
  go_end0
  refine ⟨rfl, ⟨lv', (unhide HRD).kept ((Kept.refl [q] _).setCell (Or.inl (by simp)) _) (by simp; exact fun e => hqb e.symm) (fun x hx => by simp; intro e; subst e; exact hql (by rw [← ho]; exact hx)), ho⟩, ?_, ?_⟩
  · simpa using (unhide HQ1).set 0 _
  · exact (hk.mono (fun x hx => Or.inl (by simp at hx; simp [hx]))).setCell (Or.inl (by simp)) _

set_option maxRecDepth 100000 in
set_option maxHeartbeats 400000 in
theorem clos_num_err {w : World} {b : Nat} {lv bv : Value} {l : List Nat} (h : Rd w b lv bv l) (hl : ∀ x ∈ l, x < 256) (p q : Nat) (hp : w.cell? ⟨p, 0, none⟩ = some (.pointer (some ⟨b, 0, none⟩))) {c : Nat} (hr : readNum 0 0 l = .inl c) :
    Calls Tryz.prog 116 #[.pointer (some ⟨p, 0, none⟩), .pointer (some ⟨q, 0, none⟩)] w fun e w' => Faulty e c ∧ (∃ lv' l', Rd w' b lv' bv l') ∧ Kept [b] w w' := by
  have HC := hide (number_any h hl)
  have HR := hide hr
  clear h hl hr
  go_enter Tryz.func116, Tryz.ntmps116
  go_wp2_with fail
  refine (unhide HC).mono ?_
  rintro e w1 ⟨_, g1, hk⟩
  obtain ⟨⟨u, pv, rfl, hu⟩, hrd⟩ := g1 c (unhide HR)
  clear g1
  go_wp2
  exact ⟨rfl, ⟨u, pv, rfl, hu⟩, hrd, hk⟩

/-- What a face's variable holds behind a reading that ended well. -/
def Taken (b q : Nat) (lv bv : Value) (rest : List Nat) (z : Value) (t : TypeId) (w w' : World) : Prop :=
  (∃ lv', Rd w' b lv' bv rest ∧ lv'.ownBlock = lv.ownBlock) ∧ Blk w' q #[z] t ∧ Kept [b, q] w w'

theorem Taken.mono {b q : Nat} {lv bv : Value} {rest : List Nat} {z : Value} {t : TypeId} {W w3 w' : World} (k : Kept [] W w3) (h : Taken b q lv bv rest z t w3 w') : Taken b q lv bv rest z t W w' :=
  ⟨h.1, h.2.1, (k.mono (by simp)).trans h.2.2 (fun _ hx => Or.inl hx)⟩

theorem rd_lt {w : World} {b : Nat} {lv bv : Value} {l : List Nat} (h : Rd w b lv bv l) : b < w.heap.size ∧ ∀ x, lv.ownBlock = some x → x < w.heap.size := by
  refine ⟨h.blk.lt, fun x hx => ?_⟩
  rcases h.see with ⟨rfl, _⟩ | ⟨bk, off, cap, rfl, _, _, hlt, _⟩
  · cases hx
  · cases hx; exact hlt

set_option maxRecDepth 100000 in
set_option maxHeartbeats 400000 in
theorem rnum_ok {w : World} {b : Nat} {lv bv : Value} {l : List Nat} (h : Rd w b lv bv l) (hl : ∀ x ∈ l, x < 256) {n : Nat} {rest : List Nat} (hr : readNum 0 0 l = .inr (n, rest)) :
    Calls Tryz.prog 113 #[.pointer (some ⟨b, 0, none⟩)] w fun e w' => e = .returned (.int .u64 (n : Nat)) ∧ (∃ lv', Rd w' b lv' bv rest ∧ lv'.ownBlock = lv.ownBlock) ∧ Kept [b] w w' := by
  have hmf : ∀ (fn : Fn) (first cap : Array Value) (w : World), (Instr.makeFunc fn first cap).run Tryz.prog w = .ok (.func fn first cap) w := fun _ _ _ _ => rfl
  have hface : Calls Tryz.prog 40 #[.pointer (some ⟨b, 0, none⟩), .func (.func 116) #[] #[.pointer (some ⟨w.heap.size, 0, none⟩), .pointer (some ⟨w.heap.size + 1, 0, none⟩)]]
      ((w.alloc (.cells #[.pointer (some ⟨b, 0, none⟩)] 40)).alloc (.cells #[.int .u64 0] 23)) fun e w' => e = .returned (.tuple #[]) ∧ Taken b (w.heap.size + 1) lv bv rest (.int .u64 (n : Nat)) 23 ((w.alloc (.cells #[.pointer (some ⟨b, 0, none⟩)] 40)).alloc (.cells #[.int .u64 0] 23)) w' := by
    have h2 := (h.alloc (.cells #[.pointer (some ⟨b, 0, none⟩)] 40)).alloc (.cells #[.int .u64 0] 23)
    obtain ⟨hb, hlo⟩ := rd_lt h
    have b1 : Blk ((w.alloc (.cells #[.pointer (some ⟨b, 0, none⟩)] 40)).alloc (.cells #[.int .u64 0] 23)) w.heap.size #[.pointer (some ⟨b, 0, none⟩)] 40 := (Blk.new _ _ _).alloc _
    have b2 : Blk ((w.alloc (.cells #[.pointer (some ⟨b, 0, none⟩)] 40)).alloc (.cells #[.int .u64 0] 23)) (w.heap.size + 1) #[.int .u64 0] 23 := by
      have := Blk.new (w.alloc (.cells #[.pointer (some ⟨b, 0, none⟩)] 40)) #[.int .u64 0] 23
      simpa using this
    refine face_ok h2 _ (en74 _) (Taken b (w.heap.size + 1) lv bv rest (.int .u64 (n : Nat)) 23) (fun _ _ => Taken.mono) ?_
    intro w3 k3
    exact clos_num_ok (h2.kept k3 (by simp) (by simp)) hl w.heap.size (w.heap.size + 1) _ (blk1 (b1.kept k3 (by simp))) (b2.kept k3 (by simp)) (by omega) (fun e => by have := hlo _ e; omega) hr
  have HF := hide hface
  clear hface h hl hr
  go_enter Tryz.func113, Tryz.ntmps113
  go_wp2_with fail
  refine (unhide HF).mono ?_
  rintro e w1 ⟨rfl, hrd, hq, hk⟩
  have hc := blk1 hq
  clear hq
  go_wp2
  go_ret
  refine ⟨rfl, hrd, ?_⟩
  exact ((((Kept.refl [] w).alloc _).alloc _).mono (G := [b]) (by simp)).trans hk (fun x hx => by simp at hx; rcases hx with rfl | rfl; simp; right; omega)
end Go.Proofs.YtfhfkpgfnlmfhaaGreatDoor

/- The reader's Num where it is refused, its Int, Read, Done, Rest; same. -/
namespace Go.Proofs.YtfhfkpgfnlmfhaaGreatDoor
open Go.RowKit

set_option maxRecDepth 100000 in
set_option maxHeartbeats 400000 in
theorem rnum_err {w : World} {b : Nat} {lv bv : Value} {l : List Nat} (h : Rd w b lv bv l) (hl : ∀ x ∈ l, x < 256) {c : Nat} (hr : readNum 0 0 l = .inl c) :
    Calls Tryz.prog 113 #[.pointer (some ⟨b, 0, none⟩)] w fun e w' => e = .returned (.int .u64 0) ∧ RdF w' b c ∧ Kept [b] w w' := by
  have hmf : ∀ (fn : Fn) (first cap : Array Value) (w : World), (Instr.makeFunc fn first cap).run Tryz.prog w = .ok (.func fn first cap) w := fun _ _ _ _ => rfl
  obtain ⟨hb, hlo⟩ := rd_lt h
  have hface : Calls Tryz.prog 40 #[.pointer (some ⟨b, 0, none⟩), .func (.func 116) #[] #[.pointer (some ⟨w.heap.size, 0, none⟩), .pointer (some ⟨w.heap.size + 1, 0, none⟩)]]
      ((w.alloc (.cells #[.pointer (some ⟨b, 0, none⟩)] 40)).alloc (.cells #[.int .u64 0] 23)) fun e w' => e = .returned (.tuple #[]) ∧ RdF w' b c ∧ Blk w' (w.heap.size + 1) #[.int .u64 0] 23 ∧ Kept [b] ((w.alloc (.cells #[.pointer (some ⟨b, 0, none⟩)] 40)).alloc (.cells #[.int .u64 0] 23)) w' := by
    have h2 := (h.alloc (.cells #[.pointer (some ⟨b, 0, none⟩)] 40)).alloc (.cells #[.int .u64 0] 23)
    have b1 : Blk ((w.alloc (.cells #[.pointer (some ⟨b, 0, none⟩)] 40)).alloc (.cells #[.int .u64 0] 23)) w.heap.size #[.pointer (some ⟨b, 0, none⟩)] 40 := (Blk.new _ _ _).alloc _
    have b2 : Blk ((w.alloc (.cells #[.pointer (some ⟨b, 0, none⟩)] 40)).alloc (.cells #[.int .u64 0] 23)) (w.heap.size + 1) #[.int .u64 0] 23 := by
      have := Blk.new (w.alloc (.cells #[.pointer (some ⟨b, 0, none⟩)] 40)) #[.int .u64 0] 23
      simpa using this
    refine (face_err h2 _ c (en74 _) ?_).mono ?_
    · intro w3 k3
      exact clos_num_err (h2.kept k3 (by simp) (by simp)) hl w.heap.size (w.heap.size + 1) (blk1 (b1.kept k3 (by simp))) hr
    · rintro e w' ⟨rfl, g1, g2⟩
      exact ⟨rfl, g1, b2.kept g2 (by simp; omega), g2⟩
  have HF := hide hface
  clear hface h hl hr
  go_enter Tryz.func113, Tryz.ntmps113
  go_wp2_with fail
  refine (unhide HF).mono ?_
  rintro e w1 ⟨rfl, hrd, hq, hk⟩
  have hc := blk1 hq
  have HR := hide hrd
  clear hq hrd
  go_wp2
  go_ret
  refine ⟨rfl, unhide HR, ?_⟩
  exact ((((Kept.refl [] w).alloc _).alloc _).mono (G := [b]) (by simp)).trans hk (fun x hx => Or.inl hx)

set_option maxRecDepth 100000 in
set_option maxHeartbeats 400000 in
theorem read_any {w : World} {x : Value} {bs : List Nat} (h : Sees w x bs) (hl : bs.length ≤ 140737488355328) :
    Calls Tryz.prog 13 #[x] w fun e w' => ∃ b lv, e = .returned (.pointer (some ⟨b, 0, none⟩)) ∧ Rd w' b lv nilS bs ∧ w.heap.size ≤ b ∧ (∀ k, lv.ownBlock = some k → w.heap.size ≤ k) ∧ Kept [] w w' := by
  have HC := hide (clone_any h hl)
  clear h
  go_enter Tryz.func13, Tryz.ntmps13
  go_wp2_with (first | (go_at_call 39; refine (unhide HC).mono ?_; rintro e w1 ⟨ca, cc, rfl, hfo, hk1⟩))
  go_ret
  have hks := hk1.size
  refine ⟨w1.heap.size, .slice ca bs.length cc, rfl, ⟨Blk.new _ _ _, sees_alloc _ (Sees.of_own hfo), fun e => ?_, hl⟩, hks, fun k hk => (hfo.lt k hk).1, hk1.alloc _⟩
  have := (hfo.lt _ e).2; omega

set_option maxRecDepth 100000 in
set_option maxHeartbeats 400000 in
theorem rdone_ok {w : World} {b : Nat} {lv : Value} {l : List Nat} (h : Rd w b lv nilS l) (c : Nat) (hc : c = if l = [] then 0 else 12) :
    Calls Tryz.prog 46 #[.pointer (some ⟨b, 0, none⟩)] w fun e w' => e = .returned (.int .i64 c) ∧ w = w' := by
  obtain ⟨c0, c1, c2⟩ := blk3 h.blk
  obtain ⟨a, cap, rfl⟩ := sees_len h.see
  unfold nilS at c1
  have hbl := h.bl
  clear h
  by_cases hl : l = []
  · subst hl
    simp at hc
    subst hc
    go_enter Tryz.func46, Tryz.ntmps46
    go_wp2
    go_ret
    exact ⟨rfl, rfl⟩
  · rw [if_neg hl] at hc
    subst hc
    have hp : 0 < l.length := List.length_pos_iff.2 hl
    have hpb : decide (0 < l.length) = true := by simpa using hp
    clear hl
    go_enter Tryz.func46, Tryz.ntmps46
    go_wp2
    go_ret
    exact ⟨rfl, rfl⟩

set_option maxRecDepth 100000 in
set_option maxHeartbeats 400000 in
theorem rdone_fault {w : World} {b c : Nat} (h : RdF w b c) (hc : c ≠ 0) :
    Calls Tryz.prog 46 #[.pointer (some ⟨b, 0, none⟩)] w fun e w' => e = .returned (.int .i64 c) ∧ w = w' := by
  obtain ⟨c0, c1, c2⟩ := blk3 h
  have hn : ((c : Int) != 0) = true := by rw [bne_iff_ne]; omega
  clear hc h
  go_enter Tryz.func46, Tryz.ntmps46
  go_wp2
  go_ret
  exact ⟨rfl, rfl⟩

theorem Sees.at {w : World} {xa : Option Addr} {n xc : Nat} {bs : List Nat} (h : Sees w (.slice xa n xc) bs) (k : Nat) (hk : k < bs.length) :
    ∃ b off, xa = some ⟨b, off, none⟩ ∧ w.cell? ⟨b, off + k, none⟩ = some (.int .u8 (bs.getD k 0 : Nat)) := by
  rcases h with ⟨_, h2⟩ | ⟨b, off, cap, hv, _, _, _, hc⟩
  · subst h2; simp at hk
  · cases hv; exact ⟨b, off, rfl, hc k hk⟩

set_option maxRecDepth 100000 in
set_option maxHeartbeats 400000 in
/-- same: are two slices of bytes alike? -/
theorem same_yes {w : World} {x y : Value} {bs : List Nat} (h1 : Sees w x bs) (h2 : Sees w y bs) (hl : bs.length ≤ 140737488355328) :
    Calls Tryz.prog 18 #[x, y] w fun e w' => e = .returned (.bool true) ∧ ∃ m, w' = w.drewN m := by
  obtain ⟨xa, xc, rfl⟩ := sees_len h1
  obtain ⟨ya, yc, rfl⟩ := sees_len h2
  go_enter Tryz.func18, Tryz.ntmps18
  go_wp2
  go_loopw [5] (fun i wr => ∃ k : Nat, k ≤ bs.length ∧ i = .int .i64 k ∧ ∃ m, wr = w.drewN m) (fun i _ => bs.length - (intOf i).toNat)
  case atStart => exact ⟨0, by omega, rfl, 0, rfl⟩
  case round =>
    obtain ⟨k, hk, rfl, m, hq⟩ := hrel
    subst hq
    by_cases hlt : k < bs.length
    · obtain ⟨xb, xo, rfl, hx⟩ := h1.at k hlt
      obtain ⟨yb, yo, rfl, hy⟩ := h2.at k hlt
      generalize bs.getD k 0 = z at hx hy
      clear h1 h2
      go_wp2
      go_quiet (fail)
      go_wp2
      go_roundw
      case rel => exact ⟨k + 1, by omega, by go_num, _, rfl⟩
      case measure => simp [intOf]; omega
    · go_wp2
      go_ret
      exact ⟨rfl, _, rfl⟩
end Go.Proofs.YtfhfkpgfnlmfhaaGreatDoor

/- Plain facts on forms: two numbers that differ in their lowest bit; a form is read back. -/
namespace Go.Proofs.YtfhfkpgfnlmfhaaGreatDoor
open Go.RowKit

theorem form_pair (m : Nat) : ∃ x t, x % 2 = 0 ∧ x < 255 ∧ form (2 * m) = x :: t ∧ form (2 * m + 1) = (x + 1) :: t := by
  by_cases h : 2 * m < 128
  · exact ⟨2 * m, [], by omega, by omega, form_small h, form_small (by omega)⟩
  · refine ⟨2 * m % 128 + 128, form (2 * m / 128), by omega, by omega, form_big (by omega), ?_⟩
    rw [form_big (by omega), show (2 * m + 1) % 128 + 128 = 2 * m % 128 + 128 + 1 by omega, show (2 * m + 1) / 128 = 2 * m / 128 by omega]

theorem xor_one (x : Nat) (h : x < 256) : bits .xor .u8 (x : Int) 1 = ((if x % 2 = 0 then x + 1 else x - 1 : Nat) : Int) := by
  have := u8_xor_nat x 1 h (by omega)
  rw [show ((1 : Nat) : Int) = 1 from rfl] at this
  rw [this]
  have : ∀ m, m < 256 → m ^^^ 1 = (if m % 2 = 0 then m + 1 else m - 1) := by decide +kernel
  rw [this x h]

theorem read_form (n : Nat) : ∀ (k acc : Nat) (rest : List Nat), k ≤ 9 → (k = 9 → n ≤ 1) → (0 < k → 0 < n) → n * 128 ^ k < 18446744073709551616 → readNum k acc (form n ++ rest) = .inr (acc + n * 128 ^ k, rest) := by
  induction n using Nat.strongRecOn with
  | _ n ih =>
    intro k acc rest hk h9 h0 hb
    by_cases h : n < 128
    · rw [form_small h]
      show readNum k acc (n :: rest) = _
      rw [readNum, if_neg (by omega), if_pos h, if_neg (by omega)]
    · rw [form_big (by omega)]
      show readNum k acc ((n % 128 + 128) :: (form (n / 128) ++ rest)) = _
      have hk8 : k ≠ 9 := by intro e; have := h9 e; omega
      rw [readNum, if_neg (by omega), if_neg (by omega)]
      have e1 : n / 128 * 128 ^ (k + 1) + n % 128 * 128 ^ k = n * 128 ^ k := by
        rw [Nat.pow_succ, ← Nat.mul_assoc, Nat.mul_right_comm, ← Nat.add_mul]
        congr 1; omega
      rw [ih (n / 128) (by omega) (k + 1) _ rest (by omega) ?_ (by omega) (by omega)]
      · congr 2
        rw [show (n % 128 + 128) % 128 = n % 128 by omega]; omega
      · intro e9
        have e3 : n / 128 * 128 ^ (k + 1) < 18446744073709551616 := by omega
        have e8 : 128 ^ (k + 1) = 9223372036854775808 := by rw [e9]
        rw [e8] at e3
        clear e1 hb
        omega

theorem read_form0 (n : Nat) (rest : List Nat) (h : n < 18446744073709551616) : readNum 0 0 (form n ++ rest) = .inr (n, rest) := by
  have := read_form n 0 0 rest (by omega) (by omega) (by omega) (by simpa using h)
  simpa using this

/-- A piece of a slice of bytes. -/
theorem Sees.part {w : World} {b off n cap : Nat} {bs : List Nat} (h : Sees w (.slice (some ⟨b, off, none⟩) n cap) bs) (lo m off' cap' : Nat) (hlo : lo + m ≤ bs.length) (hc : m ≤ cap') (hc2 : cap' ≤ cap) (ho : off' = off + lo ∨ m = 0) :
    Sees w (.slice (some ⟨b, off', none⟩) m cap') ((bs.drop lo).take m) := by
  rcases h with ⟨h1, _⟩ | ⟨b', off2, cap2, hv, h1, h2, h3, h4⟩
  · cases h1
  · cases hv
    have hl : ((bs.drop lo).take m).length = m := by simp; omega
    refine Or.inr ⟨b, off', cap', by rw [hl], by omega, by omega, h3, fun j hj => ?_⟩
    rw [hl] at hj
    rcases ho with rfl | rfl
    · have := h4 (lo + j) (by omega)
      rw [show off + lo + j = off + (lo + j) by omega, this]
      simp [hj]
    · omega
end Go.Proofs.YtfhfkpgfnlmfhaaGreatDoor

/- Plain facts on forms: their groups, their ends, their beginnings. -/
namespace Go.Proofs.YtfhfkpgfnlmfhaaGreatDoor
open Go.RowKit

theorem form_drop (n k : Nat) (h : k < (form n).length) : (form n).drop k = form (n / 128 ^ k) := by
  induction k generalizing n with
  | zero => simp
  | succ k ih =>
    by_cases hn : n < 128
    · rw [form_small hn] at h; simp at h
    · rw [form_big (by omega)] at h ⊢
      simp at h
      rw [List.drop_succ_cons, ih _ (by omega), Nat.div_div_eq_div_mul, Nat.pow_succ, Nat.mul_comm 128]

theorem form_end (n : Nat) : n / 128 ^ (form n).length = 0 := by
  induction n using Nat.strongRecOn with
  | _ n ih =>
    by_cases hn : n < 128
    · rw [form_small hn]; simp; omega
    · rw [form_big (by omega)]
      have := ih (n / 128) (by omega)
      rw [List.length_cons, Nat.pow_succ, Nat.mul_comm, ← Nat.div_div_eq_div_mul]
      exact this

/-- The k-th byte, where it is the last one. -/
theorem form_at_last (n k : Nat) (h : k < (form n).length) (hx : n / 128 ^ k < 128) : (form n).getD k 0 = n / 128 ^ k ∧ k + 1 = (form n).length := by
  have e := form_drop n k h
  rw [form_small hx] at e
  have hl := congrArg List.length e
  simp at hl
  refine ⟨?_, by omega⟩
  have := congrArg (fun l => l.getD 0 0) e
  simpa using this

theorem form_at_more (n k : Nat) (h : k < (form n).length) (hx : ¬ n / 128 ^ k < 128) : (form n).getD k 0 = n / 128 ^ k % 128 + 128 ∧ k + 1 < (form n).length := by
  have e := form_drop n k h
  rw [form_big (n := n / 128 ^ k) (by omega)] at e
  have hl := congrArg List.length e
  have hp := form_pos (n / 128 ^ k / 128)
  simp at hl
  refine ⟨?_, by omega⟩
  have := congrArg (fun l => l.getD 0 0) e
  simpa using this

theorem form_last (n : Nat) (h : 1 < (form n).length) : (form n).getD ((form n).length - 1) 0 ≠ 0 := by
  have h1 : (form n).length - 1 < (form n).length := by omega
  by_cases hx : n / 128 ^ ((form n).length - 1) < 128
  · rw [(form_at_last n _ h1 hx).1]
    intro h0
    have h2 : (form n).length - 2 < (form n).length := by omega
    have hy : ¬ n / 128 ^ ((form n).length - 2) < 128 := by
      intro hy
      have := (form_at_last n _ h2 hy).2; omega
    have e : n / 128 ^ ((form n).length - 1) = n / 128 ^ ((form n).length - 2) / 128 := by
      rw [Nat.div_div_eq_div_mul, ← Nat.pow_succ]; congr 2; omega
    rw [e] at h0
    omega
  · have := (form_at_more n _ h1 hx).2; omega

theorem form_get_lt (n k : Nat) (h : k < (form n).length) : (form n).getD k 0 < 256 := by
  refine form_byte n _ ?_
  simp only [List.getD, List.getElem?_eq_getElem h, Option.getD_some]
  exact List.getElem_mem h

theorem read_short (n : Nat) : ∀ (k acc i : Nat), k ≤ 9 → (k = 9 → n ≤ 1) → n * 128 ^ k < 18446744073709551616 → i < (form n).length → readNum k acc ((form n).take i) = .inl 10 := by
  induction n using Nat.strongRecOn with
  | _ n ih =>
    intro k acc i hk h9 hb hi
    by_cases h : n < 128
    · rw [form_small h] at hi ⊢
      have : i = 0 := by simp at hi; exact hi
      subst this; rfl
    · rw [form_big (by omega)] at hi ⊢
      cases i with
      | zero => rfl
      | succ i =>
        simp at hi
        have hk8 : k ≠ 9 := by intro e; have := h9 e; omega
        show readNum k acc ((n % 128 + 128) :: (form (n / 128)).take i) = _
        rw [readNum, if_neg (by omega), if_neg (by omega)]
        have e1 : n / 128 * 128 ^ (k + 1) + n % 128 * 128 ^ k = n * 128 ^ k := by
          rw [Nat.pow_succ, ← Nat.mul_assoc, Nat.mul_right_comm, ← Nat.add_mul]
          congr 1; omega
        refine ih (n / 128) (by omega) (k + 1) _ i (by omega) ?_ (by omega) (by omega)
        intro e9
        have e3 : n / 128 * 128 ^ (k + 1) < 18446744073709551616 := by omega
        have e8 : 128 ^ (k + 1) = 9223372036854775808 := by rw [e9]
        rw [e8] at e3
        clear e1 hb
        omega

theorem read_short0 (n i : Nat) (h : n < 18446744073709551616) (hi : i < (form n).length) : readNum 0 0 ((form n).take i) = .inl 10 :=
  read_short n 0 0 i (by omega) (by omega) (by simpa using h) hi
end Go.Proofs.YtfhfkpgfnlmfhaaGreatDoor

/- The reader's cut. -/
namespace Go.Proofs.YtfhfkpgfnlmfhaaGreatDoor
open Go.RowKit

theorem Sees.cap_of {w : World} {xa : Option Addr} {n xc : Nat} {bs : List Nat} (h : Sees w (.slice xa n xc) bs) : n = bs.length ∧ n ≤ xc ∧ xc ≤ maxLen := by
  rcases h with ⟨h1, h2⟩ | ⟨b, off, cap, hv, h1, h2, _⟩
  · cases h1; subst h2; exact ⟨rfl, Nat.le_refl _, Nat.zero_le _⟩
  · cases hv; exact ⟨rfl, h1, h2⟩

theorem cut_post {w : World} {b : Nat} {bv : Value} {l : List Nat} {bk off cap n off' : Nat} (h : Rd w b (.slice (some ⟨bk, off, none⟩) l.length cap) bv l) (hn : n ≤ l.length) (ho : off' = off + n ∨ cap = n) :
    Sees (w.setCell ⟨b, 0, none⟩ (.slice (some ⟨bk, off', none⟩) (l.length - n) (cap - n))) (.slice (some ⟨bk, off, none⟩) n cap) (l.take n) ∧
      Rd (w.setCell ⟨b, 0, none⟩ (.slice (some ⟨bk, off', none⟩) (l.length - n) (cap - n))) b (.slice (some ⟨bk, off', none⟩) (l.length - n) (cap - n)) bv (l.drop n) := by
  obtain ⟨_, hcap, _⟩ := h.see.cap_of
  have hbk : bk ≠ b := fun e => h.n1 (by rw [← e]; rfl)
  have kk := (Kept.refl [b] w).setCell (p := ⟨b, 0, none⟩) (Or.inl (by simp)) (.slice (some ⟨bk, off', none⟩) (l.length - n) (cap - n))
  have s1 := h.see.kept kk (fun k hk => by cases hk; simp; exact hbk)
  constructor
  · have := s1.part 0 n off cap (by omega) (by omega) (by omega) (Or.inl rfl)
    simpa using this
  · refine ⟨by simpa using h.blk.set 0 (.slice (some ⟨bk, off', none⟩) (l.length - n) (cap - n)), ?_, h.n1, by have := h.bl; simp; omega⟩
    have := s1.part n (l.length - n) off' (cap - n) (by omega) (by omega) (by omega) (by omega)
    rwa [List.take_of_length_le (by simp)] at this

set_option maxRecDepth 100000 in
set_option maxHeartbeats 400000 in
theorem cut_ok {w : World} {b : Nat} {lv bv : Value} {l : List Nat} (h : Rd w b lv bv l) (n : Nat) (hn : n ≤ l.length) :
    Calls Tryz.prog 119 #[.pointer (some ⟨b, 0, none⟩), .int .u64 n] w fun e w' => ∃ a cap, e = .returned (.slice a n cap) ∧ Sees w' (.slice a n cap) (l.take n) ∧ (Value.slice a n cap).ownBlock = lv.ownBlock ∧ ∃ lv', Rd w' b lv' bv (l.drop n) ∧ lv'.ownBlock = lv.ownBlock ∧ Kept [b] w w' := by
  obtain ⟨c0, c1, c2⟩ := blk3 h.blk
  have f0 := h.blk.frozen 0
  have hbl := h.bl
  obtain ⟨a, cap, rfl⟩ := sees_len h.see
  obtain ⟨_, hcap, hmx⟩ := h.see.cap_of
  unfold maxLen at hmx
  have kk := fun u => (Kept.refl [b] w).setCell (p := ⟨b, 0, none⟩) (Or.inl (by simp)) u
  cases a with
  | none =>
    have hl0 : l = [] := by
      rcases h.see with ⟨h1, h2⟩ | ⟨_, _, _, hv, _⟩
      · exact h2
      · cases hv
    subst hl0
    have hn0 : n = 0 := by simpa using hn
    subst hn0
    have hc0 : cap = 0 := by
      rcases h.see with ⟨h1, h2⟩ | ⟨_, _, _, hv, _⟩
      · cases h1; rfl
      · cases hv
    subst hc0
    have HH := hide h
    have HK := hide kk
    clear h kk
    go_enter Tryz.func119, Tryz.ntmps119
    go_wp2
    go_ret
    refine ⟨none, 0, rfl, Or.inl ⟨rfl, rfl⟩, rfl, .slice none 0 0, ⟨?_, Or.inl ⟨rfl, rfl⟩, by simp [Value.ownBlock], by simp⟩, rfl, unhide HK _⟩
    simpa using (unhide HH).blk.set 0 (.slice none 0 0)
  | some ad =>
    obtain ⟨bk, off, rfl⟩ : ∃ bk off, ad = ⟨bk, off, none⟩ := by
      rcases h.see with ⟨h1, h2⟩ | ⟨bk, off, _, hv, _⟩
      · cases h1
      · cases hv; exact ⟨_, _, rfl⟩
    have hbk : bk ≠ b := fun e => h.n1 (by rw [← e]; rfl)
    have hbkl : bk < w.heap.size := (rd_lt h).2 bk rfl
    have j1 : (n : Int) ≤ (l.length : Int) := by omega
    have j2 : (n : Int) ≤ (cap : Int) := by omega
    have HH := hide h
    have HK := hide kk
    by_cases hcn : cap = n
    · subst hcn
      have hln : l.length = cap := by omega
      clear h kk
      have HP := hide (cut_post (off' := off) (n := cap) (unhide HH) (by omega) (Or.inr rfl))
      go_enter Tryz.func119, Tryz.ntmps119
      go_wp2
      go_ret
      have hp := unhide HP
      rw [hln, Nat.sub_self] at hp
      exact ⟨some ⟨bk, off, none⟩, cap, rfl, hp.1, rfl, _, hp.2, rfl, unhide HK _⟩
    · clear h kk
      have HP := hide (cut_post (off' := off + n) (n := n) (unhide HH) (by omega) (Or.inl rfl))
      have hcn' : ¬ cap - n = 0 := by omega
      go_enter Tryz.func119, Tryz.ntmps119
      go_wp2
      go_ret
      exact ⟨some ⟨bk, off, none⟩, cap, rfl, (unhide HP).1, rfl, _, (unhide HP).2, rfl, unhide HK _⟩

theorem run_slice_from_out_q {P : Program} (w : World) (t e : TypeId) (a : Option Addr) (len cap : Nat) (k : IntKind) (l : Int) (h : P.underlying t = some (.slice e)) (ho : l < 0 ∨ (len : Int) < l) :
    ∃ s w', (Instr.slice t (.slice a len cap) (some (.int k l)) none none).run P w = .halt (.panic (boundsValue P (IntKind.i64.wrap l) len s 3)) w' ∧ Quiet w w' := by
  have hn : ¬ (0 ≤ l ∧ l ≤ (len : Int)) := by omega
  obtain ⟨s, w', e1, hq⟩ := run_boundsPanic_q (P := P) (α := Nat) w k l len .sliceB
  have e2 : (Instr.sliceBound (.int k l) len .sliceB).run P w = .halt (.panic (boundsValue P (IntKind.i64.wrap l) len s BoundsCode.sliceB.toNat)) w' := by
    rw [← e1]
    simp [Instr.sliceBound, asIntOf, hn, go_sem]
  refine ⟨s, w', run_slice_of_bounds (w := w) t e a len cap _ _ _ h ?_, hq⟩
  have e3 : (3 : Nat) = BoundsCode.sliceB.toNat := rfl
  rw [e3]
  simp only [Instr.sliceBounds]
  simp [e2]

set_option maxRecDepth 100000 in
set_option maxHeartbeats 400000 in
theorem cut_end {w : World} {b : Nat} {lv bv : Value} {l : List Nat} (h : Rd w b lv bv l) (n : Nat) (hn : ¬ n ≤ l.length) :
    Calls Tryz.prog 119 #[.pointer (some ⟨b, 0, none⟩), .int .u64 n] w fun e w' => (∃ pv, e = .panicked [{ v := .iface 8 pv, recovered := false }]) ∧ Quiet w w' := by
  obtain ⟨c0, c1, c2⟩ := blk3 h.blk
  obtain ⟨a, cap, rfl⟩ := sees_len h.see
  obtain ⟨s, w1, hrun, hq⟩ := run_slice_from_out_q (P := Tryz.prog) w 22 5 a l.length cap .u64 n Tryz.underlying22 (by omega)
  unfold boundsValue at hrun
  rw [Tryz.rtb] at hrun
  clear h
  go_enter Tryz.func119, Tryz.ntmps119
  go_wp2
  exact ⟨rfl, ⟨_, rfl⟩, hq⟩
end Go.Proofs.YtfhfkpgfnlmfhaaGreatDoor
