/- taken: a thing taken out of a reader. -/
import Derived.Test.YtiabhgkndejigabPFp
import Derived.Deep.DeepCutAuto
namespace Go.Proofs.Ytiabhgkndejigab
open Go.RowKit

def TakenP (w : World) (b : Nat) (F : List Nat) (k : Nat) (r : RS × Nat × Int × List Nat) (e : Ending) (w' : World) : Prop :=
  ∃ a cap, e = .returned (.agg #[.int .i64 (k : Nat), .int .u64 (r.2.1 : Nat), .int .i64 r.2.2.1, .slice a r.2.2.2.length cap]) ∧ w'.ownsRow w.heap.size 5 1 (.slice a r.2.2.2.length cap) r.2.2.2.length (u8s r.2.2.2) ∧ RsP w b F r.1 w'

theorem RsP.own {w W w1 w2 : World} {b : Nat} {F G : List Nat} {s' : RS} (kW : Kept [] w W) (hG : ∀ g ∈ G, w.heap.size ≤ g ∧ g < W.heap.size) (hF : ∀ x ∈ F, x < w.heap.size) (h : RsP W b F s' w1) (k : Kept G w1 w2) : RsP w b F s' w2 := by
  obtain ⟨F', h1, h2, h3⟩ := h
  have hn : ∀ x ∈ F', x ∉ G := by
    intro x hx hq
    have := hG x hq
    rcases h3 x hx with h | h
    · have := hF x h; omega
    · omega
  refine ⟨F', h1.kept k hn, ((kW.mono (by simp)).trans h2 (fun x hx => Or.inl hx)).trans k (fun x hx => Or.inr (hG x hx).1), fun x hx => ?_⟩
  rcases h3 x hx with h | h
  · exact Or.inl h
  · right; have := kW.size; omega

theorem own_own {w W w1 w2 : World} {G : List Nat} (kW : Kept [] w W) (hG : ∀ g ∈ G, g < W.heap.size) {v : Value} {bs : List Nat} (h : w1.ownsRow W.heap.size 5 1 v bs.length (u8s bs)) (k : Kept G w1 w2) : w2.ownsRow w.heap.size 5 1 v bs.length (u8s bs) :=
  own_base (own_kept h k (fun x hx hg => by have := (h.lt x hx).1; have := hG x hg; omega)) (fun x hx => by have := (h.lt x hx).1; have := kW.size; omega)

theorem ret_struct {P : Program} {fn : Func} {R : Ending → World → Prop} {a : Act} {w : World} {p : Tmp} {ty : TypeId} {b : Nat} {cs : Array Value} {fs : Array Field}
    (hr : fn.results = #[.cell p ty]) (hp : a.tmps.getD p undef = .pointer (some ⟨b, 0, none⟩)) (hb : Blk w b cs ty)
    (hu : P.underlying ty = some (.struct fs)) (hi : (P.info? ty).map (·.size) = some cs.size) (hd : a.defers = []) (hR : R (.returned (.agg cs)) w) : bodyPost P fn R .ret a w := by
  refine bodyPost_ret (v := .agg cs) ?_ hd hR
  exact results_cell_row hr a.tmps w b ty cs (0, 0) _ hp hb hu rfl hi
theorem infoThing : (Try.prog.info? 35).map (·.size) = some 4 := by kernel_rfl

theorem own_nil (w : World) (base : Nat) : w.ownsRow base 5 1 (.slice none 0 0) 0 (u8s []) := ⟨rfl, Or.inl ⟨rfl, rfl⟩⟩

theorem RsP.kepts {w w1 : World} {b : Nat} {F : List Nat} {s' : RS} (h : RsP w b F s' w1) : Kept F w w1 := h.choose_spec.2.1

/-- The blocks of taken: its own o, its result, its t. -/
structure Box (w W : World) (c0 : Int) (i : Int) : Prop where
  k : Kept [] w W
  n : w.heap.size + 3 ≤ W.heap.size
  r : Blk W (w.heap.size + 1) #[.int .i64 0, .int .u64 0, .int .i64 0, .slice none 0 0] 35
  t : Blk W (w.heap.size + 2) #[.int .i64 c0, .int .u64 0, .int .i64 i, .slice none 0 0] 35
  o : ∃ kd wh, Blk W w.heap.size #[.int .i64 kd, .int .i64 wh, .int .i64 i] 31
theorem Box.new (w : World) (kd wh c i : Int) : Box w (((w.alloc (.cells #[.int .i64 kd, .int .i64 wh, .int .i64 i] 31)).alloc (.cells #[.int .i64 0, .int .u64 0, .int .i64 0, .slice none 0 0] 35)).alloc (.cells #[.int .i64 c, .int .u64 0, .int .i64 i, .slice none 0 0] 35)).drew c i := by
  refine ⟨((((Kept.refl [] w).alloc _).alloc _).alloc _).drew, by simp, ?_, ?_, kd, wh, ?_⟩
  · have := (Blk.new (w.alloc (.cells #[.int .i64 kd, .int .i64 wh, .int .i64 i] 31)) #[.int .i64 0, .int .u64 0, .int .i64 0, .slice none 0 0] 35).alloc (.cells #[.int .i64 c, .int .u64 0, .int .i64 i, .slice none 0 0] 35)
    exact (by simpa using this : Blk (((w.alloc (.cells #[.int .i64 kd, .int .i64 wh, .int .i64 i] 31)).alloc (.cells #[.int .i64 0, .int .u64 0, .int .i64 0, .slice none 0 0] 35)).alloc (.cells #[.int .i64 c, .int .u64 0, .int .i64 i, .slice none 0 0] 35)) (w.heap.size + 1) _ _).kept ((Kept.refl [] _).drew) (by simp)
  · have := Blk.new ((w.alloc (.cells #[.int .i64 kd, .int .i64 wh, .int .i64 i] 31)).alloc (.cells #[.int .i64 0, .int .u64 0, .int .i64 0, .slice none 0 0] 35)) #[.int .i64 c, .int .u64 0, .int .i64 i, .slice none 0 0] 35
    exact (by simpa using this : Blk (((w.alloc (.cells #[.int .i64 kd, .int .i64 wh, .int .i64 i] 31)).alloc (.cells #[.int .i64 0, .int .u64 0, .int .i64 0, .slice none 0 0] 35)).alloc (.cells #[.int .i64 c, .int .u64 0, .int .i64 i, .slice none 0 0] 35)) (w.heap.size + 2) _ _).kept ((Kept.refl [] _).drew) (by simp)
  · exact (((Blk.new w _ _).alloc _).alloc _).kept ((Kept.refl [] _).drew) (by simp)
theorem Box.go {w W W' : World} {c0 i : Int} (h : Box w W c0 i) (k : Kept [] W W') : Box w W' c0 i :=
  ⟨h.k.trans k (by simp), Nat.le_trans h.n k.size, h.r.kept k (by simp), h.t.kept k (by simp), by obtain ⟨kd, wh, h⟩ := h.o; exact ⟨kd, wh, h.kept k (by simp)⟩⟩
theorem Box.call {w W W' : World} {F : List Nat} {c0 i : Int} (h : Box w W c0 i) (hF : ∀ x ∈ F, x < w.heap.size) (k : Kept F W W') : Blk W' (w.heap.size + 1) #[.int .i64 0, .int .u64 0, .int .i64 0, .slice none 0 0] 35 ∧ Blk W' (w.heap.size + 2) #[.int .i64 c0, .int .u64 0, .int .i64 i, .slice none 0 0] 35 :=
  ⟨h.r.kept k (fun hx => by have := hF _ hx; omega), h.t.kept k (fun hx => by have := hF _ hx; omega)⟩


set_option maxRecDepth 100000 in
set_option maxHeartbeats 4000000 in
theorem taken_any {w : World} {b : Nat} {F : List Nat} {s : RS} (h : Rs w b F s) (kd wh i : Int) (hi2 : i ≤ 9223372036854775807) :
    Calls Try.prog 13 #[.pointer (some ⟨b, 0, none⟩), .agg #[.int .i64 kd, .int .i64 wh, .int .i64 i]] w (TakenP w b F (rnd kd 9) (takenS s (rnd kd 9) i)) := by
  have HR := hide (fun w => round_any kd 9 w (by omega) (by omega))
  have hK := rnd_lt kd 9 (by omega)
  generalize rnd kd 9 = K at *
  have HH := hide h
  have HF := hide h.lt
  have HI := hide hi2
  clear h hi2
  go_enter Try.func13, Try.ntmps13
  go_upto_region 1 with fail
  go_cut [5] (fun t wc => t = .pointer (some ⟨w.heap.size + 2, 0, none⟩) ∧ Hid (Box w wc (K : Nat) i))
  case first =>
    go_region_with (first | (go_at_call 11; refine (unhide HR _).mono ?_; rintro e w' ⟨rfl, rfl⟩))
    all_goals
      go_wp2_with fail
      go_meet
      exact ⟨rfl, hide (Box.new w kd wh K i)⟩
  case rest =>
  obtain ⟨rfl, HB⟩ := hcut
  obtain ⟨q0, q1, q2, q3⟩ := blk4 (unhide HB).t
  obtain ⟨kd', wh', ho⟩ := (unhide HB).o
  obtain ⟨o0, o1, o2⟩ := blk3 ho
  clear ho HR
  match K, hK with
  | 0, _ =>
    have HK : ∀ w, Calls Try.prog 29 #[.agg #[.int .i64 0, .int .u64 0, .int .i64 i, .slice none 0 0]] w fun e w' => e = .returned (.int .i64 1) ∧ w' = w.alloc (.cells #[.int .i64 0, .int .u64 0, .int .i64 i, .slice none 0 0] 35) := fun w => kind_any ⟨0, 0, i, none, 0, []⟩ w
    have HC : Hid (∀ W, Hid (Box w W 0 i) → Calls Try.prog 41 #[.pointer (some ⟨b, 0, none⟩)] W fun e w' => e = .returned (.int .i64 ((rByte s).2 : Nat)) ∧ Hid (RsP W b F (rByte s).1 w') ∧ Hid (Blk w' (w.heap.size + 1) #[.int .i64 0, .int .u64 0, .int .i64 0, .slice none 0 0] 35 ∧ Blk w' (w.heap.size + 2) #[.int .i64 0, .int .u64 0, .int .i64 i, .slice none 0 0] 35)) := by
      refine hide fun W hW => ?_
      refine (rbyte_s ((unhide HH).kept (unhide hW).k (by simp))).mono ?_
      rintro e w' ⟨rfl, hp⟩
      exact ⟨rfl, hide hp, hide ((unhide hW).call (unhide HF) hp.kepts)⟩
    obtain ⟨r, hr⟩ : ∃ r, r = rByte s := ⟨_, rfl⟩
    rw [← hr] at HC
    have HRr := hide hr
    clear hr
    have n0 : w.heap.size < wc.heap.size := by have := (unhide HB).n; omega
    have n1 : w.heap.size + 1 < wc.heap.size := by have := (unhide HB).n; omega
    have n2 : w.heap.size + 2 < wc.heap.size := by have := (unhide HB).n; omega
    go_wp2_with (first | (go_at_call 29; refine (HK _).mono ?_; rintro e w' ⟨rfl, rfl⟩))
    refine (unhide HC _ (hide ((unhide HB).go ((Kept.refl [] _).alloc _)))).mono ?_
    rintro e w1 ⟨rfl, HX, HQ⟩
    obtain ⟨t0, t1, t2, t3⟩ := blk4 (unhide HQ).2
    have f1 := Blk.frozen (unhide HQ).2 1
    have f2 := Blk.frozen (unhide HQ).2 2
    have f3 := Blk.frozen (unhide HQ).2 3
    obtain ⟨r0, r1, r2, r3⟩ := blk4 (unhide HQ).1
    have g0 := Blk.frozen (unhide HQ).1 0
    have g1 := Blk.frozen (unhide HQ).1 1
    have g2 := Blk.frozen (unhide HQ).1 2
    have g3 := Blk.frozen (unhide HQ).1 3
    go_wp2
    refine ret_struct (b := w.heap.size + 1) (cs := #[.int .i64 0, .int .u64 0, .int .i64 (r.2 : Nat), .slice none 0 0]) rfl rfl (Blk.set4 ((unhide HQ).1.other _ (by simp) _)) Try.underlying35 infoThing rfl ?_
    unfold takenS
    simp only
    rw [← unhide HRr]
    refine ⟨none, 0, rfl, own_nil _ _, RsP.own (G := [w.heap.size + 1, w.heap.size + 2]) ((unhide HB).k.alloc _) (fun g hg => by have := n2; simp at hg ⊢; omega) (unhide HF) (unhide HX) ?_⟩
    all_goals repeat (first | exact Kept.refl _ _ | refine Kept.setCell ?_ (Or.inl (by simp)) _)
  | 1, _ =>
    have HK : ∀ w, Calls Try.prog 29 #[.agg #[.int .i64 1, .int .u64 0, .int .i64 i, .slice none 0 0]] w fun e w' => e = .returned (.int .i64 2) ∧ w' = w.alloc (.cells #[.int .i64 1, .int .u64 0, .int .i64 i, .slice none 0 0] 35) := fun w => kind_any ⟨1, 0, i, none, 0, []⟩ w
    have HC : Hid (∀ W, Hid (Box w W 1 i) → Calls Try.prog 28 #[.pointer (some ⟨b, 0, none⟩), .int .i64 (1 + rnd i 8 : Nat)] W fun e w' => e = .returned (.int .u64 ((rFixed s (1 + rnd i 8 : Nat)).2 : Nat)) ∧ Hid (RsP W b F (rFixed s (1 + rnd i 8 : Nat)).1 w') ∧ Hid (Blk w' (w.heap.size + 1) #[.int .i64 0, .int .u64 0, .int .i64 0, .slice none 0 0] 35 ∧ Blk w' (w.heap.size + 2) #[.int .i64 1, .int .u64 0, .int .i64 i, .slice none 0 0] 35)) := by
      refine hide fun W hW => ?_
      refine (rfixed_s ((unhide HH).kept (unhide hW).k (by simp)) (1 + rnd i 8 : Nat)).mono ?_
      rintro e w' ⟨rfl, hp⟩
      exact ⟨rfl, hide hp, hide ((unhide hW).call (unhide HF) hp.kepts)⟩
    have HZ : ∀ w, Calls Try.prog 42 #[.agg #[.int .i64 1, .int .u64 0, .int .i64 i, .slice none 0 0]] w fun e w' => e = .returned (.int .i64 (1 + rnd i 8 : Nat)) ∧ w' = w.alloc (.cells #[.int .i64 1, .int .u64 0, .int .i64 i, .slice none 0 0] 35) := fun w => size_any ⟨1, 0, i, none, 0, []⟩ w
    obtain ⟨r, hr⟩ : ∃ r, r = rFixed s (1 + rnd i 8 : Nat) := ⟨_, rfl⟩
    rw [← hr] at HC
    have HRr := hide hr
    clear hr
    have hr8 : 1 + rnd i 8 ≤ 8 := by have := rnd_lt i 8 (by omega); omega
    obtain ⟨r8, h8⟩ : ∃ r8, r8 = 1 + rnd i 8 := ⟨_, rfl⟩
    rw [← h8] at HC HZ hr8
    clear h8
    have n0 : w.heap.size < wc.heap.size := by have := (unhide HB).n; omega
    have n1 : w.heap.size + 1 < wc.heap.size := by have := (unhide HB).n; omega
    have n2 : w.heap.size + 2 < wc.heap.size := by have := (unhide HB).n; omega
    go_wp2_with (first | (go_at_call 29; refine (HK _).mono ?_; rintro e w' ⟨rfl, rfl⟩) | (go_at_call 42; refine (HZ _).mono ?_; rintro e w' ⟨rfl, rfl⟩))
    refine (unhide HC _ (hide ((unhide HB).go (((Kept.refl [] _).alloc _).alloc _)))).mono ?_
    rintro e w1 ⟨rfl, HX, HQ⟩
    obtain ⟨t0, t1, t2, t3⟩ := blk4 (unhide HQ).2
    have f1 := Blk.frozen (unhide HQ).2 1
    have f2 := Blk.frozen (unhide HQ).2 2
    have f3 := Blk.frozen (unhide HQ).2 3
    obtain ⟨r0, r1, r2, r3⟩ := blk4 (unhide HQ).1
    have g0 := Blk.frozen (unhide HQ).1 0
    have g1 := Blk.frozen (unhide HQ).1 1
    have g2 := Blk.frozen (unhide HQ).1 2
    have g3 := Blk.frozen (unhide HQ).1 3
    go_wp2
    refine ret_struct (b := w.heap.size + 1) (cs := #[.int .i64 1, .int .u64 (r.2 : Nat), .int .i64 i, .slice none 0 0]) rfl rfl (Blk.set4 ((unhide HQ).1.other _ (by simp) _)) Try.underlying35 infoThing rfl ?_
    unfold takenS
    simp only
    rw [← unhide HRr]
    refine ⟨none, 0, rfl, own_nil _ _, RsP.own (G := [w.heap.size + 1, w.heap.size + 2]) (((unhide HB).k.alloc _).alloc _) (fun g hg => by have := n2; simp at hg ⊢; omega) (unhide HF) (unhide HX) ?_⟩
    all_goals repeat (first | exact Kept.refl _ _ | refine Kept.setCell ?_ (Or.inl (by simp)) _)
  | 2, _ =>
    have HK : ∀ w, Calls Try.prog 29 #[.agg #[.int .i64 2, .int .u64 0, .int .i64 i, .slice none 0 0]] w fun e w' => e = .returned (.int .i64 3) ∧ w' = w.alloc (.cells #[.int .i64 2, .int .u64 0, .int .i64 i, .slice none 0 0] 35) := fun w => kind_any ⟨2, 0, i, none, 0, []⟩ w
    have HC : Hid (∀ W, Hid (Box w W 2 i) → Calls Try.prog 39 #[.pointer (some ⟨b, 0, none⟩)] W fun e w' => e = .returned (.int .u64 ((rNum s).2 : Nat)) ∧ Hid (RsP W b F (rNum s).1 w') ∧ Hid (Blk w' (w.heap.size + 1) #[.int .i64 0, .int .u64 0, .int .i64 0, .slice none 0 0] 35 ∧ Blk w' (w.heap.size + 2) #[.int .i64 2, .int .u64 0, .int .i64 i, .slice none 0 0] 35)) := by
      refine hide fun W hW => ?_
      refine (rnum_s ((unhide HH).kept (unhide hW).k (by simp))).mono ?_
      rintro e w' ⟨rfl, hp⟩
      exact ⟨rfl, hide hp, hide ((unhide hW).call (unhide HF) hp.kepts)⟩
    obtain ⟨r, hr⟩ : ∃ r, r = rNum s := ⟨_, rfl⟩
    rw [← hr] at HC
    have HRr := hide hr
    clear hr
    have n0 : w.heap.size < wc.heap.size := by have := (unhide HB).n; omega
    have n1 : w.heap.size + 1 < wc.heap.size := by have := (unhide HB).n; omega
    have n2 : w.heap.size + 2 < wc.heap.size := by have := (unhide HB).n; omega
    go_wp2_with (first | (go_at_call 29; refine (HK _).mono ?_; rintro e w' ⟨rfl, rfl⟩))
    refine (unhide HC _ (hide ((unhide HB).go ((Kept.refl [] _).alloc _)))).mono ?_
    rintro e w1 ⟨rfl, HX, HQ⟩
    obtain ⟨t0, t1, t2, t3⟩ := blk4 (unhide HQ).2
    have f1 := Blk.frozen (unhide HQ).2 1
    have f2 := Blk.frozen (unhide HQ).2 2
    have f3 := Blk.frozen (unhide HQ).2 3
    obtain ⟨r0, r1, r2, r3⟩ := blk4 (unhide HQ).1
    have g0 := Blk.frozen (unhide HQ).1 0
    have g1 := Blk.frozen (unhide HQ).1 1
    have g2 := Blk.frozen (unhide HQ).1 2
    have g3 := Blk.frozen (unhide HQ).1 3
    go_wp2
    refine ret_struct (b := w.heap.size + 1) (cs := #[.int .i64 2, .int .u64 (r.2 : Nat), .int .i64 i, .slice none 0 0]) rfl rfl (Blk.set4 ((unhide HQ).1.other _ (by simp) _)) Try.underlying35 infoThing rfl ?_
    unfold takenS
    simp only
    rw [← unhide HRr]
    refine ⟨none, 0, rfl, own_nil _ _, RsP.own (G := [w.heap.size + 1, w.heap.size + 2]) ((unhide HB).k.alloc _) (fun g hg => by have := n2; simp at hg ⊢; omega) (unhide HF) (unhide HX) ?_⟩
    all_goals repeat (first | exact Kept.refl _ _ | refine Kept.setCell ?_ (Or.inl (by simp)) _)
  | 3, _ =>
    have HK : ∀ w, Calls Try.prog 29 #[.agg #[.int .i64 3, .int .u64 0, .int .i64 i, .slice none 0 0]] w fun e w' => e = .returned (.int .i64 4) ∧ w' = w.alloc (.cells #[.int .i64 3, .int .u64 0, .int .i64 i, .slice none 0 0] 35) := fun w => kind_any ⟨3, 0, i, none, 0, []⟩ w
    have HC : Hid (∀ W, Hid (Box w W 3 i) → Calls Try.prog 43 #[.pointer (some ⟨b, 0, none⟩)] W fun e w' => e = .returned (.int .i64 (rInt s).2) ∧ Hid (RsP W b F (rInt s).1 w') ∧ Hid (Blk w' (w.heap.size + 1) #[.int .i64 0, .int .u64 0, .int .i64 0, .slice none 0 0] 35 ∧ Blk w' (w.heap.size + 2) #[.int .i64 3, .int .u64 0, .int .i64 i, .slice none 0 0] 35)) := by
      refine hide fun W hW => ?_
      refine (rint_s ((unhide HH).kept (unhide hW).k (by simp))).mono ?_
      rintro e w' ⟨rfl, hp⟩
      exact ⟨rfl, hide hp, hide ((unhide hW).call (unhide HF) hp.kepts)⟩
    obtain ⟨r, hr⟩ : ∃ r, r = rInt s := ⟨_, rfl⟩
    rw [← hr] at HC
    have HRr := hide hr
    clear hr
    have n0 : w.heap.size < wc.heap.size := by have := (unhide HB).n; omega
    have n1 : w.heap.size + 1 < wc.heap.size := by have := (unhide HB).n; omega
    have n2 : w.heap.size + 2 < wc.heap.size := by have := (unhide HB).n; omega
    go_wp2_with (first | (go_at_call 29; refine (HK _).mono ?_; rintro e w' ⟨rfl, rfl⟩))
    refine (unhide HC _ (hide ((unhide HB).go ((Kept.refl [] _).alloc _)))).mono ?_
    rintro e w1 ⟨rfl, HX, HQ⟩
    obtain ⟨t0, t1, t2, t3⟩ := blk4 (unhide HQ).2
    have f1 := Blk.frozen (unhide HQ).2 1
    have f2 := Blk.frozen (unhide HQ).2 2
    have f3 := Blk.frozen (unhide HQ).2 3
    obtain ⟨r0, r1, r2, r3⟩ := blk4 (unhide HQ).1
    have g0 := Blk.frozen (unhide HQ).1 0
    have g1 := Blk.frozen (unhide HQ).1 1
    have g2 := Blk.frozen (unhide HQ).1 2
    have g3 := Blk.frozen (unhide HQ).1 3
    go_wp2
    refine ret_struct (b := w.heap.size + 1) (cs := #[.int .i64 3, .int .u64 0, .int .i64 r.2, .slice none 0 0]) rfl rfl (Blk.set4 ((unhide HQ).1.other _ (by simp) _)) Try.underlying35 infoThing rfl ?_
    unfold takenS
    simp only
    rw [← unhide HRr]
    refine ⟨none, 0, rfl, own_nil _ _, RsP.own (G := [w.heap.size + 1, w.heap.size + 2]) ((unhide HB).k.alloc _) (fun g hg => by have := n2; simp at hg ⊢; omega) (unhide HF) (unhide HX) ?_⟩
    all_goals repeat (first | exact Kept.refl _ _ | refine Kept.setCell ?_ (Or.inl (by simp)) _)
  | 4, _ =>
    have HK : ∀ w, Calls Try.prog 29 #[.agg #[.int .i64 4, .int .u64 0, .int .i64 i, .slice none 0 0]] w fun e w' => e = .returned (.int .i64 5) ∧ w' = w.alloc (.cells #[.int .i64 4, .int .u64 0, .int .i64 i, .slice none 0 0] 35) := fun w => kind_any ⟨4, 0, i, none, 0, []⟩ w
    have HC : Hid (∀ W, Hid (Box w W 4 i) → Calls Try.prog 44 #[.pointer (some ⟨b, 0, none⟩)] W fun e w' => e = .returned (.float .f64 (rReal s).2) ∧ Hid (RsP W b F (rReal s).1 w') ∧ Hid (Blk w' (w.heap.size + 1) #[.int .i64 0, .int .u64 0, .int .i64 0, .slice none 0 0] 35 ∧ Blk w' (w.heap.size + 2) #[.int .i64 4, .int .u64 0, .int .i64 i, .slice none 0 0] 35)) := by
      refine hide fun W hW => ?_
      refine (rreal_s ((unhide HH).kept (unhide hW).k (by simp))).mono ?_
      rintro e w' ⟨rfl, hp⟩
      exact ⟨rfl, hide hp, hide ((unhide hW).call (unhide HF) hp.kepts)⟩
    obtain ⟨r, hr⟩ : ∃ r, r = rReal s := ⟨_, rfl⟩
    rw [← hr] at HC
    have HRr := hide hr
    clear hr
    have n0 : w.heap.size < wc.heap.size := by have := (unhide HB).n; omega
    have n1 : w.heap.size + 1 < wc.heap.size := by have := (unhide HB).n; omega
    have n2 : w.heap.size + 2 < wc.heap.size := by have := (unhide HB).n; omega
    go_wp2_with (first | (go_at_call 29; refine (HK _).mono ?_; rintro e w' ⟨rfl, rfl⟩))
    refine (unhide HC _ (hide ((unhide HB).go ((Kept.refl [] _).alloc _)))).mono ?_
    rintro e w1 ⟨rfl, HX, HQ⟩
    obtain ⟨t0, t1, t2, t3⟩ := blk4 (unhide HQ).2
    have f1 := Blk.frozen (unhide HQ).2 1
    have f2 := Blk.frozen (unhide HQ).2 2
    have f3 := Blk.frozen (unhide HQ).2 3
    obtain ⟨r0, r1, r2, r3⟩ := blk4 (unhide HQ).1
    have g0 := Blk.frozen (unhide HQ).1 0
    have g1 := Blk.frozen (unhide HQ).1 1
    have g2 := Blk.frozen (unhide HQ).1 2
    have g3 := Blk.frozen (unhide HQ).1 3
    have hfb := fb32
    go_wp2
    refine ret_struct (b := w.heap.size + 1) (cs := #[.int .i64 4, .int .u64 (r.2 : Nat), .int .i64 i, .slice none 0 0]) rfl rfl (Blk.set4 ((unhide HQ).1.other _ (by simp) _)) Try.underlying35 infoThing rfl ?_
    unfold takenS
    simp only
    rw [← unhide HRr]
    refine ⟨none, 0, rfl, own_nil _ _, RsP.own (G := [w.heap.size + 1, w.heap.size + 2]) ((unhide HB).k.alloc _) (fun g hg => by have := n2; simp at hg ⊢; omega) (unhide HF) (unhide HX) ?_⟩
    all_goals repeat (first | exact Kept.refl _ _ | refine Kept.setCell ?_ (Or.inl (by simp)) _)
  | 5, _ =>
    have HK : ∀ w, Calls Try.prog 29 #[.agg #[.int .i64 5, .int .u64 0, .int .i64 i, .slice none 0 0]] w fun e w' => e = .returned (.int .i64 6) ∧ w' = w.alloc (.cells #[.int .i64 5, .int .u64 0, .int .i64 i, .slice none 0 0] 35) := fun w => kind_any ⟨5, 0, i, none, 0, []⟩ w
    have HC : Hid (∀ W, Hid (Box w W 5 i) → Calls Try.prog 23 #[.pointer (some ⟨b, 0, none⟩), .int .i64 (rnd i 9 : Nat)] W fun e w' => ∃ a cap, e = .returned (.slice a (rRaw s (rnd i 9 : Nat)).2.length cap) ∧ Hid (w'.ownsRow W.heap.size 5 1 (.slice a (rRaw s (rnd i 9 : Nat)).2.length cap) (rRaw s (rnd i 9 : Nat)).2.length (u8s (rRaw s (rnd i 9 : Nat)).2)) ∧ Hid (RsP W b F (rRaw s (rnd i 9 : Nat)).1 w') ∧ Hid (Blk w' (w.heap.size + 1) #[.int .i64 0, .int .u64 0, .int .i64 0, .slice none 0 0] 35 ∧ Blk w' (w.heap.size + 2) #[.int .i64 5, .int .u64 0, .int .i64 i, .slice none 0 0] 35)) := by
      refine hide fun W hW => ?_
      refine (rraw_s ((unhide HH).kept (unhide hW).k (by simp)) (rnd i 9 : Nat) (by have := rnd_lt i 9 (by omega); omega)).mono ?_
      rintro e w' ⟨⟨a, cap, rfl, ho⟩, hp⟩
      exact ⟨a, cap, rfl, hide ho, hide hp, hide ((unhide hW).call (unhide HF) hp.kepts)⟩
    have HR9 := hide (fun w => round_any i 9 w (by omega) (by omega))
    obtain ⟨r, hr⟩ : ∃ r, r = rRaw s (rnd i 9 : Nat) := ⟨_, rfl⟩
    rw [← hr] at HC
    have HRr := hide hr
    clear hr
    have hr9 := rnd_lt i 9 (by omega)
    obtain ⟨r9, h9⟩ : ∃ r9, r9 = rnd i 9 := ⟨_, rfl⟩
    rw [← h9] at HC HR9 hr9
    clear h9
    have n0 : w.heap.size < wc.heap.size := by have := (unhide HB).n; omega
    have n1 : w.heap.size + 1 < wc.heap.size := by have := (unhide HB).n; omega
    have n2 : w.heap.size + 2 < wc.heap.size := by have := (unhide HB).n; omega
    go_wp2_with (first | (go_at_call 29; refine (HK _).mono ?_; rintro e w' ⟨rfl, rfl⟩) | (go_at_call 11; refine (unhide HR9 _).mono ?_; rintro e w' ⟨rfl, rfl⟩))
    refine (unhide HC _ (hide ((unhide HB).go ((Kept.refl [] _).alloc _)))).mono ?_
    rintro e w1 ⟨a, cap, rfl, HO, HX, HQ⟩
    obtain ⟨t0, t1, t2, t3⟩ := blk4 (unhide HQ).2
    have f1 := Blk.frozen (unhide HQ).2 1
    have f2 := Blk.frozen (unhide HQ).2 2
    have f3 := Blk.frozen (unhide HQ).2 3
    obtain ⟨r0, r1, r2, r3⟩ := blk4 (unhide HQ).1
    have g0 := Blk.frozen (unhide HQ).1 0
    have g1 := Blk.frozen (unhide HQ).1 1
    have g2 := Blk.frozen (unhide HQ).1 2
    have g3 := Blk.frozen (unhide HQ).1 3
    go_wp2
    refine ret_struct (b := w.heap.size + 1) (cs := #[.int .i64 5, .int .u64 0, .int .i64 i, .slice a r.2.length cap]) rfl rfl (Blk.set4 ((unhide HQ).1.other _ (by simp) _)) Try.underlying35 infoThing rfl ?_
    unfold takenS
    simp only
    rw [← unhide HRr]
    refine ⟨a, cap, rfl, own_own (G := [w.heap.size + 1, w.heap.size + 2]) ((unhide HB).k.alloc _) (fun g hg => by have := n2; simp at hg ⊢; omega) (unhide HO) ?_, RsP.own (G := [w.heap.size + 1, w.heap.size + 2]) ((unhide HB).k.alloc _) (fun g hg => by have := n2; simp at hg ⊢; omega) (unhide HF) (unhide HX) ?_⟩
    all_goals repeat (first | exact Kept.refl _ _ | refine Kept.setCell ?_ (Or.inl (by simp)) _)
  | 6, _ =>
    have HK : ∀ w, Calls Try.prog 29 #[.agg #[.int .i64 6, .int .u64 0, .int .i64 i, .slice none 0 0]] w fun e w' => e = .returned (.int .i64 7) ∧ w' = w.alloc (.cells #[.int .i64 6, .int .u64 0, .int .i64 i, .slice none 0 0] 35) := fun w => kind_any ⟨6, 0, i, none, 0, []⟩ w
    have HC : Hid (∀ W, Hid (Box w W 6 i) → Calls Try.prog 36 #[.pointer (some ⟨b, 0, none⟩), .int .i64 i] W fun e w' => ∃ a cap, e = .returned (.slice a (rText s i).2.length cap) ∧ Hid (w'.ownsRow W.heap.size 5 1 (.slice a (rText s i).2.length cap) (rText s i).2.length (u8s (rText s i).2)) ∧ Hid (RsP W b F (rText s i).1 w') ∧ Hid (Blk w' (w.heap.size + 1) #[.int .i64 0, .int .u64 0, .int .i64 0, .slice none 0 0] 35 ∧ Blk w' (w.heap.size + 2) #[.int .i64 6, .int .u64 0, .int .i64 i, .slice none 0 0] 35)) := by
      refine hide fun W hW => ?_
      refine (rtext_s ((unhide HH).kept (unhide hW).k (by simp)) i (unhide HI)).mono ?_
      rintro e w' ⟨⟨a, cap, rfl, ho⟩, hp⟩
      exact ⟨a, cap, rfl, hide ho, hide hp, hide ((unhide hW).call (unhide HF) hp.kepts)⟩
    obtain ⟨r, hr⟩ : ∃ r, r = rText s i := ⟨_, rfl⟩
    rw [← hr] at HC
    have HRr := hide hr
    clear hr
    have n0 : w.heap.size < wc.heap.size := by have := (unhide HB).n; omega
    have n1 : w.heap.size + 1 < wc.heap.size := by have := (unhide HB).n; omega
    have n2 : w.heap.size + 2 < wc.heap.size := by have := (unhide HB).n; omega
    go_wp2_with (first | (go_at_call 29; refine (HK _).mono ?_; rintro e w' ⟨rfl, rfl⟩))
    refine (unhide HC _ (hide ((unhide HB).go ((Kept.refl [] _).alloc _)))).mono ?_
    rintro e w1 ⟨a, cap, rfl, HO, HX, HQ⟩
    obtain ⟨t0, t1, t2, t3⟩ := blk4 (unhide HQ).2
    have f1 := Blk.frozen (unhide HQ).2 1
    have f2 := Blk.frozen (unhide HQ).2 2
    have f3 := Blk.frozen (unhide HQ).2 3
    obtain ⟨r0, r1, r2, r3⟩ := blk4 (unhide HQ).1
    have g0 := Blk.frozen (unhide HQ).1 0
    have g1 := Blk.frozen (unhide HQ).1 1
    have g2 := Blk.frozen (unhide HQ).1 2
    have g3 := Blk.frozen (unhide HQ).1 3
    go_wp2
    refine ret_struct (b := w.heap.size + 1) (cs := #[.int .i64 6, .int .u64 0, .int .i64 i, .slice a r.2.length cap]) rfl rfl (Blk.set4 ((unhide HQ).1.other _ (by simp) _)) Try.underlying35 infoThing rfl ?_
    unfold takenS
    simp only
    rw [← unhide HRr]
    refine ⟨a, cap, rfl, own_own (G := [w.heap.size + 1, w.heap.size + 2]) ((unhide HB).k.alloc _) (fun g hg => by have := n2; simp at hg ⊢; omega) (unhide HO) ?_, RsP.own (G := [w.heap.size + 1, w.heap.size + 2]) ((unhide HB).k.alloc _) (fun g hg => by have := n2; simp at hg ⊢; omega) (unhide HF) (unhide HX) ?_⟩
    all_goals repeat (first | exact Kept.refl _ _ | refine Kept.setCell ?_ (Or.inl (by simp)) _)
  | 7, _ =>
    have HK : ∀ w, Calls Try.prog 29 #[.agg #[.int .i64 7, .int .u64 0, .int .i64 i, .slice none 0 0]] w fun e w' => e = .returned (.int .i64 8) ∧ w' = w.alloc (.cells #[.int .i64 7, .int .u64 0, .int .i64 i, .slice none 0 0] 35) := fun w => kind_any ⟨7, 0, i, none, 0, []⟩ w
    have HC : Hid (∀ W, Hid (Box w W 7 i) → Calls Try.prog 21 #[.pointer (some ⟨b, 0, none⟩)] W fun e w' => e = .returned (.int .i64 ((rEnter s).2 : Nat)) ∧ Hid (RsP W b F (rEnter s).1 w') ∧ Hid (Blk w' (w.heap.size + 1) #[.int .i64 0, .int .u64 0, .int .i64 0, .slice none 0 0] 35 ∧ Blk w' (w.heap.size + 2) #[.int .i64 7, .int .u64 0, .int .i64 i, .slice none 0 0] 35)) := by
      refine hide fun W hW => ?_
      refine (renter_s ((unhide HH).kept (unhide hW).k (by simp))).mono ?_
      rintro e w' ⟨rfl, hp⟩
      exact ⟨rfl, hide hp, hide ((unhide hW).call (unhide HF) hp.kepts)⟩
    obtain ⟨r, hr⟩ : ∃ r, r = rEnter s := ⟨_, rfl⟩
    rw [← hr] at HC
    have HRr := hide hr
    clear hr
    have n0 : w.heap.size < wc.heap.size := by have := (unhide HB).n; omega
    have n1 : w.heap.size + 1 < wc.heap.size := by have := (unhide HB).n; omega
    have n2 : w.heap.size + 2 < wc.heap.size := by have := (unhide HB).n; omega
    go_wp2_with (first | (go_at_call 29; refine (HK _).mono ?_; rintro e w' ⟨rfl, rfl⟩))
    refine (unhide HC _ (hide ((unhide HB).go ((Kept.refl [] _).alloc _)))).mono ?_
    rintro e w1 ⟨rfl, HX, HQ⟩
    obtain ⟨t0, t1, t2, t3⟩ := blk4 (unhide HQ).2
    have f1 := Blk.frozen (unhide HQ).2 1
    have f2 := Blk.frozen (unhide HQ).2 2
    have f3 := Blk.frozen (unhide HQ).2 3
    obtain ⟨r0, r1, r2, r3⟩ := blk4 (unhide HQ).1
    have g0 := Blk.frozen (unhide HQ).1 0
    have g1 := Blk.frozen (unhide HQ).1 1
    have g2 := Blk.frozen (unhide HQ).1 2
    have g3 := Blk.frozen (unhide HQ).1 3
    go_wp2
    refine ret_struct (b := w.heap.size + 1) (cs := #[.int .i64 7, .int .u64 0, .int .i64 i, .slice none 0 0]) rfl rfl (Blk.set4 (unhide HQ).1) Try.underlying35 infoThing rfl ?_
    unfold takenS
    simp only
    rw [← unhide HRr]
    refine ⟨none, 0, rfl, own_nil _ _, RsP.own (G := [w.heap.size + 1, w.heap.size + 2]) ((unhide HB).k.alloc _) (fun g hg => by have := n2; simp at hg ⊢; omega) (unhide HF) (unhide HX) ?_⟩
    all_goals repeat (first | exact Kept.refl _ _ | refine Kept.setCell ?_ (Or.inl (by simp)) _)
  | 8, _ =>
    have HK : ∀ w, Calls Try.prog 29 #[.agg #[.int .i64 8, .int .u64 0, .int .i64 i, .slice none 0 0]] w fun e w' => e = .returned (.int .i64 9) ∧ w' = w.alloc (.cells #[.int .i64 8, .int .u64 0, .int .i64 i, .slice none 0 0] 35) := fun w => kind_any ⟨8, 0, i, none, 0, []⟩ w
    have HC : Hid (∀ W, Hid (Box w W 8 i) → Calls Try.prog 22 #[.pointer (some ⟨b, 0, none⟩)] W fun e w' => e = .returned (.tuple #[]) ∧ Hid (RsP W b F (rLeave s) w') ∧ Hid (Blk w' (w.heap.size + 1) #[.int .i64 0, .int .u64 0, .int .i64 0, .slice none 0 0] 35 ∧ Blk w' (w.heap.size + 2) #[.int .i64 8, .int .u64 0, .int .i64 i, .slice none 0 0] 35)) := by
      refine hide fun W hW => ?_
      refine (rleave_s ((unhide HH).kept (unhide hW).k (by simp))).mono ?_
      rintro e w' ⟨rfl, hp⟩
      exact ⟨rfl, hide hp, hide ((unhide hW).call (unhide HF) hp.kepts)⟩
    have n0 : w.heap.size < wc.heap.size := by have := (unhide HB).n; omega
    have n1 : w.heap.size + 1 < wc.heap.size := by have := (unhide HB).n; omega
    have n2 : w.heap.size + 2 < wc.heap.size := by have := (unhide HB).n; omega
    go_wp2_with (first | (go_at_call 29; refine (HK _).mono ?_; rintro e w' ⟨rfl, rfl⟩))
    refine (unhide HC _ (hide ((unhide HB).go ((Kept.refl [] _).alloc _)))).mono ?_
    rintro e w1 ⟨rfl, HX, HQ⟩
    obtain ⟨t0, t1, t2, t3⟩ := blk4 (unhide HQ).2
    have f1 := Blk.frozen (unhide HQ).2 1
    have f2 := Blk.frozen (unhide HQ).2 2
    have f3 := Blk.frozen (unhide HQ).2 3
    obtain ⟨r0, r1, r2, r3⟩ := blk4 (unhide HQ).1
    have g0 := Blk.frozen (unhide HQ).1 0
    have g1 := Blk.frozen (unhide HQ).1 1
    have g2 := Blk.frozen (unhide HQ).1 2
    have g3 := Blk.frozen (unhide HQ).1 3
    go_wp2
    refine ret_struct (b := w.heap.size + 1) (cs := #[.int .i64 8, .int .u64 0, .int .i64 i, .slice none 0 0]) rfl rfl (Blk.set4 (unhide HQ).1) Try.underlying35 infoThing rfl ?_
    unfold takenS
    simp only
    refine ⟨none, 0, rfl, own_nil _ _, RsP.own (G := [w.heap.size + 1, w.heap.size + 2]) ((unhide HB).k.alloc _) (fun g hg => by have := n2; simp at hg ⊢; omega) (unhide HF) (unhide HX) ?_⟩
    all_goals repeat (first | exact Kept.refl _ _ | refine Kept.setCell ?_ (Or.inl (by simp)) _)
end Go.Proofs.Ytiabhgkndejigab
