/- ParcelForms: the walk. -/
import Derived.Test.YtiabhgkndejigabPRf
import Derived.Test.YtiabhgkndejigabPFq
namespace Go.Proofs.Ytiabhgkndejigab
open Go.RowKit

set_option maxRecDepth 100000 in
set_option maxHeartbeats 400000 in
theorem clone_wide {w : World} {x : Value} {bs : List Nat} (h : Wide w x bs) (hl : bs.length ≤ 140737488355328) :
    Calls Try.prog 40 #[x] w fun e w' => ∃ a cap, e = .returned (.slice a bs.length cap) ∧ w'.ownsRow w.heap.size 5 1 (.slice a bs.length cap) bs.length (u8s bs) ∧ Kept [] w w' := by
  rcases h with h | ⟨a0, rfl, rfl⟩
  · exact clone_any h hl
  · obtain ⟨i0, hi, hz0, hz1, hz2⟩ := info_parts Try.info5
    have e0 := fun (a : Option Addr) (n c : Nat) (w : World) => Lib.run_eql_slice_nil (P := Try.prog) w 22 5 a n c 0 0 Try.underlying22
    have hs : Wide (w.alloc (.cells #[] 5)) (.slice (some a0) 0 0) [] := Or.inr ⟨a0, rfl, rfl⟩
    clear hl
    go_enter Try.func40, Try.ntmps40
    go_wp2_with (at_builtin; refine wpList_append_wide _ rfl _ _ 22 rfl w.heap.size 5 i0 (.int .u8 0) Try.underlying22 hi hz0 hz1 hz2 rfl _ [] rfl (World.ownsRow_made w #[] 0 (Nat.le_refl _) (Nat.zero_le _) rfl) _ [] rfl hs ?c1 ?c2 ?_)
    case c1 => simp
    case c2 => simp
    intro v' w1 hown hg hat
    obtain ⟨a, c, hv⟩ := own_len hown
    subst hv
    go_wp2
    go_ret
    exact ⟨a, c, rfl, by simpa using hown, ((Kept.refl [] w).alloc _).grown hg (fun k hk => by simp [Value.ownBlock] at hk; right; omega)⟩

set_option maxRecDepth 100000 in
set_option maxHeartbeats 400000 in
theorem read_w {w : World} {x : Value} {bs : List Nat} (h : Wide w x bs) (hl : bs.length ≤ 140737488355328) (hb : ∀ x ∈ bs, x < 256) :
    Calls Try.prog 9 #[x] w fun e w' => ∃ b F, e = .returned (.pointer (some ⟨b, 0, none⟩)) ∧ Rs w' b F ⟨0, bs, []⟩ ∧ (∀ x ∈ F, w.heap.size ≤ x) ∧ Kept [] w w' := by
  have HC := hide (clone_wide h hl)
  have HB := hide hb
  clear h hb
  go_enter Try.func9, Try.ntmps9
  go_wp2_with (first | (go_at_call 40; refine (unhide HC).mono ?_; rintro e w1 ⟨ca, cc, rfl, hfo, hk1⟩))
  go_ret
  have hks := hk1.size
  have hr : Rd (w1.alloc (.cells #[.slice ca bs.length cc, .slice none 0 0, .int .i64 0] 62)) w1.heap.size (.slice ca bs.length cc) nilS bs :=
    ⟨Blk.new _ _ _, sees_alloc _ (Sees.of_own hfo), fun e => by have := (hfo.lt _ e).2; omega, hl⟩
  refine ⟨w1.heap.size, _, rfl, Or.inr ⟨rfl, unhide HB, by simp, _, nilS, [], _, Rf.new hr, rfl⟩, fun x hx => ?_, hk1.alloc _⟩
  simp only [rfoot, nilS, List.mem_append, List.mem_cons, Option.mem_toList] at hx
  rcases hx with hx | rfl | hx
  · exact (hfo.lt x hx).1
  · exact hks
  · cases hx

theorem Rs.bytes {w : World} {b : Nat} {F : List Nat} {s : RS} (h : Rs w b F s) (h0 : s.fault = 0) : (∀ x ∈ s.left, x < 256) ∧ ∀ r ∈ s.behind, ∀ x ∈ r, x < 256 := by
  rcases h with ⟨h1, _⟩ | ⟨_, h3, h4, _⟩
  · exact absurd h0 h1
  · exact ⟨h3, h4⟩

/-- A beginning of a slice that came in. -/
theorem Wide.cut {w : World} {a : Option Addr} {n cap : Nat} {bs : List Nat} (h : Wide w (.slice a n cap) bs) (m : Nat) (hm : m ≤ bs.length) : Wide w (.slice a m cap) (bs.take m) := by
  rcases h with (⟨h1, rfl⟩ | ⟨b, off, cap', hv, h1, h2, h3, h4⟩) | ⟨a0, hv, rfl⟩
  · cases h1
    simp at hm; subst hm
    exact Or.inl (Or.inl ⟨rfl, rfl⟩)
  · cases hv
    refine Or.inl (Or.inr ⟨b, off, cap, by simp; omega, by simp; omega, h2, h3, fun j hj => ?_⟩)
    have hj' : j < m := by simp at hj; omega
    rw [h4 j (by omega)]
    simp [List.getD, hj']
  · cases hv
    simp at hm; subst hm
    exact Or.inr ⟨a0, rfl, rfl⟩

theorem Both.readX {w W w' : World} {b rb : Nat} {s : WS} {r r' : RS} {F G : List Nat} (h : Ws W b F s ∧ Rs W rb G r ∧ Kept [] w W ∧ (∀ x ∈ F, w.heap.size ≤ x) ∧ (∀ x ∈ G, w.heap.size ≤ x) ∧ ∀ x ∈ F, x ∉ G) (hp : RsP W rb G r' w') :
    ∃ G', Ws w' b F s ∧ Rs w' rb G' r' ∧ Kept [] w w' ∧ (∀ x ∈ F, w.heap.size ≤ x) ∧ (∀ x ∈ G', w.heap.size ≤ x) ∧ ∀ x ∈ F, x ∉ G' := by
  obtain ⟨h1, h2, h3, h4, h5, h6⟩ := h
  obtain ⟨G', g1, g2, g3⟩ := hp
  refine ⟨G', h1.kept g2 h6, g1, h3.trans g2 (fun x hx => Or.inr (h5 x hx)), h4, fun x hx => ?_, fun x hx hg => ?_⟩
  · rcases g3 x hx with h' | h'
    · exact h5 x h'
    · have := h3.size; omega
  · rcases g3 x hg with h' | h'
    · exact h6 x hx h'
    · have := h1.lt x hx; omega

theorem rDone_rF (c : Nat) (hc : c ≠ 0) : rDone (rF c) = c := by rw [rDone, if_pos (by exact hc)]; rfl
theorem rRest_rF (c : Nat) (hc : c ≠ 0) : rRest (rF c) = 0 := by rw [rRest, if_pos (by exact hc)]
/-- All frames have been left. -/
theorem FI.out {p : List Nat} {ws : WS} {r : RS} {fs : List (List Nat × List Nat)} {A : List Nat} (h : FI p ws r fs A) (h0 : fs.length = 0) : p = A ++ r.left ∧ ws = ⟨p.length, A, [], 0⟩ ∧ r.behind = [] := by
  have : fs = [] := List.eq_nil_of_length_eq_zero h0
  subst this
  exact ⟨h.p, by simpa [ahead, starts] using h.ws, h.bh⟩

set_option maxRecDepth 100000 in
set_option maxHeartbeats 4000000 in
theorem forms_walk {w : World} {v v2 : Value} {p : List Nat} {os : List Tk} (h : Wide w v p) (hb : ∀ x ∈ p, x < 256) (hp : p.length ≤ 1000000000) (h2 : RowK w v2 os) :
    Calls Try.prog 3 #[v, v2] w fun e w' => e = .returned (.bool true) ∧ Kept [] w w' := by
  have HP := hide h
  have HB := hide hb
  have HO := hide h2
  obtain ⟨pa, pc, rfl⟩ := wide_len h
  obtain ⟨ra, rc, rfl, hrl, -⟩ := h2
  have hpc : p.length ≤ pc := by
    rcases h with (⟨_, hq⟩ | ⟨b, off, cap', hv, h1, _⟩) | ⟨a0, hv, hq⟩
    · rw [hq]; simp
    · cases hv; exact h1
    · rw [hq]; simp
  clear h hb
  go_enter Try.func3, Try.ntmps3
  go_wp2_with fail
  refine (awake_any _).mono ?_
  rintro e w1 ⟨rfl, hk1⟩
  have HK1 := hide hk1
  clear hk1
  go_wp2_with fail
  refine (read_w ((unhide HP).kept (unhide HK1)) (by omega) (unhide HB)).mono ?_
  rintro e w2 ⟨rb, G, rfl, hr2, hg2, hk2⟩
  have HR2 := hide (And.intro hr2 (And.intro hg2 hk2))
  clear hr2 hg2 hk2
  go_wp2_with fail
  refine (new_s p.length _ (by omega)).mono ?_
  rintro e w3 ⟨b, rfl, hw3, hb3, hk3⟩
  have HB3 : Hid (Both w1 b (newWS p.length) rb ⟨0, p, []⟩ w3) := hide (by
    obtain ⟨r1, r2, r3⟩ := unhide HR2
    have hs := r3.size
    exact ⟨[b], G, hw3, r1.kept hk3 (by simp), r3.trans hk3 (by simp), by simp; omega, r2, fun x hx hg => by
      simp at hx; subst hx
      have := r1.lt x hg; omega⟩)
  clear hw3 hb3 hk3 HR2
  go_wp2
  go_loopw [7, 8] (fun dv i wr => ∃ (k : Nat) (ws : WS) (r : RS) (fs : List (List Nat × List Nat)) (A : List Nat), k ≤ os.length ∧ fs.length ≤ 16 ∧ i = .int .i64 k ∧ dv = .int .i64 (fs.length : Nat) ∧ Hid (FI p ws r fs A ∧ Both w1 b ws rb r wr)) (fun _ i _ => os.length - (intOf i).toNat)
  case atStart => exact ⟨0, newWS p.length, ⟨0, p, []⟩, [], [], by omega, by simp, rfl, rfl, hide ⟨FI.new p, unhide HB3⟩⟩
  case round =>
    clear HB3
    obtain ⟨k, ws, r, fs, A, hk, hd16, rfl, rfl, HI⟩ := hrel
    by_cases hlt : k < os.length
    · obtain ⟨F, G, o1, o2, o3, o4, o5, o6⟩ := (unhide HI).2
      have HX := hide (And.intro o1 (And.intro o2 (And.intro o3 (And.intro o4 (And.intro o5 o6)))))
      have HKr := hide ((unhide HK1).trans o3 (by simp))
      clear o1 o2 o3 o4 o5 o6
      obtain ⟨ra', rc', hv', -, hrow⟩ := (unhide HO).kept (unhide HKr)
      obtain ⟨hok, vb, off, ha, hvb, q0, q1, q2⟩ := hrow k os[k] (List.getElem?_eq_getElem hlt)
      cases hv'
      subst ha
      clear hrow
      have HOK := hide hok
      clear hok
      generalize os[k] = t at *
      have HR := hide (fun w => round_any t.kind 9 w (by omega) (by omega))
      have hK9 := rnd_lt t.kind 9 (by omega)
      have HT := hide (fun W (kW : Kept [] wr W) => taken_any ((unhide HX).2.1.kept kW (by simp)) t.kind t.which t.i (unhide HOK).i2)
      have HRS := hide (rrest_s (unhide HX).2.1)
      have hf0 := (unhide HI).1.ok
      have hrr : rRest r = r.left.length := by rw [rRest, if_neg (by omega)]
      rw [hrr] at HRS
      have hbyt := (unhide HX).2.1.bytes hf0
      have HBY := hide hbyt
      have hlp : r.left.length ≤ p.length := by have := (unhide HI).1.inv.2.2.2; omega
      obtain ⟨L, hL⟩ : ∃ L, L = r.left.length := ⟨_, rfl⟩
      rw [← hL] at HRS hlp
      have HL := hide hL
      have HF0 := hide hf0
      clear hrr hf0 hbyt hL
      obtain ⟨D, hD⟩ : ∃ D, D = fs.length := ⟨_, rfl⟩
      rw [← hD] at hd16
      have HD := hide hD
      rw [← hD]
      clear hD
      generalize hKd : rnd t.kind 9 = K at *
      clear hKd
      rcases (by omega : (K = 8 ∧ D = 0) ∨ (K = 8 ∧ D ≠ 0 ∧ 0 < L) ∨ (K = 7 ∧ D = 16) ∨ (K = 8 ∧ D ≠ 0 ∧ L = 0) ∨ (K = 7 ∧ D ≠ 16) ∨ K = 0 ∨ (K ≠ 0 ∧ K < 7)) with hK | hK | hK | hK | hK | hK | hK
      · obtain ⟨rfl, hD0⟩ := hK
        have d1 : ((D : Int) == 0) = true := by rw [beq_iff_eq]; omega
        clear hD0
        go_wp2_with (first | (go_at_call 11; refine (unhide HR _).mono ?_; rintro e w' ⟨rfl, rfl⟩) | (go_at_call 12; refine (unhide HRS).mono ?_; rintro e w' ⟨rfl, rfl⟩))
        refine ⟨⟨k + 1, ws, r, fs, A, by omega, by rw [← unhide HD]; exact hd16, by go_num, by rw [← unhide HD], HI⟩, by simp [intOf]; omega⟩
      · obtain ⟨rfl, hD0, hL0⟩ := hK
        have d1 : ((D : Int) == 0) = false := by rw [beq_eq_false_iff_ne]; omega
        have d2 : decide (0 < L) = true := by simpa using hL0
        clear hD0
        go_wp2_with (first | (go_at_call 11; refine (unhide HR _).mono ?_; rintro e w' ⟨rfl, rfl⟩) | (go_at_call 12; refine (unhide HRS).mono ?_; rintro e w' ⟨rfl, rfl⟩))
        refine ⟨⟨k + 1, ws, r, fs, A, by omega, by rw [← unhide HD]; exact hd16, by go_num, by rw [← unhide HD], HI⟩, by simp [intOf]; omega⟩
      · obtain ⟨rfl, hD0⟩ := hK
        have d1 : ((D : Int) == 16) = true := by rw [beq_iff_eq]; omega
        clear hD0
        go_wp2_with (first | (go_at_call 11; refine (unhide HR _).mono ?_; rintro e w' ⟨rfl, rfl⟩) | (go_at_call 12; refine (unhide HRS).mono ?_; rintro e w' ⟨rfl, rfl⟩))
        refine ⟨⟨k + 1, ws, r, fs, A, by omega, by rw [← unhide HD]; exact hd16, by go_num, by rw [← unhide HD], HI⟩, by simp [intOf]; omega⟩
      · obtain ⟨rfl, hD0, rfl⟩ := hK
        have d1 : ((D : Int) == 0) = false := by rw [beq_eq_false_iff_ne]; omega
        have HSK : Hid ((8 : Nat) = 8 → 0 < fs.length ∧ r.left = []) := hide fun _ => ⟨by rw [← unhide HD]; omega, List.eq_nil_of_length_eq_zero (unhide HL).symm⟩
        have HS7 : Hid ((8 : Nat) = 7 → fs.length ≠ 16) := hide fun e => by omega
        have HST := hide (fun a c => step_forms (unhide HI).1 (unhide HBY).1 (unhide HBY).2 (by rw [← unhide HD]; exact hd16) 8 (by omega) t.i a c (unhide HSK) (unhide HS7))
        have HOKT := hide (fun a c => takenS_ok r (unhide HBY).1 8 (by omega) t.i (unhide HOK).i1 (unhide HOK).i2 a c)
        have HI0 : Hid ((8 : Nat) = 0 → 0 ≤ (takenS r 8 t.i).2.2.1 ∧ (takenS r 8 t.i).2.2.1 ≤ 255) := hide fun e => by omega
        have hrem : TakenP = fun (w : World) (b : Nat) (F : List Nat) (k : Nat) (r : RS × Nat × Int × List Nat) (e : Ending) (w' : World) => ∃ a cap, e = .returned (.agg #[.int .i64 (k : Nat), .int .u64 (r.2.1 : Nat), .int .i64 r.2.2.1, .slice a r.2.2.2.length cap]) ∧ w'.ownsRow w.heap.size 5 1 (.slice a r.2.2.2.length cap) r.2.2.2.length (u8s r.2.2.2) ∧ RsP w b F r.1 w' := rfl
        rw [hrem] at HT
        clear hrem
        generalize takenS r 8 t.i = T at *
        obtain ⟨r', n', I', P'⟩ := T
        simp only at HT HST HOKT HI0
        go_wp2_with (first | (go_at_call 11; refine (unhide HR _).mono ?_; rintro e w' ⟨rfl, rfl⟩) | (go_at_call 12; refine (unhide HRS).mono ?_; rintro e w' ⟨rfl, rfl⟩))
        refine (unhide HT _ (Kept.refl _ _)).mono ?_
        rintro e w4 ⟨ta, tc, rfl, ho4, hp4⟩
        obtain ⟨G', hX4⟩ := Both.readX (unhide HX) hp4
        have HX4 := hide hX4
        have HOW := hide ho4
        clear hX4 hp4 ho4 HT q0 q1 q2
        have HDN := hide (fun W (kW : Kept [] w4 W) => rdone_s ((unhide HX4).2.1.kept kW (by simp)))
        have HRN := hide (fun W (kW : Kept [] w4 W) => rrest_s ((unhide HX4).2.1.kept kW (by simp)))
        rcases unhide HST ta tc with hbad | ⟨fs', A', hFI, hl16, hs7, hs8, hs0⟩
        · clear HOKT HI0 HST
          rcases hbad with rfl | rfl
          all_goals
            rw [rDone_rF _ (by omega)] at HDN
            rw [rRest_rF _ (by omega)] at HRN
            go_wp2_with (first | (go_at_call 14; refine (unhide HDN _ ?_).mono ?_; (repeat (first | exact Kept.refl _ _ | refine Kept.alloc ?_ _)); rintro e w' ⟨rfl, rfl⟩) | (go_at_call 12; refine (unhide HRN _ ?_).mono ?_; (repeat (first | exact Kept.refl _ _ | refine Kept.alloc ?_ _)); rintro e w' ⟨rfl, rfl⟩))
            go_ret
            exact ⟨rfl, ((unhide HK1).trans (unhide HX4).2.2.1 (by simp)).alloc _⟩
        · have hf' := hFI.ok
          have hE : rDone r' = if r'.left = [] ∧ r'.behind = [] then 0 else 12 := by rw [rDone, if_neg (by omega)]
          have hR' : rRest r' = r'.left.length := by rw [rRest, if_neg (by omega)]
          obtain ⟨E, hEE⟩ : ∃ E, E = rDone r' := ⟨_, rfl⟩
          obtain ⟨L', hL'⟩ : ∃ L', L' = r'.left.length := ⟨_, rfl⟩
          rw [← hEE] at HDN
          rw [hR', ← hL'] at HRN
          have hE2 : E = 0 ∨ E = 12 := by rw [hEE, hE]; split; exact Or.inl rfl; exact Or.inr rfl
          have HE2 := hide hE2
          have HEE := hide (hEE.trans hE)
          have HL' := hide hL'
          have HFI := hide hFI
          have hokt := unhide HOKT ta tc
          have hinv := (unhide HI).1.inv
          have hlp' : L' ≤ p.length := by have := hFI.inv.2.2.2; omega
          have HLAY : Hid (Calls Try.prog 15 #[.agg #[.int .i64 8, .int .u64 (n' : Nat), .int .i64 I', .slice ta P'.length tc], .pointer (some ⟨b, 0, none⟩)] (w4.alloc (.cells #[.int .i64 8, .int .u64 (n' : Nat), .int .i64 I', .slice ta P'.length tc] 35)) fun e w' => e = .returned (.tuple #[]) ∧ Both w1 b ((thOf 8 (r', n', I', P') ta tc).lay ws) rb r' w') := by
            refine hide ?_
            have k4 : Kept [] w4 (w4.alloc (.cells #[.int .i64 8, .int .u64 (n' : Nat), .int .i64 I', .slice ta P'.length tc] 35)) := (Kept.refl [] w4).alloc _
            have hsee := Sees.of_own (unhide HOW)
            refine (tlay_s ((unhide HX4).1.kept k4 (by simp)) (thOf 8 (r', n', I', P') ta tc) hokt.1 (Or.inl ⟨hsee.kept k4 (by simp), fun x hx hF => ?_⟩) (by have := hinv.2.1; omega) (by have := hokt.2; have := hinv.2.2.2; show P'.length ≤ _; omega) hinv.1).mono ?_
            · have h1 := (unhide HX).1.lt x hF
              have h2 := ((unhide HOW).lt x hx).1
              omega
            · rintro e w' ⟨rfl, hp⟩
              obtain ⟨o1, o2, o3, o4, o5, o6⟩ := unhide HX4
              exact ⟨rfl, Both.write (o1.kept k4 (by simp)) (o2.kept k4 (by simp)) (o3.trans k4 (by simp)) o4 o5 o6 hp⟩
          generalize hws : (thOf 8 (r', n', I', P') ta tc).lay ws = ws' at *
          clear hws hokt hinv hE hR' hE2 hEE hL' hFI hf' HOKT HST HX
          have hs : fs'.length + 1 = D := by rw [unhide HD]; exact hs8 (by simp)
          obtain ⟨D', hD'⟩ : ∃ D', D' = fs'.length := ⟨_, rfl⟩
          rw [← hD'] at hl16
          obtain rfl : D = D' + 1 := by omega
          clear hs
          have HD' := hide hD'
          clear hD' HD
          go_upto_region 13 with (first | (go_at_call 14; refine (unhide HDN _ ?_).mono ?_; (repeat (first | exact Kept.refl _ _ | refine Kept.alloc ?_ _)); rintro e w' ⟨rfl, rfl⟩))
          go_cut [67] (fun t wc => t = .bool false ∧ Hid (w4.alloc (.cells #[.int .i64 8, .int .u64 (n' : Nat), .int .i64 I', .slice ta P'.length tc] 35) = wc))
          case first =>
            clear HLAY HDN HRN
            rcases unhide HE2 with rfl | rfl
            all_goals
              go_wp2
              go_meet
              exact ⟨rfl, hide rfl⟩
          case rest =>
          obtain ⟨rfl, HW⟩ := hcut
          have hW := unhide HW
          clear HW
          subst hW
          skip
          go_wp2_with fail
          refine (unhide HLAY).mono ?_
          rintro e w5 ⟨rfl, hb5⟩
          have HB5 := hide hb5
          clear hb5 HLAY
          have HRN5 := hide (fun W (kW : Kept [] w5 W) => (by
            obtain ⟨_, G5, _, o2, _⟩ := (unhide HB5).kept kW
            have h1 := rrest_s o2
            have h2 : rRest r' = L' := by rw [rRest, if_neg (by have := (unhide HFI).ok; omega), unhide HL']
            rw [h2] at h1
            exact h1 : Calls Try.prog 12 #[.pointer (some ⟨rb, 0, none⟩)] W fun e w' => e = .returned (.int .i64 (L' : Nat)) ∧ W = w'))
          clear HDN HRN HE2
          by_cases hz : D' = 0
          · have hFo := (unhide HFI).out (by rw [← unhide HD']; exact hz)
            have hpl : p.length = A'.length + L' := by rw [hFo.1, List.length_append, unhide HL']
            have HWD := hide (fun W (kW : Kept [] w5 W) => (by
              obtain ⟨F5, _, o1, _⟩ := (unhide HB5).kept kW
              have h1 := wdone_okS o1 (by rw [hFo.2.1]) (by rw [hFo.2.1])
              rw [hFo.2.1] at h1
              exact h1 : Calls Try.prog 16 #[.pointer (some ⟨b, 0, none⟩)] W fun e w' => ∃ a cap, e = .returned (.tuple #[.slice a A'.length cap, .int .i64 0]) ∧ w'.ownsRow W.heap.size 5 1 (.slice a A'.length cap) A'.length (u8s A') ∧ Kept [] W w'))
            have hEE : E = if L' = 0 then 0 else 12 := by
              rw [unhide HEE, hFo.2.2, unhide HL']
              simp
            have htk : p.take A'.length = A' := by
              conv => lhs; rw [hFo.1]
              rw [List.take_left' rfl]
            have hwc := Wide.cut (unhide HP) A'.length (by omega)
            rw [htk] at hwc
            have HWC := hide hwc
            have hA5 : A'.length ≤ 1000000000 := by omega
            clear hFo htk hwc
            obtain ⟨AL, hAL⟩ : ∃ AL, AL = A'.length := ⟨_, rfl⟩
            rw [← hAL] at hpl HWD HWC hA5
            have HAL := hide hAL
            clear hAL
            have hsub : (p.length : Int) - (L' : Int) = (AL : Int) := by omega
            have hwr : IntKind.i64.wrap ((p.length : Int) - (L' : Int)) = (AL : Int) := by rw [hsub]; simp [IntKind.wrap_i64]; omega
            have g1 : (decide ((AL : Int) < 0)) = false := by simp
            have g2 : (decide ((p.length : Int) < (AL : Int))) = false := by simp; omega
            have d0 : decide (0 < D') = false := by simp; omega
            have HPL := hide hpl
            clear hpl
            have HEQ := hide hEE
            clear hEE
            by_cases hL0 : L' = 0
            · have hE0 : E = 0 := by rw [unhide HEQ, if_pos hL0]
              have hap : ((AL : Int) == (p.length : Int)) = true := by have := unhide HPL; rw [beq_iff_eq]; omega
              clear HEQ HEE hL0
              subst hE0
              · skip
                go_wp2_with (first | (go_at_call 12; refine (unhide HRN5 _ (Kept.refl _ _)).mono ?_; rintro e w' ⟨rfl, rfl⟩) | (go_at_call 16; refine (unhide HWD _ (Kept.refl _ _)).mono ?_; rintro e w6 ⟨da, dc, rfl, hd6, hk6⟩))
                have k6 := (unhide HK1).trans ((unhide HB5).choose_spec.choose_spec.2.2.1.trans hk6 (by simp)) (by simp)
                have hsee : Sees w6 (.slice da AL dc) A' := Sees.of_own (base := w5.heap.size) (by rw [← unhide HAL]; exact hd6)
                have HS := hide (same_yesE hsee ((unhide HWC).kept k6) (by have := unhide HAL; omega))
                have HK6 := hide hk6
                clear hd6 hk6 k6 hsee
                go_wp2_with (first | (go_at_call 17; refine (unhide HS).mono ?_; rintro e w' ⟨rfl, m7, rfl⟩))
                refine ⟨⟨k + 1, ws', r', fs', A', by omega, by rw [← unhide HD']; omega, by go_num, by rw [← unhide HD']; try (first | rfl | go_num), hide ⟨unhide HFI, (unhide HB5).kept ((unhide HK6).drewN m7)⟩⟩, by simp [intOf]; omega⟩
            · have hE0 : E = 12 := by rw [unhide HEQ, if_neg hL0]
              have hap : ((AL : Int) == (p.length : Int)) = false := by have := unhide HPL; rw [beq_eq_false_iff_ne]; omega
              clear HEQ HEE hL0
              subst hE0
              · skip
                go_wp2_with (first | (go_at_call 12; refine (unhide HRN5 _ (Kept.refl _ _)).mono ?_; rintro e w' ⟨rfl, rfl⟩) | (go_at_call 16; refine (unhide HWD _ (Kept.refl _ _)).mono ?_; rintro e w6 ⟨da, dc, rfl, hd6, hk6⟩))
                have k6 := (unhide HK1).trans ((unhide HB5).choose_spec.choose_spec.2.2.1.trans hk6 (by simp)) (by simp)
                have hsee : Sees w6 (.slice da AL dc) A' := Sees.of_own (base := w5.heap.size) (by rw [← unhide HAL]; exact hd6)
                have HS := hide (same_yesE hsee ((unhide HWC).kept k6) (by have := unhide HAL; omega))
                have HK6 := hide hk6
                clear hd6 hk6 k6 hsee
                go_wp2_with (first | (go_at_call 17; refine (unhide HS).mono ?_; rintro e w' ⟨rfl, m7, rfl⟩))
                refine ⟨⟨k + 1, ws', r', fs', A', by omega, by rw [← unhide HD']; omega, by go_num, by rw [← unhide HD']; try (first | rfl | go_num), hide ⟨unhide HFI, (unhide HB5).kept ((unhide HK6).drewN m7)⟩⟩, by simp [intOf]; omega⟩
          · have d0 : decide (0 < D') = true := by simp; omega
            have d1' : 0 < D' := by omega
            go_wp2
            refine ⟨⟨k + 1, ws', r', fs', A', by omega, by rw [← unhide HD']; omega, by go_num, by rw [← unhide HD']; try (first | rfl | go_num), hide ⟨unhide HFI, unhide HB5⟩⟩, by simp [intOf]; omega⟩
      · obtain ⟨rfl, hD0⟩ := hK
        have d1 : ((D : Int) == 16) = false := by rw [beq_eq_false_iff_ne]; omega
        have HSK : Hid ((7 : Nat) = 8 → 0 < fs.length ∧ r.left = []) := hide fun e => by omega
        have HS7 : Hid ((7 : Nat) = 7 → fs.length ≠ 16) := hide fun _ => by rw [← unhide HD]; exact hD0
        have HST := hide (fun a c => step_forms (unhide HI).1 (unhide HBY).1 (unhide HBY).2 (by rw [← unhide HD]; exact hd16) 7 (by omega) t.i a c (unhide HSK) (unhide HS7))
        have HOKT := hide (fun a c => takenS_ok r (unhide HBY).1 7 (by omega) t.i (unhide HOK).i1 (unhide HOK).i2 a c)
        have HI0 : Hid ((7 : Nat) = 0 → 0 ≤ (takenS r 7 t.i).2.2.1 ∧ (takenS r 7 t.i).2.2.1 ≤ 255) := hide fun e => by omega
        have hrem : TakenP = fun (w : World) (b : Nat) (F : List Nat) (k : Nat) (r : RS × Nat × Int × List Nat) (e : Ending) (w' : World) => ∃ a cap, e = .returned (.agg #[.int .i64 (k : Nat), .int .u64 (r.2.1 : Nat), .int .i64 r.2.2.1, .slice a r.2.2.2.length cap]) ∧ w'.ownsRow w.heap.size 5 1 (.slice a r.2.2.2.length cap) r.2.2.2.length (u8s r.2.2.2) ∧ RsP w b F r.1 w' := rfl
        rw [hrem] at HT
        clear hrem
        generalize takenS r 7 t.i = T at *
        obtain ⟨r', n', I', P'⟩ := T
        simp only at HT HST HOKT HI0
        go_wp2_with (first | (go_at_call 11; refine (unhide HR _).mono ?_; rintro e w' ⟨rfl, rfl⟩) | (go_at_call 12; refine (unhide HRS).mono ?_; rintro e w' ⟨rfl, rfl⟩))
        refine (unhide HT _ (Kept.refl _ _)).mono ?_
        rintro e w4 ⟨ta, tc, rfl, ho4, hp4⟩
        obtain ⟨G', hX4⟩ := Both.readX (unhide HX) hp4
        have HX4 := hide hX4
        have HOW := hide ho4
        clear hX4 hp4 ho4 HT q0 q1 q2
        have HDN := hide (fun W (kW : Kept [] w4 W) => rdone_s ((unhide HX4).2.1.kept kW (by simp)))
        have HRN := hide (fun W (kW : Kept [] w4 W) => rrest_s ((unhide HX4).2.1.kept kW (by simp)))
        rcases unhide HST ta tc with hbad | ⟨fs', A', hFI, hl16, hs7, hs8, hs0⟩
        · clear HOKT HI0 HST
          rcases hbad with rfl | rfl
          all_goals
            rw [rDone_rF _ (by omega)] at HDN
            rw [rRest_rF _ (by omega)] at HRN
            go_wp2_with (first | (go_at_call 14; refine (unhide HDN _ ?_).mono ?_; (repeat (first | exact Kept.refl _ _ | refine Kept.alloc ?_ _)); rintro e w' ⟨rfl, rfl⟩) | (go_at_call 12; refine (unhide HRN _ ?_).mono ?_; (repeat (first | exact Kept.refl _ _ | refine Kept.alloc ?_ _)); rintro e w' ⟨rfl, rfl⟩))
            go_ret
            exact ⟨rfl, ((unhide HK1).trans (unhide HX4).2.2.1 (by simp)).alloc _⟩
        · have hf' := hFI.ok
          have hE : rDone r' = if r'.left = [] ∧ r'.behind = [] then 0 else 12 := by rw [rDone, if_neg (by omega)]
          have hR' : rRest r' = r'.left.length := by rw [rRest, if_neg (by omega)]
          obtain ⟨E, hEE⟩ : ∃ E, E = rDone r' := ⟨_, rfl⟩
          obtain ⟨L', hL'⟩ : ∃ L', L' = r'.left.length := ⟨_, rfl⟩
          rw [← hEE] at HDN
          rw [hR', ← hL'] at HRN
          have hE2 : E = 0 ∨ E = 12 := by rw [hEE, hE]; split; exact Or.inl rfl; exact Or.inr rfl
          have HE2 := hide hE2
          have HEE := hide (hEE.trans hE)
          have HL' := hide hL'
          have HFI := hide hFI
          have hokt := unhide HOKT ta tc
          have hinv := (unhide HI).1.inv
          have hlp' : L' ≤ p.length := by have := hFI.inv.2.2.2; omega
          have HLAY : Hid (Calls Try.prog 15 #[.agg #[.int .i64 7, .int .u64 (n' : Nat), .int .i64 I', .slice ta P'.length tc], .pointer (some ⟨b, 0, none⟩)] (w4.alloc (.cells #[.int .i64 7, .int .u64 (n' : Nat), .int .i64 I', .slice ta P'.length tc] 35)) fun e w' => e = .returned (.tuple #[]) ∧ Both w1 b ((thOf 7 (r', n', I', P') ta tc).lay ws) rb r' w') := by
            refine hide ?_
            have k4 : Kept [] w4 (w4.alloc (.cells #[.int .i64 7, .int .u64 (n' : Nat), .int .i64 I', .slice ta P'.length tc] 35)) := (Kept.refl [] w4).alloc _
            have hsee := Sees.of_own (unhide HOW)
            refine (tlay_s ((unhide HX4).1.kept k4 (by simp)) (thOf 7 (r', n', I', P') ta tc) hokt.1 (Or.inl ⟨hsee.kept k4 (by simp), fun x hx hF => ?_⟩) (by have := hinv.2.1; omega) (by have := hokt.2; have := hinv.2.2.2; show P'.length ≤ _; omega) hinv.1).mono ?_
            · have h1 := (unhide HX).1.lt x hF
              have h2 := ((unhide HOW).lt x hx).1
              omega
            · rintro e w' ⟨rfl, hp⟩
              obtain ⟨o1, o2, o3, o4, o5, o6⟩ := unhide HX4
              exact ⟨rfl, Both.write (o1.kept k4 (by simp)) (o2.kept k4 (by simp)) (o3.trans k4 (by simp)) o4 o5 o6 hp⟩
          generalize hws : (thOf 7 (r', n', I', P') ta tc).lay ws = ws' at *
          clear hws hokt hinv hE hR' hE2 hEE hL' hFI hf' HOKT HST HX
          have hs : fs'.length = D + 1 := by rw [unhide HD]; exact hs7 (by simp)
          obtain ⟨D', hD'⟩ : ∃ D', D' = fs'.length := ⟨_, rfl⟩
          rw [← hD'] at hl16
          obtain rfl : D' = D + 1 := by omega
          clear hs
          have HD' := hide hD'
          clear hD' HD
          go_upto_region 13 with (first | (go_at_call 14; refine (unhide HDN _ ?_).mono ?_; (repeat (first | exact Kept.refl _ _ | refine Kept.alloc ?_ _)); rintro e w' ⟨rfl, rfl⟩))
          go_cut [67] (fun t wc => t = .bool false ∧ Hid (w4.alloc (.cells #[.int .i64 7, .int .u64 (n' : Nat), .int .i64 I', .slice ta P'.length tc] 35) = wc))
          case first =>
            clear HLAY HDN HRN
            rcases unhide HE2 with rfl | rfl
            all_goals
              go_wp2
              go_meet
              exact ⟨rfl, hide rfl⟩
          case rest =>
          obtain ⟨rfl, HW⟩ := hcut
          have hW := unhide HW
          clear HW
          subst hW
          skip
          go_wp2_with fail
          refine (unhide HLAY).mono ?_
          rintro e w5 ⟨rfl, hb5⟩
          have HB5 := hide hb5
          clear hb5 HLAY
          have HRN5 := hide (fun W (kW : Kept [] w5 W) => (by
            obtain ⟨_, G5, _, o2, _⟩ := (unhide HB5).kept kW
            have h1 := rrest_s o2
            have h2 : rRest r' = L' := by rw [rRest, if_neg (by have := (unhide HFI).ok; omega), unhide HL']
            rw [h2] at h1
            exact h1 : Calls Try.prog 12 #[.pointer (some ⟨rb, 0, none⟩)] W fun e w' => e = .returned (.int .i64 (L' : Nat)) ∧ W = w'))
          clear HDN HRN HE2
          have d1' : (0 : Int) < (D : Int) + 1 := by omega
          go_wp2
          refine ⟨⟨k + 1, ws', r', fs', A', by omega, by rw [← unhide HD']; omega, by go_num, by rw [← unhide HD']; try (first | rfl | go_num), hide ⟨unhide HFI, unhide HB5⟩⟩, by simp [intOf]; omega⟩
      · subst hK
        have HSK : Hid ((0 : Nat) = 8 → 0 < fs.length ∧ r.left = []) := hide fun e => by omega
        have HS7 : Hid ((0 : Nat) = 7 → fs.length ≠ 16) := hide fun e => by omega
        have HST := hide (fun a c => step_forms (unhide HI).1 (unhide HBY).1 (unhide HBY).2 (by rw [← unhide HD]; exact hd16) 0 (by omega) t.i a c (unhide HSK) (unhide HS7))
        have HOKT := hide (fun a c => takenS_ok r (unhide HBY).1 0 (by omega) t.i (unhide HOK).i1 (unhide HOK).i2 a c)
        have HI0 : Hid ((0 : Nat) = 0 → 0 ≤ (takenS r 0 t.i).2.2.1 ∧ (takenS r 0 t.i).2.2.1 ≤ 255) := hide fun _ => by have := rByte_lt r (unhide HBY).1; show 0 ≤ ((rByte r).2 : Int) ∧ ((rByte r).2 : Int) ≤ 255; omega
        have hrem : TakenP = fun (w : World) (b : Nat) (F : List Nat) (k : Nat) (r : RS × Nat × Int × List Nat) (e : Ending) (w' : World) => ∃ a cap, e = .returned (.agg #[.int .i64 (k : Nat), .int .u64 (r.2.1 : Nat), .int .i64 r.2.2.1, .slice a r.2.2.2.length cap]) ∧ w'.ownsRow w.heap.size 5 1 (.slice a r.2.2.2.length cap) r.2.2.2.length (u8s r.2.2.2) ∧ RsP w b F r.1 w' := rfl
        rw [hrem] at HT
        clear hrem
        generalize takenS r 0 t.i = T at *
        obtain ⟨r', n', I', P'⟩ := T
        simp only at HT HST HOKT HI0
        go_wp2_with (first | (go_at_call 11; refine (unhide HR _).mono ?_; rintro e w' ⟨rfl, rfl⟩) | (go_at_call 12; refine (unhide HRS).mono ?_; rintro e w' ⟨rfl, rfl⟩))
        refine (unhide HT _ (Kept.refl _ _)).mono ?_
        rintro e w4 ⟨ta, tc, rfl, ho4, hp4⟩
        obtain ⟨G', hX4⟩ := Both.readX (unhide HX) hp4
        have HX4 := hide hX4
        have HOW := hide ho4
        clear hX4 hp4 ho4 HT q0 q1 q2
        have HDN := hide (fun W (kW : Kept [] w4 W) => rdone_s ((unhide HX4).2.1.kept kW (by simp)))
        have HRN := hide (fun W (kW : Kept [] w4 W) => rrest_s ((unhide HX4).2.1.kept kW (by simp)))
        rcases unhide HST ta tc with hbad | ⟨fs', A', hFI, hl16, hs7, hs8, hs0⟩
        · clear HOKT HI0 HST
          rcases hbad with rfl | rfl
          all_goals
            rw [rDone_rF _ (by omega)] at HDN
            rw [rRest_rF _ (by omega)] at HRN
            go_wp2_with (first | (go_at_call 14; refine (unhide HDN _ ?_).mono ?_; (repeat (first | exact Kept.refl _ _ | refine Kept.alloc ?_ _)); rintro e w' ⟨rfl, rfl⟩) | (go_at_call 12; refine (unhide HRN _ ?_).mono ?_; (repeat (first | exact Kept.refl _ _ | refine Kept.alloc ?_ _)); rintro e w' ⟨rfl, rfl⟩))
            go_ret
            exact ⟨rfl, ((unhide HK1).trans (unhide HX4).2.2.1 (by simp)).alloc _⟩
        · have hf' := hFI.ok
          have hE : rDone r' = if r'.left = [] ∧ r'.behind = [] then 0 else 12 := by rw [rDone, if_neg (by omega)]
          have hR' : rRest r' = r'.left.length := by rw [rRest, if_neg (by omega)]
          obtain ⟨E, hEE⟩ : ∃ E, E = rDone r' := ⟨_, rfl⟩
          obtain ⟨L', hL'⟩ : ∃ L', L' = r'.left.length := ⟨_, rfl⟩
          rw [← hEE] at HDN
          rw [hR', ← hL'] at HRN
          have hE2 : E = 0 ∨ E = 12 := by rw [hEE, hE]; split; exact Or.inl rfl; exact Or.inr rfl
          have HE2 := hide hE2
          have HEE := hide (hEE.trans hE)
          have HL' := hide hL'
          have HFI := hide hFI
          have hokt := unhide HOKT ta tc
          have hinv := (unhide HI).1.inv
          have hlp' : L' ≤ p.length := by have := hFI.inv.2.2.2; omega
          have HLAY : Hid (Calls Try.prog 15 #[.agg #[.int .i64 0, .int .u64 (n' : Nat), .int .i64 I', .slice ta P'.length tc], .pointer (some ⟨b, 0, none⟩)] (w4.alloc (.cells #[.int .i64 0, .int .u64 (n' : Nat), .int .i64 I', .slice ta P'.length tc] 35)) fun e w' => e = .returned (.tuple #[]) ∧ Both w1 b ((thOf 0 (r', n', I', P') ta tc).lay ws) rb r' w') := by
            refine hide ?_
            have k4 : Kept [] w4 (w4.alloc (.cells #[.int .i64 0, .int .u64 (n' : Nat), .int .i64 I', .slice ta P'.length tc] 35)) := (Kept.refl [] w4).alloc _
            have hsee := Sees.of_own (unhide HOW)
            refine (tlay_s ((unhide HX4).1.kept k4 (by simp)) (thOf 0 (r', n', I', P') ta tc) hokt.1 (Or.inl ⟨hsee.kept k4 (by simp), fun x hx hF => ?_⟩) (by have := hinv.2.1; omega) (by have := hokt.2; have := hinv.2.2.2; show P'.length ≤ _; omega) hinv.1).mono ?_
            · have h1 := (unhide HX).1.lt x hF
              have h2 := ((unhide HOW).lt x hx).1
              omega
            · rintro e w' ⟨rfl, hp⟩
              obtain ⟨o1, o2, o3, o4, o5, o6⟩ := unhide HX4
              exact ⟨rfl, Both.write (o1.kept k4 (by simp)) (o2.kept k4 (by simp)) (o3.trans k4 (by simp)) o4 o5 o6 hp⟩
          generalize hws : (thOf 0 (r', n', I', P') ta tc).lay ws = ws' at *
          clear hws hokt hinv hE hR' hE2 hEE hL' hFI hf' HOKT HST HX
          have hs : fs'.length = D := by rw [unhide HD]; exact hs0 (by simp)
          obtain ⟨D', hD'⟩ : ∃ D', D' = fs'.length := ⟨_, rfl⟩
          rw [← hD'] at hl16
          obtain rfl : D' = D := by omega
          clear hs
          have HD' := hide hD'
          clear hD' HD
          go_upto_region 13 with (first | (go_at_call 14; refine (unhide HDN _ ?_).mono ?_; (repeat (first | exact Kept.refl _ _ | refine Kept.alloc ?_ _)); rintro e w' ⟨rfl, rfl⟩))
          go_cut [67] (fun t wc => t = .bool false ∧ Hid (w4.alloc (.cells #[.int .i64 0, .int .u64 (n' : Nat), .int .i64 I', .slice ta P'.length tc] 35) = wc))
          case first =>
            clear HLAY HDN HRN
            rcases unhide HE2 with rfl | rfl
            all_goals
              go_wp2
              go_meet
              exact ⟨rfl, hide rfl⟩
          case rest =>
          obtain ⟨rfl, HW⟩ := hcut
          have hW := unhide HW
          clear HW
          subst hW
          obtain ⟨i0, i255⟩ := unhide HI0 (by simp)
          have y1 : decide (I' < 0) = false := by simp; omega
          have y2 : decide (255 < I') = false := by simp; omega
          clear i0 i255
          go_wp2_with fail
          refine (unhide HLAY).mono ?_
          rintro e w5 ⟨rfl, hb5⟩
          have HB5 := hide hb5
          clear hb5 HLAY
          have HRN5 := hide (fun W (kW : Kept [] w5 W) => (by
            obtain ⟨_, G5, _, o2, _⟩ := (unhide HB5).kept kW
            have h1 := rrest_s o2
            have h2 : rRest r' = L' := by rw [rRest, if_neg (by have := (unhide HFI).ok; omega), unhide HL']
            rw [h2] at h1
            exact h1 : Calls Try.prog 12 #[.pointer (some ⟨rb, 0, none⟩)] W fun e w' => e = .returned (.int .i64 (L' : Nat)) ∧ W = w'))
          clear HDN HRN HE2
          by_cases hz : D' = 0
          · have hFo := (unhide HFI).out (by rw [← unhide HD']; exact hz)
            have hpl : p.length = A'.length + L' := by rw [hFo.1, List.length_append, unhide HL']
            have HWD := hide (fun W (kW : Kept [] w5 W) => (by
              obtain ⟨F5, _, o1, _⟩ := (unhide HB5).kept kW
              have h1 := wdone_okS o1 (by rw [hFo.2.1]) (by rw [hFo.2.1])
              rw [hFo.2.1] at h1
              exact h1 : Calls Try.prog 16 #[.pointer (some ⟨b, 0, none⟩)] W fun e w' => ∃ a cap, e = .returned (.tuple #[.slice a A'.length cap, .int .i64 0]) ∧ w'.ownsRow W.heap.size 5 1 (.slice a A'.length cap) A'.length (u8s A') ∧ Kept [] W w'))
            have hEE : E = if L' = 0 then 0 else 12 := by
              rw [unhide HEE, hFo.2.2, unhide HL']
              simp
            have htk : p.take A'.length = A' := by
              conv => lhs; rw [hFo.1]
              rw [List.take_left' rfl]
            have hwc := Wide.cut (unhide HP) A'.length (by omega)
            rw [htk] at hwc
            have HWC := hide hwc
            have hA5 : A'.length ≤ 1000000000 := by omega
            clear hFo htk hwc
            obtain ⟨AL, hAL⟩ : ∃ AL, AL = A'.length := ⟨_, rfl⟩
            rw [← hAL] at hpl HWD HWC hA5
            have HAL := hide hAL
            clear hAL
            have hsub : (p.length : Int) - (L' : Int) = (AL : Int) := by omega
            have hwr : IntKind.i64.wrap ((p.length : Int) - (L' : Int)) = (AL : Int) := by rw [hsub]; simp [IntKind.wrap_i64]; omega
            have g1 : (decide ((AL : Int) < 0)) = false := by simp
            have g2 : (decide ((p.length : Int) < (AL : Int))) = false := by simp; omega
            have d0 : decide (0 < D') = false := by simp; omega
            have HPL := hide hpl
            clear hpl
            have HEQ := hide hEE
            clear hEE
            by_cases hL0 : L' = 0
            · have hE0 : E = 0 := by rw [unhide HEQ, if_pos hL0]
              have hap : ((AL : Int) == (p.length : Int)) = true := by have := unhide HPL; rw [beq_iff_eq]; omega
              clear HEQ HEE hL0
              subst hE0
              · skip
                go_wp2_with (first | (go_at_call 12; refine (unhide HRN5 _ (Kept.refl _ _)).mono ?_; rintro e w' ⟨rfl, rfl⟩) | (go_at_call 16; refine (unhide HWD _ (Kept.refl _ _)).mono ?_; rintro e w6 ⟨da, dc, rfl, hd6, hk6⟩))
                have k6 := (unhide HK1).trans ((unhide HB5).choose_spec.choose_spec.2.2.1.trans hk6 (by simp)) (by simp)
                have hsee : Sees w6 (.slice da AL dc) A' := Sees.of_own (base := w5.heap.size) (by rw [← unhide HAL]; exact hd6)
                have HS := hide (same_yesE hsee ((unhide HWC).kept k6) (by have := unhide HAL; omega))
                have HK6 := hide hk6
                clear hd6 hk6 k6 hsee
                go_wp2_with (first | (go_at_call 17; refine (unhide HS).mono ?_; rintro e w' ⟨rfl, m7, rfl⟩))
                refine ⟨⟨k + 1, ws', r', fs', A', by omega, by rw [← unhide HD']; omega, by go_num, by rw [← unhide HD']; try (first | rfl | go_num), hide ⟨unhide HFI, (unhide HB5).kept ((unhide HK6).drewN m7)⟩⟩, by simp [intOf]; omega⟩
            · have hE0 : E = 12 := by rw [unhide HEQ, if_neg hL0]
              have hap : ((AL : Int) == (p.length : Int)) = false := by have := unhide HPL; rw [beq_eq_false_iff_ne]; omega
              clear HEQ HEE hL0
              subst hE0
              · skip
                go_wp2_with (first | (go_at_call 12; refine (unhide HRN5 _ (Kept.refl _ _)).mono ?_; rintro e w' ⟨rfl, rfl⟩) | (go_at_call 16; refine (unhide HWD _ (Kept.refl _ _)).mono ?_; rintro e w6 ⟨da, dc, rfl, hd6, hk6⟩))
                have k6 := (unhide HK1).trans ((unhide HB5).choose_spec.choose_spec.2.2.1.trans hk6 (by simp)) (by simp)
                have hsee : Sees w6 (.slice da AL dc) A' := Sees.of_own (base := w5.heap.size) (by rw [← unhide HAL]; exact hd6)
                have HS := hide (same_yesE hsee ((unhide HWC).kept k6) (by have := unhide HAL; omega))
                have HK6 := hide hk6
                clear hd6 hk6 k6 hsee
                go_wp2_with (first | (go_at_call 17; refine (unhide HS).mono ?_; rintro e w' ⟨rfl, m7, rfl⟩))
                refine ⟨⟨k + 1, ws', r', fs', A', by omega, by rw [← unhide HD']; omega, by go_num, by rw [← unhide HD']; try (first | rfl | go_num), hide ⟨unhide HFI, (unhide HB5).kept ((unhide HK6).drewN m7)⟩⟩, by simp [intOf]; omega⟩
          · have d0 : decide (0 < D') = true := by simp; omega
            have d1' : 0 < D' := by omega
            go_wp2
            refine ⟨⟨k + 1, ws', r', fs', A', by omega, by rw [← unhide HD']; omega, by go_num, by rw [← unhide HD']; try (first | rfl | go_num), hide ⟨unhide HFI, unhide HB5⟩⟩, by simp [intOf]; omega⟩
      · have d1 : ((1 + (K : Int)) == 9) = false := by rw [beq_eq_false_iff_ne]; omega
        have d2 : ((1 + (K : Int)) == 8) = false := by rw [beq_eq_false_iff_ne]; omega
        have d3 : ((1 + (K : Int)) == 1) = false := by rw [beq_eq_false_iff_ne]; omega
        have HSK : Hid (K = 8 → 0 < fs.length ∧ r.left = []) := hide fun e => by omega
        have HS7 : Hid (K = 7 → fs.length ≠ 16) := hide fun e => by omega
        have HST := hide (fun a c => step_forms (unhide HI).1 (unhide HBY).1 (unhide HBY).2 (by rw [← unhide HD]; exact hd16) K (by omega) t.i a c (unhide HSK) (unhide HS7))
        have HOKT := hide (fun a c => takenS_ok r (unhide HBY).1 K (by omega) t.i (unhide HOK).i1 (unhide HOK).i2 a c)
        have HI0 : Hid ((K : Nat) = 0 → 0 ≤ (takenS r K t.i).2.2.1 ∧ (takenS r K t.i).2.2.1 ≤ 255) := hide fun e => by omega
        have hrem : TakenP = fun (w : World) (b : Nat) (F : List Nat) (k : Nat) (r : RS × Nat × Int × List Nat) (e : Ending) (w' : World) => ∃ a cap, e = .returned (.agg #[.int .i64 (k : Nat), .int .u64 (r.2.1 : Nat), .int .i64 r.2.2.1, .slice a r.2.2.2.length cap]) ∧ w'.ownsRow w.heap.size 5 1 (.slice a r.2.2.2.length cap) r.2.2.2.length (u8s r.2.2.2) ∧ RsP w b F r.1 w' := rfl
        rw [hrem] at HT
        clear hrem
        generalize takenS r K t.i = T at *
        obtain ⟨r', n', I', P'⟩ := T
        simp only at HT HST HOKT HI0
        go_wp2_with (first | (go_at_call 11; refine (unhide HR _).mono ?_; rintro e w' ⟨rfl, rfl⟩) | (go_at_call 12; refine (unhide HRS).mono ?_; rintro e w' ⟨rfl, rfl⟩))
        refine (unhide HT _ (Kept.refl _ _)).mono ?_
        rintro e w4 ⟨ta, tc, rfl, ho4, hp4⟩
        obtain ⟨G', hX4⟩ := Both.readX (unhide HX) hp4
        have HX4 := hide hX4
        have HOW := hide ho4
        clear hX4 hp4 ho4 HT q0 q1 q2
        have HDN := hide (fun W (kW : Kept [] w4 W) => rdone_s ((unhide HX4).2.1.kept kW (by simp)))
        have HRN := hide (fun W (kW : Kept [] w4 W) => rrest_s ((unhide HX4).2.1.kept kW (by simp)))
        rcases unhide HST ta tc with hbad | ⟨fs', A', hFI, hl16, hs7, hs8, hs0⟩
        · clear HOKT HI0 HST
          rcases hbad with rfl | rfl
          all_goals
            rw [rDone_rF _ (by omega)] at HDN
            rw [rRest_rF _ (by omega)] at HRN
            go_wp2_with (first | (go_at_call 14; refine (unhide HDN _ ?_).mono ?_; (repeat (first | exact Kept.refl _ _ | refine Kept.alloc ?_ _)); rintro e w' ⟨rfl, rfl⟩) | (go_at_call 12; refine (unhide HRN _ ?_).mono ?_; (repeat (first | exact Kept.refl _ _ | refine Kept.alloc ?_ _)); rintro e w' ⟨rfl, rfl⟩))
            go_ret
            exact ⟨rfl, ((unhide HK1).trans (unhide HX4).2.2.1 (by simp)).alloc _⟩
        · have hf' := hFI.ok
          have hE : rDone r' = if r'.left = [] ∧ r'.behind = [] then 0 else 12 := by rw [rDone, if_neg (by omega)]
          have hR' : rRest r' = r'.left.length := by rw [rRest, if_neg (by omega)]
          obtain ⟨E, hEE⟩ : ∃ E, E = rDone r' := ⟨_, rfl⟩
          obtain ⟨L', hL'⟩ : ∃ L', L' = r'.left.length := ⟨_, rfl⟩
          rw [← hEE] at HDN
          rw [hR', ← hL'] at HRN
          have hE2 : E = 0 ∨ E = 12 := by rw [hEE, hE]; split; exact Or.inl rfl; exact Or.inr rfl
          have HE2 := hide hE2
          have HEE := hide (hEE.trans hE)
          have HL' := hide hL'
          have HFI := hide hFI
          have hokt := unhide HOKT ta tc
          have hinv := (unhide HI).1.inv
          have hlp' : L' ≤ p.length := by have := hFI.inv.2.2.2; omega
          have HLAY : Hid (Calls Try.prog 15 #[.agg #[.int .i64 (K : Nat), .int .u64 (n' : Nat), .int .i64 I', .slice ta P'.length tc], .pointer (some ⟨b, 0, none⟩)] (w4.alloc (.cells #[.int .i64 (K : Nat), .int .u64 (n' : Nat), .int .i64 I', .slice ta P'.length tc] 35)) fun e w' => e = .returned (.tuple #[]) ∧ Both w1 b ((thOf K (r', n', I', P') ta tc).lay ws) rb r' w') := by
            refine hide ?_
            have k4 : Kept [] w4 (w4.alloc (.cells #[.int .i64 (K : Nat), .int .u64 (n' : Nat), .int .i64 I', .slice ta P'.length tc] 35)) := (Kept.refl [] w4).alloc _
            have hsee := Sees.of_own (unhide HOW)
            refine (tlay_s ((unhide HX4).1.kept k4 (by simp)) (thOf K (r', n', I', P') ta tc) hokt.1 (Or.inl ⟨hsee.kept k4 (by simp), fun x hx hF => ?_⟩) (by have := hinv.2.1; omega) (by have := hokt.2; have := hinv.2.2.2; show P'.length ≤ _; omega) hinv.1).mono ?_
            · have h1 := (unhide HX).1.lt x hF
              have h2 := ((unhide HOW).lt x hx).1
              omega
            · rintro e w' ⟨rfl, hp⟩
              obtain ⟨o1, o2, o3, o4, o5, o6⟩ := unhide HX4
              exact ⟨rfl, Both.write (o1.kept k4 (by simp)) (o2.kept k4 (by simp)) (o3.trans k4 (by simp)) o4 o5 o6 hp⟩
          generalize hws : (thOf K (r', n', I', P') ta tc).lay ws = ws' at *
          clear hws hokt hinv hE hR' hE2 hEE hL' hFI hf' HOKT HST HX
          have hs : fs'.length = D := by rw [unhide HD]; exact hs0 (by omega)
          obtain ⟨D', hD'⟩ : ∃ D', D' = fs'.length := ⟨_, rfl⟩
          rw [← hD'] at hl16
          obtain rfl : D' = D := by omega
          clear hs
          have HD' := hide hD'
          clear hD' HD
          go_upto_region 13 with (first | (go_at_call 14; refine (unhide HDN _ ?_).mono ?_; (repeat (first | exact Kept.refl _ _ | refine Kept.alloc ?_ _)); rintro e w' ⟨rfl, rfl⟩))
          go_cut [67] (fun t wc => t = .bool false ∧ Hid (w4.alloc (.cells #[.int .i64 (K : Nat), .int .u64 (n' : Nat), .int .i64 I', .slice ta P'.length tc] 35) = wc))
          case first =>
            clear HLAY HDN HRN
            rcases unhide HE2 with rfl | rfl
            all_goals
              go_wp2
              go_meet
              exact ⟨rfl, hide rfl⟩
          case rest =>
          obtain ⟨rfl, HW⟩ := hcut
          have hW := unhide HW
          clear HW
          subst hW
          skip
          go_wp2_with fail
          refine (unhide HLAY).mono ?_
          rintro e w5 ⟨rfl, hb5⟩
          have HB5 := hide hb5
          clear hb5 HLAY
          have HRN5 := hide (fun W (kW : Kept [] w5 W) => (by
            obtain ⟨_, G5, _, o2, _⟩ := (unhide HB5).kept kW
            have h1 := rrest_s o2
            have h2 : rRest r' = L' := by rw [rRest, if_neg (by have := (unhide HFI).ok; omega), unhide HL']
            rw [h2] at h1
            exact h1 : Calls Try.prog 12 #[.pointer (some ⟨rb, 0, none⟩)] W fun e w' => e = .returned (.int .i64 (L' : Nat)) ∧ W = w'))
          clear HDN HRN HE2
          by_cases hz : D' = 0
          · have hFo := (unhide HFI).out (by rw [← unhide HD']; exact hz)
            have hpl : p.length = A'.length + L' := by rw [hFo.1, List.length_append, unhide HL']
            have HWD := hide (fun W (kW : Kept [] w5 W) => (by
              obtain ⟨F5, _, o1, _⟩ := (unhide HB5).kept kW
              have h1 := wdone_okS o1 (by rw [hFo.2.1]) (by rw [hFo.2.1])
              rw [hFo.2.1] at h1
              exact h1 : Calls Try.prog 16 #[.pointer (some ⟨b, 0, none⟩)] W fun e w' => ∃ a cap, e = .returned (.tuple #[.slice a A'.length cap, .int .i64 0]) ∧ w'.ownsRow W.heap.size 5 1 (.slice a A'.length cap) A'.length (u8s A') ∧ Kept [] W w'))
            have hEE : E = if L' = 0 then 0 else 12 := by
              rw [unhide HEE, hFo.2.2, unhide HL']
              simp
            have htk : p.take A'.length = A' := by
              conv => lhs; rw [hFo.1]
              rw [List.take_left' rfl]
            have hwc := Wide.cut (unhide HP) A'.length (by omega)
            rw [htk] at hwc
            have HWC := hide hwc
            have hA5 : A'.length ≤ 1000000000 := by omega
            clear hFo htk hwc
            obtain ⟨AL, hAL⟩ : ∃ AL, AL = A'.length := ⟨_, rfl⟩
            rw [← hAL] at hpl HWD HWC hA5
            have HAL := hide hAL
            clear hAL
            have hsub : (p.length : Int) - (L' : Int) = (AL : Int) := by omega
            have hwr : IntKind.i64.wrap ((p.length : Int) - (L' : Int)) = (AL : Int) := by rw [hsub]; simp [IntKind.wrap_i64]; omega
            have g1 : (decide ((AL : Int) < 0)) = false := by simp
            have g2 : (decide ((p.length : Int) < (AL : Int))) = false := by simp; omega
            have d0 : decide (0 < D') = false := by simp; omega
            have HPL := hide hpl
            clear hpl
            have HEQ := hide hEE
            clear hEE
            by_cases hL0 : L' = 0
            · have hE0 : E = 0 := by rw [unhide HEQ, if_pos hL0]
              have hap : ((AL : Int) == (p.length : Int)) = true := by have := unhide HPL; rw [beq_iff_eq]; omega
              clear HEQ HEE hL0
              subst hE0
              · skip
                go_wp2_with (first | (go_at_call 12; refine (unhide HRN5 _ (Kept.refl _ _)).mono ?_; rintro e w' ⟨rfl, rfl⟩) | (go_at_call 16; refine (unhide HWD _ (Kept.refl _ _)).mono ?_; rintro e w6 ⟨da, dc, rfl, hd6, hk6⟩))
                have k6 := (unhide HK1).trans ((unhide HB5).choose_spec.choose_spec.2.2.1.trans hk6 (by simp)) (by simp)
                have hsee : Sees w6 (.slice da AL dc) A' := Sees.of_own (base := w5.heap.size) (by rw [← unhide HAL]; exact hd6)
                have HS := hide (same_yesE hsee ((unhide HWC).kept k6) (by have := unhide HAL; omega))
                have HK6 := hide hk6
                clear hd6 hk6 k6 hsee
                go_wp2_with (first | (go_at_call 17; refine (unhide HS).mono ?_; rintro e w' ⟨rfl, m7, rfl⟩))
                refine ⟨⟨k + 1, ws', r', fs', A', by omega, by rw [← unhide HD']; omega, by go_num, by rw [← unhide HD']; try (first | rfl | go_num), hide ⟨unhide HFI, (unhide HB5).kept ((unhide HK6).drewN m7)⟩⟩, by simp [intOf]; omega⟩
            · have hE0 : E = 12 := by rw [unhide HEQ, if_neg hL0]
              have hap : ((AL : Int) == (p.length : Int)) = false := by have := unhide HPL; rw [beq_eq_false_iff_ne]; omega
              clear HEQ HEE hL0
              subst hE0
              · skip
                go_wp2_with (first | (go_at_call 12; refine (unhide HRN5 _ (Kept.refl _ _)).mono ?_; rintro e w' ⟨rfl, rfl⟩) | (go_at_call 16; refine (unhide HWD _ (Kept.refl _ _)).mono ?_; rintro e w6 ⟨da, dc, rfl, hd6, hk6⟩))
                have k6 := (unhide HK1).trans ((unhide HB5).choose_spec.choose_spec.2.2.1.trans hk6 (by simp)) (by simp)
                have hsee : Sees w6 (.slice da AL dc) A' := Sees.of_own (base := w5.heap.size) (by rw [← unhide HAL]; exact hd6)
                have HS := hide (same_yesE hsee ((unhide HWC).kept k6) (by have := unhide HAL; omega))
                have HK6 := hide hk6
                clear hd6 hk6 k6 hsee
                go_wp2_with (first | (go_at_call 17; refine (unhide HS).mono ?_; rintro e w' ⟨rfl, m7, rfl⟩))
                refine ⟨⟨k + 1, ws', r', fs', A', by omega, by rw [← unhide HD']; omega, by go_num, by rw [← unhide HD']; try (first | rfl | go_num), hide ⟨unhide HFI, (unhide HB5).kept ((unhide HK6).drewN m7)⟩⟩, by simp [intOf]; omega⟩
          · have d0 : decide (0 < D') = true := by simp; omega
            have d1' : 0 < D' := by omega
            go_wp2
            refine ⟨⟨k + 1, ws', r', fs', A', by omega, by rw [← unhide HD']; omega, by go_num, by rw [← unhide HD']; try (first | rfl | go_num), hide ⟨unhide HFI, unhide HB5⟩⟩, by simp [intOf]; omega⟩
    · go_wp2
      go_ret
      obtain ⟨F, G, _, _, o3, _⟩ := (unhide HI).2
      exact ⟨rfl, (unhide HK1).trans o3 (by simp)⟩
end Go.Proofs.Ytiabhgkndejigab
