/- A text of the base. -/
import Derived.Test.YtfhfkpgfnlmfhaaDoorPkM
import Derived.Test.YtfhfkpgfnlmfhaaDoorPkF
/- Slices of bytes that come in: an empty one may have any address at all. lay, Raw, Text and same over those. -/
namespace Go.Proofs.YtfhfkpgfnlmfhaaDoor
open Go.RowKit

/-- The slice v reads as the bytes bs; or it is empty, with no room, at whatever address. -/
def Wide (w : World) (v : Value) (bs : List Nat) : Prop := Sees w v bs ∨ ∃ a, v = .slice (some a) 0 0 ∧ bs = []
/-- The same, and it does not lie in the blocks F. -/
def Far (w : World) (v : Value) (bs : List Nat) (F : List Nat) : Prop := (Sees w v bs ∧ ∀ k, v.ownBlock = some k → k ∉ F) ∨ ∃ a, v = .slice (some a) 0 0 ∧ bs = []

theorem Sees.lt {w : World} {v : Value} {bs : List Nat} (h : Sees w v bs) {k : Nat} (hk : v.ownBlock = some k) : k < w.heap.size := by
  rcases h with ⟨rfl, _⟩ | ⟨b, off, cap, rfl, _, _, h3, _⟩
  · cases hk
  · cases hk; exact h3
theorem wide_len {w : World} {v : Value} {bs : List Nat} (h : Wide w v bs) : ∃ a cap, v = .slice a bs.length cap := by
  rcases h with h | ⟨a, rfl, rfl⟩
  · exact sees_len h
  · exact ⟨_, _, rfl⟩
theorem Wide.kept {w w' : World} {v : Value} {bs : List Nat} (h : Wide w v bs) (hk : Kept [] w w') : Wide w' v bs := by
  rcases h with h | h
  · exact Or.inl (h.kept hk (by simp))
  · exact Or.inr h
theorem Wide.far {w : World} {v : Value} {bs : List Nat} (h : Wide w v bs) {F : List Nat} (hF : ∀ k, k < w.heap.size → k ∉ F) : Far w v bs F := by
  rcases h with h | h
  · exact Or.inl ⟨h, fun k hk => hF k (h.lt hk)⟩
  · exact Or.inr h
theorem Far.wide {F : List Nat} {w w' : World} {v : Value} {bs : List Nat} (h : Far w v bs F) (hk : Kept F w w') : Wide w' v bs := by
  rcases h with ⟨h, hn⟩ | h
  · exact Or.inl (h.kept hk hn)
  · exact Or.inr h
theorem Far.keep {F : List Nat} {w w' : World} {v : Value} {bs : List Nat} (h : Far w v bs F) (hk : Kept [] w w') : Far w' v bs F := by
  rcases h with ⟨h, hn⟩ | h
  · exact Or.inl ⟨h.kept hk (by simp), hn⟩
  · exact Or.inr h
theorem Wide.at {w : World} {xa : Option Addr} {n xc : Nat} {bs : List Nat} (h : Wide w (.slice xa n xc) bs) (k : Nat) (hk : k < bs.length) :
    ∃ b off, xa = some ⟨b, off, none⟩ ∧ w.cell? ⟨b, off + k, none⟩ = some (.int .u8 (bs.getD k 0 : Nat)) := by
  rcases h with h | ⟨_, _, h2⟩
  · exact h.at k hk
  · subst h2; simp at hk

/-- 'append(dst, src...)' of bytes, src as above. -/
theorem wpList_append_wide {P : Program} (w : World) {ops : Array Oper} {rest : List Oper} {o : Oper} {a : Act} {Q : Exit → Act → World → Prop} (hgd : o.guard = none) (s x : Operand) (t : TypeId)
    (ho : o.op = .call { callee := .builtin .append, args := #[s, x], argTypes := #[t, t] })
    (base : Nat) (e : TypeId) (i : TypeInfo) (z : Value) (ht : P.underlying t = some (.slice e)) (hi : P.info? e = some i) (hz : i.zero = some z)
    (hsize : i.size = 1) (hby : i.bytes = 1) (hzs : z.cells.size = 1)
    (v : Value) (xs : List Nat) (hs : a.eval s = v) (hown : w.ownsRow base e 1 v xs.length (u8s xs)) (xv : Value) (ys : List Nat) (hxv : a.eval x = xv) (hx : Wide w xv ys)
    (h63 : xs.length + ys.length ≤ 140737488355328) (hbase : base ≤ w.heap.size)
    (h : ∀ v' w', w'.ownsRow base e 1 v' (xs ++ ys).length (u8s (xs ++ ys)) → w.grownBy w' v.ownBlock → (v'.ownBlock = v.ownBlock ∨ v'.ownBlock = some w.heap.size) → wpList P ops Q rest (a.put o.dst v') w') :
    wpList P ops Q (o :: rest) a w := by
  rcases hx with hx | ⟨c, hc, rfl⟩
  · exact wpList_append_sees w hgd s x t ho base e i z ht hi hz hsize hby hzs v xs hs hown xv ys hxv hx h63 hbase h
  · subst hc
    refine wpList_plain hgd fun K hK => ?_
    have hl0 : (loadCells c 0).run P w = .ok #[] w := rfl
    have hr : (Builtin.append_ #[t, t] o.type #[v, .slice (some c) 0 0]).run P w = .ok v w := by
      rcases hown.2 with ⟨rfl, h0⟩ | ⟨g, cap, cur, rfl, hbg, hg, hnc, hcm, hcs, htake⟩
      · simp [Builtin.append_, run_underlying ht, sizeOf, typeInfo, hi, Builtin.lenOf, Builtin.firstCells, hl0]
      · have : xs.length ≤ cap := hnc
        simp [Builtin.append_, run_underlying ht, sizeOf, typeInfo, hi, Builtin.lenOf, Builtin.firstCells, this, storeCells, hl0]
    unfold Oper.wp execOp
    simp only [ho, resolve, invoke, builtin, Sem.run_bind, Sem.run_pure, Result.andThen_ok, List.map_toArray, List.map_cons, List.map_nil, hs, hxv, hr]
    exact hK _ _ (h v w (by simpa using hown) ⟨rfl, rfl, rfl, Nat.le_refl _, fun _ _ _ => rfl⟩ (Or.inl rfl))

set_option maxRecDepth 100000 in
set_option maxHeartbeats 1000000 in
/-- lay where there is room. -/
theorem lay_fitsE {w : World} {b : Nat} {s : WS} {v sv : Value} (h : Wr w b s v sv) (hf : s.fault = 0) (pb pc : Nat) (ps : List (Value × List Nat))
    (hpb : Blk w pb (ps.map (·.1)).toArray 23) (hpn : pb ∉ foot b v sv) (hps : ∀ p, p ∈ ps → Far w p.1 p.2 (foot b v sv))
    (hl : s.bs.length + (cat ps).length ≤ 70368744177664) (hn : ps.length < 1000) (hroom : s.bs.length + (cat ps).length ≤ s.room) :
    Calls Tryd.prog 52 #[.pointer (some ⟨b, 0, none⟩), .slice (some ⟨pb, 0, none⟩) ps.length pc] w fun e w' => e = .returned (.tuple #[]) ∧
      ∃ v', Wr w' b { s with bs := s.bs ++ cat ps } v' sv ∧ Kept (foot b v sv) w w' ∧ ∀ x, x ∈ foot b v' sv → x ∈ foot b v sv ∨ w.heap.size ≤ x := by
  obtain ⟨i0, hi, hz0, hz1, hz2⟩ := info_parts Tryd.info5
  have HH := hide h
  have HPS := hide hps
  have HPB := hide hpb
  clear h hps hpb
  have hnn : (0 : Int) ≤ (ps.length : Int) := by omega
  go_enter Tryd.func52, Tryd.ntmps52
  go_wp2_with (first | (go_at_call 74; refine (fails_no (unhide HH) hf).mono ?_; rintro e w' ⟨rfl, rfl⟩))
  go_loop [4, 13] (fun sz i => ∃ k : Nat, k ≤ ps.length ∧ i = .int .i64 k ∧ sz = .int .i64 ((cat (ps.take k)).length : Nat)) (fun _ i => ps.length - (intOf i).toNat)
  case atStart => exact ⟨0, by omega, rfl, rfl⟩
  case round =>
    obtain ⟨k, hk, rfl, rfl⟩ := hrel
    have hle := cat_take_le ps k
    by_cases hlt : k < ps.length
    · have hce : w.cell? ⟨pb, k, none⟩ = some (ps[k].1) := by rw [(unhide HPB).cell]; simp [hlt]
      obtain ⟨a, cap, hv⟩ := wide_len (((unhide HPS) ps[k] (List.getElem_mem hlt)).wide (Kept.refl _ _))
      have ht : (cat (ps.take (k + 1))).length = (cat (ps.take k)).length + ps[k].2.length := by rw [cat_take ps k hlt]; simp
      have hle2 := cat_take_le ps (k + 1)
      have HT := hide ht
      clear ht
      rw [hv] at hce
      have hle3 : (cat (ps.take k)).length + ps[k].2.length ≤ (cat ps).length := by rw [← unhide HT]; exact hle2
      clear hle2
      clear hv
      go_wp2
      go_round
      case rel => exact ⟨k + 1, by omega, by go_num, by rw [unhide HT]; go_num⟩
      case measure => simp [intOf]; omega
    · have hkl : k = ps.length := by omega
      subst hkl
      rw [List.take_length]
      clear hle hk hlt
      go_wp2_with (first | (go_at_call 75; refine (hasRoom_any (unhide HH) _ (by omega) true (by simpa using hroom)).mono ?_; rintro e w1 ⟨rfl, hq⟩))
      have HH1 := hide ((unhide HH).quiet hq)
      go_loopw [30] (fun i wr => ∃ (k : Nat) (v' : Value), k ≤ ps.length ∧ i = .int .i64 k ∧ Wr wr b { s with bs := s.bs ++ cat (ps.take k) } v' sv ∧ Kept (foot b v sv) w wr ∧ (∀ x, x ∈ foot b v' sv → x ∈ foot b v sv ∨ w.heap.size ≤ x)) (fun i _ => ps.length - (intOf i).toNat)
      case atStart => exact ⟨0, v, by omega, rfl, by simpa [cat] using (unhide HH1), hq.kept.mono (by simp), fun x hx => Or.inl hx⟩
      case round =>
        obtain ⟨k, v1, hk, rfl, hwr, hkept, hfoot⟩ := hrel
        have hle := cat_take_le ps k
        have HK := hide hkept
        have HF := hide hfoot
        have HW := hide hwr
        clear hkept hfoot
        by_cases hlt : k < ps.length
        · have hnf : (∀ x, x ∈ foot b v1 sv → ¬ x = pb) := by
            intro x hx e; subst e
            rcases unhide HF _ hx with h1 | h1
            · exact hpn h1
            · have := (unhide HPB).lt; omega
          have hce : wr.cell? ⟨pb, k, none⟩ = some (ps[k].1) := by rw [((unhide HPB).kept (unhide HK) hpn).cell]; simp [hlt]
          have hs1 := (unhide HPS) ps[k] (List.getElem_mem hlt)
          have hs3 := hs1.wide (unhide HK)
          have HT := hide (cat_take ps k hlt)
          have hle2 : (cat (ps.take k)).length + ps[k].2.length ≤ (cat ps).length := by
            have h1 := cat_take_le ps (k + 1); rw [unhide HT] at h1; simpa using h1
          obtain ⟨c0, c1, c2, c3⟩ := blk4 hwr.blk
          have f1 := hwr.blk.frozen 1
          have hown := hwr.own
          clear hwr hs1
          go_wp2_with (at_builtin; refine wpList_append_wide _ rfl _ _ 23 rfl 0 5 i0 (.int .u8 0) Tryd.underlying23 hi hz0 hz1 hz2 rfl _ (s.bs ++ cat (ps.take k)) rfl hown _ ps[k].2 rfl hs3 ?c1 (Nat.zero_le _) ?_)
          case c1 => first | omega | (simp; omega)
          intro v2 w2 hown2 hg hat
          obtain ⟨a2, cap2, hv2⟩ := own_len hown2
          subst hv2
          have HR := hide ((unhide HW).grow ps[k].2 (by simpa [Nat.add_assoc] using hown2) hg hat (by simp; omega))
          have c1' : w2.cell? ⟨b, 1, none⟩ = some v1 := hg.cell c1 (fun e => (unhide HW).n1 e.symm)
          have f1' : w2.frozen? ⟨b, 1, none⟩ = false := (World.frozen?_of_block (hg.block b (unhide HW).blk.lt (fun e => (unhide HW).n1 e.symm))).trans f1
          clear hown hown2 hg hat c0 c1 c2 c3 f1 hs3 hce
          go_wp2
          go_roundw
          case rel =>
            obtain ⟨r1, r2, r3⟩ := unhide HR
            refine ⟨k + 1, .slice a2 (s.bs.length + ((cat (ps.take k)).length + ps[k].2.length)) cap2, by omega, by go_num, ?_, (unhide HK).trans r2 (fun x hx => unhide HF x hx), fun x hx => ?_⟩
            · rw [unhide HT]; simpa using r1
            · rcases r3 x hx with h1 | h1
              · exact unhide HF x h1
              · right; have := (unhide HK).size; omega
          case measure => simp [intOf]; omega
        · have hkl : k = ps.length := by omega
          subst hkl
          clear hwr
          go_wp2
          go_end0
          refine ⟨rfl, v1, ?_, unhide HK, unhide HF⟩
          have := unhide HW
          rwa [List.take_length] at this

set_option maxRecDepth 100000 in
set_option maxHeartbeats 1000000 in
/-- lay where there is no room. -/
theorem lay_nofitE {w : World} {b : Nat} {s : WS} {v sv : Value} (h : Wr w b s v sv) (hf : s.fault = 0) (pb pc : Nat) (ps : List (Value × List Nat))
    (hpb : Blk w pb (ps.map (·.1)).toArray 23) (hps : ∀ p, p ∈ ps → Wide w p.1 p.2)
    (hl : s.bs.length + (cat ps).length ≤ 70368744177664) (hn : ps.length < 1000) (hroom : ¬ s.bs.length + (cat ps).length ≤ s.room) :
    Calls Tryd.prog 52 #[.pointer (some ⟨b, 0, none⟩), .slice (some ⟨pb, 0, none⟩) ps.length pc] w fun e w' => e = .returned (.tuple #[]) ∧ Wr w' b (failWS 13) nilS nilS ∧ Kept [b] w w' := by
  have HH := hide h
  have HPS := hide hps
  have HPB := hide hpb
  clear h hps hpb
  have hnn : (0 : Int) ≤ (ps.length : Int) := by omega
  go_enter Tryd.func52, Tryd.ntmps52
  go_wp2_with (first | (go_at_call 74; refine (fails_no (unhide HH) hf).mono ?_; rintro e w' ⟨rfl, rfl⟩))
  go_loop [4, 13] (fun sz i => ∃ k : Nat, k ≤ ps.length ∧ i = .int .i64 k ∧ sz = .int .i64 ((cat (ps.take k)).length : Nat)) (fun _ i => ps.length - (intOf i).toNat)
  case atStart => exact ⟨0, by omega, rfl, rfl⟩
  case round =>
    obtain ⟨k, hk, rfl, rfl⟩ := hrel
    have hle := cat_take_le ps k
    by_cases hlt : k < ps.length
    · have hce : w.cell? ⟨pb, k, none⟩ = some (ps[k].1) := by rw [(unhide HPB).cell]; simp [hlt]
      obtain ⟨a, cap, hv⟩ := wide_len ((unhide HPS) ps[k] (List.getElem_mem hlt))
      have ht : (cat (ps.take (k + 1))).length = (cat (ps.take k)).length + ps[k].2.length := by rw [cat_take ps k hlt]; simp
      have hle2 := cat_take_le ps (k + 1)
      have HT := hide ht
      clear ht
      rw [hv] at hce
      have hle3 : (cat (ps.take k)).length + ps[k].2.length ≤ (cat ps).length := by rw [← unhide HT]; exact hle2
      clear hle2
      clear hv
      go_wp2
      go_round
      case rel => exact ⟨k + 1, by omega, by go_num, by rw [unhide HT]; go_num⟩
      case measure => simp [intOf]; omega
    · have hkl : k = ps.length := by omega
      subst hkl
      rw [List.take_length]
      clear hle hk hlt
      have HRM := hide hroom
      clear hroom
      go_wp2_with (first | (go_at_call 75; refine (hasRoom_any (unhide HH) _ (by omega) false (by simpa using unhide HRM)).mono ?_; rintro e w1 ⟨rfl, hq⟩) | (go_at_call 51; refine (fail_do ((unhide HH).quiet hq) hf 13 (by omega)).mono ?_; rintro e w2 ⟨rfl, hw2, hk2⟩))
      refine bodyPost_ret (results_none rfl _ _ _) rfl ?_
      exact ⟨rfl, hw2, (hq.kept.mono (by simp)).trans hk2 (fun x hx => Or.inl hx)⟩

theorem lay_anyE {w : World} {b : Nat} {s : WS} {v sv : Value} (h : Wr w b s v sv) (pb pc : Nat) (ps : List (Value × List Nat))
    (hpb : Blk w pb (ps.map (·.1)).toArray 23) (hpn : pb ∉ foot b v sv) (hps : ∀ p, p ∈ ps → Far w p.1 p.2 (foot b v sv))
    (hl : s.bs.length + (cat ps).length ≤ 70368744177664) (hn : ps.length < 1000) :
    Calls Tryd.prog 52 #[.pointer (some ⟨b, 0, none⟩), .slice (some ⟨pb, 0, none⟩) ps.length pc] w fun e w' => e = .returned (.tuple #[]) ∧ WPost w b v sv (wLay s (cat ps)) w' := by
  unfold wLay
  by_cases hf : s.fault = 0
  · rw [if_neg (by omega)]
    by_cases hr : s.bs.length + (cat ps).length ≤ s.room
    · rw [if_pos hr]
      refine (lay_fitsE h hf pb pc ps hpb hpn hps hl hn hr).mono ?_
      rintro e w' ⟨rfl, v', h1, h2, h3⟩
      exact ⟨rfl, v', sv, h1, h2, h3⟩
    · rw [if_neg hr]
      refine (lay_nofitE h hf pb pc ps hpb (fun p hp => (hps p hp).wide (Kept.refl _ _)) hl hn hr).mono ?_
      rintro e w' ⟨rfl, h1, h2⟩
      exact ⟨rfl, WPost.fail h1 h2⟩
  · rw [if_pos hf]
    refine (lay_faulty h hf _).mono ?_
    rintro e w' ⟨rfl, rfl⟩
    exact ⟨rfl, WPost.same h (Kept.refl _ _)⟩

/-- lay with one part, behind what made it: 'w' is the world ahead. -/
theorem lay_partE {w w1 : World} {b : Nat} {s : WS} {v sv : Value} (h : Wr w b s v sv) (fv : Value) (fs : List Nat)
    (hfo : Far w1 fv fs (foot b v sv)) (hk1 : Kept [] w w1)
    (hl : s.bs.length + fs.length ≤ 70368744177664) :
    Calls Tryd.prog 52 #[.pointer (some ⟨b, 0, none⟩), .slice (some ⟨w1.heap.size, 0, none⟩) 1 1] (w1.alloc (.cells #[fv] 23)) fun e w' => e = .returned (.tuple #[]) ∧ WPost w b v sv (wLay s fs) w' := by
  have hfl := foot_lt h
  have hks := hk1.size
  have ec : cat [(fv, fs)] = fs := by simp [cat]
  have h1 : Wr (w1.alloc (.cells #[fv] 23)) b s v sv := (h.kept hk1 (by simp)).alloc _
  refine (lay_anyE h1 w1.heap.size 1 [(fv, fs)] (Blk.new _ _ _) (fun hm => by have := hfl _ hm; omega) ?_ (by rw [ec]; exact hl) (by simp)).mono ?_
  · intro p hp
    simp at hp; subst hp
    exact hfo.keep ((Kept.refl [] _).alloc _)
  · rintro e w' ⟨rfl, hp⟩
    rw [ec] at hp
    exact ⟨rfl, hp.from (hk1.alloc _)⟩

set_option maxRecDepth 100000 in
set_option maxHeartbeats 400000 in
theorem wtext_anyE {w : World} {b : Nat} {s : WS} {v sv : Value} (h : Wr w b s v sv) (pv : Value) (ps : List Nat) (hp : Far w pv ps (foot b v sv)) (hl : s.bs.length + ps.length ≤ 35184372088832) :
    Calls Tryd.prog 122 #[.pointer (some ⟨b, 0, none⟩), pv] w fun e w' => e = .returned (.tuple #[]) ∧ WPost w b v sv (wLay s (form ps.length ++ ps)) w' := by
  obtain ⟨pa, pc, rfl⟩ := wide_len (hp.wide (Kept.refl _ _))
  have h10 := form_le10 ps.length (by omega)
  have hlay : ∀ w1 fv, Kept [] w w1 → w1.ownsRow w.heap.size 5 1 fv (form ps.length).length (u8s (form ps.length)) →
      Calls Tryd.prog 52 #[.pointer (some ⟨b, 0, none⟩), .slice (some ⟨w1.heap.size, 0, none⟩) 2 2] (w1.alloc (.cells #[fv, .slice pa ps.length pc] 23)) fun e w' => e = .returned (.tuple #[]) ∧ WPost w b v sv (wLay s (form ps.length ++ ps)) w' := by
    intro w1 fv hk1 hfo
    have hks := hk1.size
    have ec : cat [(fv, form ps.length), (.slice pa ps.length pc, ps)] = form ps.length ++ ps := by simp [cat]
    have h1 : Wr (w1.alloc (.cells #[fv, .slice pa ps.length pc] 23)) b s v sv := (h.kept hk1 (by simp)).alloc _
    refine (lay_anyE h1 w1.heap.size 2 [(fv, form ps.length), (.slice pa ps.length pc, ps)] (Blk.new _ _ _) (fresh_foot h hks) ?_ (by rw [ec]; simp; omega) (by simp)).mono ?_
    · intro p hpp
      simp at hpp
      rcases hpp with rfl | rfl
      · exact Or.inl ⟨sees_alloc _ (Sees.of_own hfo), fun k hk => fresh_foot h (hfo.lt k hk).1⟩
      · exact (hp.keep hk1).keep ((Kept.refl [] _).alloc _)
    · rintro e w' ⟨rfl, hpo⟩
      rw [ec] at hpo
      exact ⟨rfl, hpo.from (hk1.alloc _)⟩
  have HL := hide hlay
  clear hlay h hp
  go_enter Tryd.func122, Tryd.ntmps122
  go_wp2_with (first | (go_at_call 123; refine (form_any' ps.length _ (by omega)).mono ?_; rintro e w1 ⟨fa, fc, rfl, hfo, hk1⟩) | (go_at_call 52; refine (unhide HL _ _ hk1 hfo).mono ?_; rintro e w2 ⟨rfl, HX⟩))
  go_end0
  exact ⟨rfl, HX⟩

set_option maxRecDepth 100000 in
set_option maxHeartbeats 400000 in
/-- same: are two slices of bytes alike? -/
theorem same_yesE {w : World} {x y : Value} {bs : List Nat} (h1 : Sees w x bs) (h2 : Wide w y bs) (hl : bs.length ≤ 140737488355328) :
    Calls Tryd.prog 14 #[x, y] w fun e w' => e = .returned (.bool true) ∧ ∃ m, w' = w.drewN m := by
  obtain ⟨xa, xc, rfl⟩ := sees_len h1
  obtain ⟨ya, yc, rfl⟩ := wide_len h2
  go_enter Tryd.func14, Tryd.ntmps14
  go_wp2
  go_loopw [5] (fun i wr => ∃ k : Nat, k ≤ bs.length ∧ i = .int .i64 k ∧ ∃ m, wr = w.drewN m) (fun i _ => bs.length - (intOf i).toNat)
  case atStart => exact ⟨0, by omega, rfl, 0, rfl⟩
  case round =>
    obtain ⟨k, hk, rfl, m, hq⟩ := hrel
    subst hq
    by_cases hlt : k < bs.length
    · obtain ⟨xb, xo, rfl, hx⟩ := h1.at k hlt
      obtain ⟨yb, yo, rfl, hy⟩ := h2.at k hlt
      generalize bs.getD k 0 = z at hx hy
      clear h1 h2
      go_wp2
      go_quiet (fail)
      go_wp2
      go_roundw
      case rel => exact ⟨k + 1, by omega, by go_num, _, rfl⟩
      case measure => simp [intOf]; omega
    · go_wp2
      go_ret
      exact ⟨rfl, _, rfl⟩
end Go.Proofs.YtfhfkpgfnlmfhaaDoor
