/- The document's Clean. -/
import Derived.Test.YtigmofbammofbabKPs
import Derived.Test.YtigmofbammofbabKRefK
import Derived.Test.YtigmofbammofbabKTold
import Derived.Test.YtigmofbammofbabKSort
import Derived.Test.YtigmofbammofbabKDecP
import Derived.Deep.RegionLaw
import Derived.Deep.AppendLies
import Derived.Deep.RegionHeld3
namespace Go.Proofs.Ytigmofbammofbab
open Go.RowKit

def cleanPH (h : Hd) : Hd :=
  if h.kind = 2 then { hd0 2 with b := h.b }
  else if h.kind = 3 then { hd0 3 with n := h.n }
  else if h.kind = 4 then { hd0 4 with re := canon h.re, pr := canon h.re }
  else if h.kind = 5 then { hd0 5 with re := canon h.re, pr := canon h.re, im := canon h.im }
  else if h.kind = 6 then { hd0 6 with text := h.text }
  else hd0 h.kind
def cleanPR : Row → Row
  | .nil => .nil
  | .cons h p r => .cons (cleanPH h) (if h.kind = 7 then cleanPR p else .nil) (cleanPR r)
theorem cleanPR_app (r s : Row) : cleanPR (r.app s) = (cleanPR r).app (cleanPR s) := by
  induction r with
  | nil => rfl
  | cons h p r _ ih => simp [cleanPR, Row.app, ih]
/-- the real parts are told once -/
def reR : Row → Prop
  | .nil => True
  | .cons h p r => h.pr = h.re ∧ reR p ∧ reR r
theorem AtP.reR {w : World} {r : Row} : ∀ {b off : Nat}, AtP w r b off → reR r := by
  induction r with
  | nil => intro b off _; trivial
  | cons x p r ihp ihr =>
    intro b off h
    rw [AtP_cons] at h
    obtain ⟨⟨h1, tv, pv, _, _, hp⟩, hr⟩ := h
    refine ⟨h1.2, ?_, ihr hr⟩
    obtain ⟨_, _, _, _, _, hp⟩ := hp
    rcases hp with rfl | ⟨b', off', _, _, hp⟩
    · trivial
    · exact ihp hp
theorem RowP.reR {r : Row} {w : World} {v : Value} (h : RowP w v r) : reR r := by
  obtain ⟨_, _, _, _, _, h⟩ := h
  rcases h with rfl | ⟨b', off', _, _, h⟩
  · trivial
  · exact h.reR
theorem AtP.okR {w : World} {r : Row} : ∀ {b off : Nat}, AtP w r b off → okR r := by
  induction r with
  | nil => intro b off _; trivial
  | cons x p r ihp ihr =>
    intro b off h
    rw [AtP_cons] at h
    obtain ⟨⟨h1, tv, pv, _, _, hp⟩, hr⟩ := h
    refine ⟨h1.1, ?_, ihr hr⟩
    obtain ⟨_, _, _, _, _, hp⟩ := hp
    rcases hp with rfl | ⟨b', off', _, _, hp⟩
    · trivial
    · exact ihp hp
theorem RowP.okR {r : Row} {w : World} {v : Value} (h : RowP w v r) : okR r := by
  obtain ⟨_, _, _, _, _, h⟩ := h
  rcases h with rfl | ⟨b', off', _, _, h⟩
  · trivial
  · exact h.okR
theorem told_clean (r : Row) : reR r → toldR (cleanR r) (cleanPR r) := by
  induction r with
  | nil => intro _; trivial
  | cons h p r ihp ihr =>
    intro hr
    obtain ⟨h1, h2, h3⟩ := hr
    refine ⟨?_, ?_, ihr h3⟩
    · unfold cleanH cleanPH toldH
      by_cases e2 : h.kind = 2
      · simp [e2, hd0]
      by_cases e3 : h.kind = 3
      · simp [e3, hd0]
      by_cases e4 : h.kind = 4
      · simp [e4, hd0]
      by_cases e5 : h.kind = 5
      · simp [e5, hd0, h1]
      by_cases e6 : h.kind = 6
      · simp [e6, hd0]
      · simp [e2, e3, e4, e5, e6, hd0]
    · by_cases e7 : h.kind = 7
      · simp only [e7, if_true]; exact ihp h2
      · simp only [e7, if_false]; trivial
/-- 'append' as one step of a region that draws, by its run -/
theorem step_append_runE {P : Program} {ops : Array Oper} {o : Oper} {a : Act} {w : World} {K : Act → World → Prop} {Q : Exit → Act → World → Prop} {E : Prop}
    (hg : o.guard = none) (d x : Operand) (dT sT : TypeId) (hop : o.op = Op.call { callee := Callee.builtin Builtin.append, args := #[d, x], argTypes := #[dT, sT] })
    (v u : Value) (hd : a.eval d = v) (hx : a.eval x = u) {v' : Value} {w' : World} (hr : (Builtin.append_ #[dT, sT] o.type #[v, u]).run P w = .ok v' w') (hK : K (a.put o.dst v') w') :
    if Region.wanted o (yielded ops a.tmps) = true then Oper.wp P o a w K Q else E := by
  have hw : Region.wanted o (yielded ops a.tmps) = true := by simp [Region.wanted, hg]
  rw [if_pos hw]
  unfold Oper.wp
  simp [execOp, hop, resolve, invoke, builtin, hd, hx, hr, Result.andThen]
  exact hK

/-- a value that is being made in the block xn -/
structure CZ (w : World) (va : Option Addr) (vn vc : Nat) (l : List El) (xn : Nat) (W : World) : Prop where
  kept : Kept [] w W
  row : W.ownsRow w.heap.size 62 7 (.slice va vn vc) l.length (flatP l)
  els : ∀ e ∈ l, ElPS (fun x => w.heap.size ≤ x ∧ (Value.slice va vn vc).ownBlock ≠ some x ∧ x ≠ xn) W e
  out : ∀ y, (Value.slice va vn vc).ownBlock = some y → y < xn
  base : w.heap.size ≤ xn
theorem CZ.own {w : World} {va : Option Addr} {vn vc : Nat} {l : List El} {xn : Nat} {W : World} (h : CZ w va vn vc l xn W) : OwnP w.heap.size W (.slice va vn vc) l :=
  ⟨h.row, fun e he => (h.els e he).mono (fun _ _ hS => ⟨hS.1, hS.2.1⟩)⟩
theorem CZ.begin {w w1 : World} {va : Option Addr} {vn vc : Nat} {l : List El} (hk : Kept [] w w1) (ho : OwnP w.heap.size w1 (.slice va vn vc) l) (o : Obj) : CZ w va vn vc l w1.heap.size (w1.alloc o) := by
  have ha : Kept [] w1 (w1.alloc o) := (Kept.refl [] w1).alloc o
  refine ⟨hk.alloc o, own_kept ho.1 ha (by simp), fun e he => ?_, fun y hy => (ho.1.lt y hy).2, hk.size⟩
  exact ((ho.2 e he).mono (fun _ hy hS => ⟨hS.1, hS.2, by omega⟩)).kept ha (by simp)
theorem CZ.call {w : World} {va : Option Addr} {vn vc : Nat} {l : List El} {xn : Nat} {W W2 : World} (h : CZ w va vn vc l xn W) (hk : Kept [] W W2) : CZ w va vn vc l xn W2 :=
  ⟨h.kept.trans hk (by simp), own_kept h.row hk (by simp), fun e he => (h.els e he).kept hk (by simp), h.out, h.base⟩
theorem CZ.set {w : World} {va : Option Addr} {vn vc : Nat} {l : List El} {xn : Nat} {W : World} (h : CZ w va vn vc l xn W) (j : Nat) (u : Value) : CZ w va vn vc l xn (W.setCell ⟨xn, j, none⟩ u) := by
  have hk : Kept [xn] W (W.setCell ⟨xn, j, none⟩ u) := (Kept.refl _ W).setCell (p := ⟨xn, j, none⟩) (Or.inl (by simp)) u
  have hb := h.base
  exact ⟨h.kept.trans hk (fun y hy => Or.inr (by simp at hy; omega)), own_kept h.row hk (fun k hk' hm => by have := h.out k hk'; simp at hm; omega), fun e he => (h.els e he).kept hk (fun y hy hS => by simp at hy; exact hS.2.2 hy), h.out, h.base⟩
theorem cl_text {w : World} {va : Option Addr} {vn vc : Nat} {l : List El} {xn : Nat} {X w2 : World} {ta : Option Addr} {tn tc : Nat} {tx : List Nat} {cs : Array Value} {t : TypeId} (hz : CZ w va vn vc l xn X) (hbx : Blk X xn cs t) (htn : tx.length = tn) (h256 : ∀ y ∈ tx, y < 256) (hto : w2.ownsRow X.heap.size 5 1 (.slice ta tn tc) tn (u8s tx)) : SeesIn (fun x => w.heap.size ≤ x ∧ (Value.slice va vn vc).ownBlock ≠ some x) (w2.setCell ⟨xn, 5, none⟩ (.slice ta tn tc)) (.slice ta tn tc) tx := by
  subst htn
  have h1 := SeesIn.of_own hto h256
  have hxl := hbx.lt
  have h2 := h1.kept ((Kept.refl [xn] w2).setCell (p := ⟨xn, 5, none⟩) (Or.inl (by simp)) (.slice ta tx.length tc)) (fun y hy hS => by unfold New at hS; simp at hy; omega)
  have hb' := hz.base
  exact h2.mono (fun y _ hS => ⟨by unfold New at hS; omega, fun e => by have := hz.out y e; unfold New at hS; omega⟩)
theorem cl_parts {w : World} {va : Option Addr} {vn vc : Nat} {l : List El} {xn : Nat} {X w2 : World} {qv : Value} {r : Row} {cs : Array Value} {t : TypeId} (hz : CZ w va vn vc l xn X) (hbx : Blk X xn cs t) (hps : RowPS (New X.heap.size) w2 qv r) : RowPS (fun x => w.heap.size ≤ x ∧ (Value.slice va vn vc).ownBlock ≠ some x) (w2.setCell ⟨xn, 6, none⟩ qv) qv r := by
  have hxl := hbx.lt
  have h2 := hps.kept ((Kept.refl [xn] w2).setCell (p := ⟨xn, 6, none⟩) (Or.inl (by simp)) qv) (fun y hy hS => by unfold New at hS; simp at hy; omega)
  have hb' := hz.base
  exact h2.mono (fun y _ hS => ⟨by unfold New at hS; omega, fun e => by have := hz.out y e; unfold New at hS; omega⟩)
def CleanC (r : Row) : Prop := ∀ (w : World) (v : Value), RowP w v r → cnt r ≤ 262144 →
  Calls Try.prog 14 #[v] w fun e w' => (∃ a n c, e = .returned (.slice a n c) ∧ RowPS (New w.heap.size) w' (.slice a n c) (cleanPR r)) ∧ Kept [] w w'

set_option maxRecDepth 100000 in
set_option maxHeartbeats 8000000 in
theorem clean_any (r : Row) : CleanC r := by
  refine Row.parts_ind (fun r hC => ?_) r
  rintro w v ⟨a, cap, rfl, h1, h2, h3⟩ hcn
  obtain ⟨i0, hi, hz0, hz1, hz2⟩ := info_parts info5p
  have HI := hide (⟨hi, hz0, hz1, hz2⟩ : _ ∧ _ ∧ _ ∧ _)
  clear hi hz0 hz1 hz2
  have hlen := cnt_len r
  have H3 := hide h3
  have HC := hide hC
  clear h3 hC
  generalize hL : r.len = L at *
  have HL := hide hL
  clear hL
  go_enter Try.func14, Try.ntmps14
  go_wp2_with fail
  go_loopw [3, 4] (fun out i wr => ∃ (k : Nat) (dn s : Row) (l : List El) (va : Option Addr) (vn vc : Nat), i = .int .i64 k ∧ out = .slice va vn vc ∧ k + s.len = L ∧ vn = k ∧ l.length = vn ∧ rowE l = cleanPR dn ∧ r = dn.app s ∧ cnt s ≤ 262144 ∧ PartsOk CleanC s ∧ (s = .nil ∨ ∃ b off, a = some ⟨b, off, none⟩ ∧ b < w.heap.size ∧ AtP w s b (off + k * 7)) ∧ OwnP w.heap.size wr (.slice va vn vc) l ∧ Kept [] w wr) (fun _ i _ => L - (intOf i).toNat)
  case atStart => exact ⟨0, .nil, r, [], none, 0, 0, rfl, rfl, by rw [unhide HL]; omega, rfl, rfl, rfl, rfl, hcn, unhide HC, by
      rcases unhide H3 with h | ⟨b, off, q1, q2, q3⟩
      · exact Or.inl h
      · exact Or.inr ⟨b, off, q1, q2, by simpa using q3⟩, OwnP.nil _ _, Kept.refl _ _⟩
  case round =>
    obtain ⟨k, dn, s, l, va, vn, vc, rfl, rfl, hk, hvk, hln, hrow, hrs, hcs, hps, hat, how, hkp⟩ := hrel
    subst hvk
    have HOW := hide how
    have HK := hide hkp
    have HLN := hide hln
    have HROW := hide hrow
    have HRS := hide hrs
    clear how hkp hln hrow hrs
    cases s with
    | nil =>
      simp only [Row.len, Nat.add_zero] at hk
      subst hk
      rw [Row.app_nil] at HRS
      have t1 : ((vn : Int) < (vn : Int)) = False := by simp
      go_wp2
      go_ret
      exact ⟨⟨va, vn, vc, rfl, by rw [unhide HRS, ← unhide HROW]; exact (unhide HOW).row⟩, unhide HK⟩
    | cons h p s =>
    simp only [Row.len] at hk
    obtain ⟨hC1, hC2⟩ := hps
    rcases hat with hat | ⟨b, off, hra, hb, hat⟩
    · cases hat
    subst hra
    rw [AtP_cons] at hat
    obtain ⟨⟨⟨hok, hpr⟩, tv, pv, hc, ht, hpv⟩, hrest⟩ := hat
    have HAT : Hid (s = .nil ∨ ∃ b' off', (some ⟨b, off, none⟩ : Option Addr) = some ⟨b', off', none⟩ ∧ b' < w.heap.size ∧ AtP w s b' (off' + (vn + 1) * 7)) := Or.inr ⟨b, off, rfl, hb, by rw [show off + (vn + 1) * 7 = off + vn * 7 + 7 by omega]; exact hrest⟩
    simp only [cnt] at hcs
    have HC2 := hide hC2
    have HC1 := hide (fun (W : World) (hk : Kept [] w W) => hC1 W pv (hpv.kept hk) (by omega))
    have HRS2 : Hid (r = (dn.app (.cons h p .nil)).app s) := (by unfold Hid; rw [Row.app_assoc]; exact unhide HRS)
    have HROW2 : Hid (∀ e : El, e.h = cleanPH h → e.p = (if h.kind = 7 then cleanPR p else .nil) → rowE (l ++ [e]) = cleanPR (dn.app (.cons h p .nil))) := by
      intro e e1 e2
      rw [rowE_app, cleanPR_app, unhide HROW]
      simp [rowE, cleanPR, e1, e2]
    have HT := hide ht
    have HCX := hide hc
    have HOK := hide hok
    have hhb : b < wr.heap.size := Nat.lt_of_lt_of_le hb (unhide HK).size
    obtain ⟨c0, c1, c2, c3, c4, c5, c6⟩ := hc.kept (unhide HK) hb
    obtain ⟨pa, pc, hpv1, -⟩ := hpv
    obtain ⟨ta, tc, htv1, -⟩ := ht
    clear hrest hC1 hC2 hc hok HRS
    subst hpv1 htv1
    have t1 : (vn : Int) < (L : Int) := by omega
    have HVN : Hid (vn ≤ 1099511627776) := by unfold Hid; omega
    go_upto_region 6 with fail
    refine world_at (R := fun X => CZ w va vn vc l wr.heap.size X ∧ Blk X wr.heap.size #[.int .i64 h.kind, .bool false, .int .i64 0, .int .u64 0, .int .u64 0, .slice none 0 0, .slice none 0 0] 62) ⟨CZ.begin (unhide HK) (unhide HOW) _, Blk.new wr _ _⟩ ?_
    clear c0 c1 c2 c3 c4 c5 c6
    have hxn : w.heap.size ≤ wr.heap.size := (unhide HK).size
    generalize wr.heap.size = xn at *
    rintro X ⟨hz, hbx⟩
    obtain ⟨c0, c1, c2, c3, c4, c5, c6⟩ := (unhide HCX).kept hz.kept hb
    obtain ⟨z0, z1, z2, z3, z4, z5, z6⟩ := blk7 hbx
    have fx := hbx.frozen
    have HZ := hide hz
    have HBX := hide hbx
    have hbX : b < X.heap.size := Nat.lt_of_lt_of_le hb hz.kept.size
    have hxb : ¬ xn = b := by omega
    have hbx' : ¬ b = xn := by omega
    clear hz hbx
    obtain ⟨kind, bb, nn, re, prr, im, text⟩ := h
    simp only at *
    subst hpr
    generalize hTL : text.length = TL at *
    generalize p.len = PL at *
    have HTL := hide hTL
    clear hTL
    obtain ⟨o1, o2, o3, o4, o5, o6, o7, o8⟩ := unhide HOK
    simp only at o1 o2 o3 o4 o5 o6 o7 o8
    have HO8 := hide o8
    clear o8
    by_cases hk2 : kind = 2
    · subst hk2
      go_upto_region 19 with fail
      refine world_at (R := fun Y => CZ w va vn vc l xn Y ∧ Blk Y xn #[.int .i64 2, .bool bb, .int .i64 0, .int .u64 0, .int .u64 0, .slice none 0 0, .slice none 0 0] 62) ⟨(unhide HZ).set 1 _, (unhide HBX).set 1 _⟩ ?_
      clear z0 z1 z2 z3 z4 z5 z6 fx
      rintro Y ⟨hzf, hbf⟩
      obtain ⟨z0, z1, z2, z3, z4, z5, z6⟩ := blk7 hbf
      have HZF := hide hzf
      have HOA := hide (hzf.own.kept (F := []) ((Kept.refl [] Y).alloc (.cells #[.int .i64 2, .bool bb, .int .i64 0, .int .u64 0, .int .u64 0, .slice none 0 0, .slice none 0 0] 62)) (by simp))
      have HCE := hide (cells_seven_new Y (.int .i64 2) (.bool bb) (.int .i64 0) (.int .u64 0) (.int .u64 0) (.slice none 0 0) (.slice none 0 0) 62)
      have HBA : Hid (w.heap.size ≤ (Y.alloc (.cells #[.int .i64 2, .bool bb, .int .i64 0, .int .u64 0, .int .u64 0, .slice none 0 0, .slice none 0 0] 62)).heap.size) := (hzf.kept.alloc _).size
      have HOB : Hid (∀ y, (Value.slice va vn vc).ownBlock = some y → w.heap.size ≤ y) := fun y hy => (hzf.row.lt y hy).1
      clear hzf hbf
      go_wp2_with (first | (at_builtin; refine wpList_append_part (e := ⟨{ hd0 2 with b := bb }, .slice none 0 0, .slice none 0 0, .nil⟩) _ rfl _ _ rfl rfl HOA HLN rfl HCE (by intro u hu; simp [cellsPt] at hu; rcases hu with rfl | rfl | rfl | rfl | rfl | rfl | rfl <;> rfl) HVN HBA ?_))
      intro va' vc' w6 HO6 HK6
      have HKF : Hid (Kept [] w w6) := ((unhide HZF).kept.alloc _).trans (unhide HK6) (fun x hx => Or.inr (unhide HOB x (by simpa using hx)))
      go_wp2_with fail
      exact ⟨⟨vn + 1, _, s, l ++ [_], va', vn + 1, vc', by simp, rfl, by omega, rfl, by rw [List.length_append, unhide HLN]; rfl, unhide HROW2 _ (by simp [cleanPH]) (by simp), unhide HRS2, by omega, unhide HC2, unhide HAT, unhide HO6 (ElPS.kept (F := []) ⟨⟨⟨by simp [hd0], by simp [hd0], by simp [hd0], by simp [hd0], by simp [hd0], by simp [hd0], by simp [hd0], by simp [hd0]⟩, rfl⟩, SeesIn.none _ _, RowPS.nil _ _⟩ ((Kept.refl [] Y).alloc _) (by simp)), unhide HKF⟩, by simp [intOf]; omega⟩
    by_cases hk3 : kind = 3
    · subst hk3
      go_upto_region 19 with fail
      refine world_at (R := fun Y => CZ w va vn vc l xn Y ∧ Blk Y xn #[.int .i64 3, .bool false, .int .i64 nn, .int .u64 0, .int .u64 0, .slice none 0 0, .slice none 0 0] 62) ⟨(unhide HZ).set 2 _, (unhide HBX).set 2 _⟩ ?_
      clear z0 z1 z2 z3 z4 z5 z6 fx
      rintro Y ⟨hzf, hbf⟩
      obtain ⟨z0, z1, z2, z3, z4, z5, z6⟩ := blk7 hbf
      have HZF := hide hzf
      have HOA := hide (hzf.own.kept (F := []) ((Kept.refl [] Y).alloc (.cells #[.int .i64 3, .bool false, .int .i64 nn, .int .u64 0, .int .u64 0, .slice none 0 0, .slice none 0 0] 62)) (by simp))
      have HCE := hide (cells_seven_new Y (.int .i64 3) (.bool false) (.int .i64 nn) (.int .u64 0) (.int .u64 0) (.slice none 0 0) (.slice none 0 0) 62)
      have HBA : Hid (w.heap.size ≤ (Y.alloc (.cells #[.int .i64 3, .bool false, .int .i64 nn, .int .u64 0, .int .u64 0, .slice none 0 0, .slice none 0 0] 62)).heap.size) := (hzf.kept.alloc _).size
      have HOB : Hid (∀ y, (Value.slice va vn vc).ownBlock = some y → w.heap.size ≤ y) := fun y hy => (hzf.row.lt y hy).1
      clear hzf hbf
      go_wp2_with (first | (at_builtin; refine wpList_append_part (e := ⟨{ hd0 3 with n := nn }, .slice none 0 0, .slice none 0 0, .nil⟩) _ rfl _ _ rfl rfl HOA HLN rfl HCE (by intro u hu; simp [cellsPt] at hu; rcases hu with rfl | rfl | rfl | rfl | rfl | rfl | rfl <;> rfl) HVN HBA ?_))
      intro va' vc' w6 HO6 HK6
      have HKF : Hid (Kept [] w w6) := ((unhide HZF).kept.alloc _).trans (unhide HK6) (fun x hx => Or.inr (unhide HOB x (by simpa using hx)))
      go_wp2_with fail
      exact ⟨⟨vn + 1, _, s, l ++ [_], va', vn + 1, vc', by simp, rfl, by omega, rfl, by rw [List.length_append, unhide HLN]; rfl, unhide HROW2 _ (by simp [cleanPH]) (by simp), unhide HRS2, by omega, unhide HC2, unhide HAT, unhide HO6 (ElPS.kept (F := []) ⟨⟨⟨by simp [hd0], by simp [hd0], o3, o4, by simp [hd0], by simp [hd0], by simp [hd0], by simp [hd0]⟩, rfl⟩, SeesIn.none _ _, RowPS.nil _ _⟩ ((Kept.refl [] Y).alloc _) (by simp)), unhide HKF⟩, by simp [intOf]; omega⟩
    by_cases hk4 : kind = 4
    · subst hk4
      have HCL := hide (fun w => rclean_any prr o5 w)
      have hcl := canon_lt o5
      generalize hcp : canon prr = cp at *
      have HCP := hide hcp
      clear hcp
      go_upto_region 19 with (first | (go_at_call 32; refine (unhide HCL _).mono ?_; rintro e w2 ⟨rfl, hq⟩; have hq2 := hq.symm; subst hq2; clear hq))
      refine world_at (R := fun Y => CZ w va vn vc l xn Y ∧ Blk Y xn #[.int .i64 4, .bool false, .int .i64 0, .int .u64 (cp : Int), .int .u64 0, .slice none 0 0, .slice none 0 0] 62) ⟨(unhide HZ).set 3 _, (unhide HBX).set 3 _⟩ ?_
      clear z0 z1 z2 z3 z4 z5 z6 fx
      rintro Y ⟨hzf, hbf⟩
      obtain ⟨z0, z1, z2, z3, z4, z5, z6⟩ := blk7 hbf
      have HZF := hide hzf
      have HOA := hide (hzf.own.kept (F := []) ((Kept.refl [] Y).alloc (.cells #[.int .i64 4, .bool false, .int .i64 0, .int .u64 (cp : Int), .int .u64 0, .slice none 0 0, .slice none 0 0] 62)) (by simp))
      have HCE := hide (cells_seven_new Y (.int .i64 4) (.bool false) (.int .i64 0) (.int .u64 (cp : Int)) (.int .u64 0) (.slice none 0 0) (.slice none 0 0) 62)
      have HBA : Hid (w.heap.size ≤ (Y.alloc (.cells #[.int .i64 4, .bool false, .int .i64 0, .int .u64 (cp : Int), .int .u64 0, .slice none 0 0, .slice none 0 0] 62)).heap.size) := (hzf.kept.alloc _).size
      have HOB : Hid (∀ y, (Value.slice va vn vc).ownBlock = some y → w.heap.size ≤ y) := fun y hy => (hzf.row.lt y hy).1
      clear hzf hbf
      go_wp2_with (first | (at_builtin; refine wpList_append_part (e := ⟨{ hd0 4 with re := cp, pr := cp }, .slice none 0 0, .slice none 0 0, .nil⟩) _ rfl _ _ rfl rfl HOA HLN rfl HCE (by intro u hu; simp [cellsPt] at hu; rcases hu with rfl | rfl | rfl | rfl | rfl | rfl | rfl <;> rfl) HVN HBA ?_))
      intro va' vc' w6 HO6 HK6
      have HKF : Hid (Kept [] w w6) := ((unhide HZF).kept.alloc _).trans (unhide HK6) (fun x hx => Or.inr (unhide HOB x (by simpa using hx)))
      go_wp2_with fail
      exact ⟨⟨vn + 1, _, s, l ++ [_], va', vn + 1, vc', by simp, rfl, by omega, rfl, by rw [List.length_append, unhide HLN]; rfl, unhide HROW2 _ (by simp [cleanPH, unhide HCP]) (by simp), unhide HRS2, by omega, unhide HC2, unhide HAT, unhide HO6 (ElPS.kept (F := []) ⟨⟨⟨by simp [hd0], by simp [hd0], by simp [hd0], by simp [hd0], hcl, hcl, by simp [hd0], by simp [hd0]⟩, rfl⟩, SeesIn.none _ _, RowPS.nil _ _⟩ ((Kept.refl [] Y).alloc _) (by simp)), unhide HKF⟩, by simp [intOf]; omega⟩
    by_cases hk5 : kind = 5
    · subst hk5
      have HCL := hide (fun w => rclean_any prr o5 w)
      have HCM := hide (fun w => rclean_any im o7 w)
      have hcl := canon_lt o5
      have hcm := canon_lt o7
      generalize hcp : canon prr = cp at *
      generalize hcq : canon im = cq at *
      have HCP := hide hcp
      have HCQ := hide hcq
      clear hcp hcq
      have HRE : Hid (∀ (W : World), Calls Try.prog 32 #[.int .u64 (prr : Int)] W _) := unhide HCL
      go_upto_region 14 with fail
      go_region_held3 (fun w' => w'.cell? ⟨b, off + vn * 7 + 3, none⟩ = some (.int .u64 (prr : Int)) ∧ w'.cell? ⟨b, off + vn * 7 + 4, none⟩ = some (.int .u64 (im : Int))) (go_keep) (first
        | (go_at_call_of 32 (Value.int .u64 (prr : Int)); refine (unhide HCL _).mono ?_; rintro e w2 ⟨rfl, hq⟩; have hq2 := hq.symm; subst hq2; clear hq)
        | (go_at_call 32; refine (unhide HCM _).mono ?_; rintro e w2 ⟨rfl, hq⟩; have hq2 := hq.symm; subst hq2; clear hq))
      all_goals
        go_upto_region 19 with fail
        refine world_at (R := fun Y => CZ w va vn vc l xn Y ∧ Blk Y xn #[.int .i64 5, .bool false, .int .i64 0, .int .u64 (cp : Int), .int .u64 (cq : Int), .slice none 0 0, .slice none 0 0] 62) ⟨(((unhide HZ).call ((Kept.refl [] X).drew)).set 3 _).set 4 _, (((unhide HBX).kept (F := []) ((Kept.refl [] X).drew) (by simp)).set 3 _).set 4 _⟩ ?_
        clear z0 z1 z2 z3 z4 z5 z6 fx
        rintro Y ⟨hzf, hbf⟩
        obtain ⟨z0, z1, z2, z3, z4, z5, z6⟩ := blk7 hbf
        have HZF := hide hzf
        have HOA := hide (hzf.own.kept (F := []) ((Kept.refl [] Y).alloc (.cells #[.int .i64 5, .bool false, .int .i64 0, .int .u64 (cp : Int), .int .u64 (cq : Int), .slice none 0 0, .slice none 0 0] 62)) (by simp))
        have HCE := hide (cells_seven_new Y (.int .i64 5) (.bool false) (.int .i64 0) (.int .u64 (cp : Int)) (.int .u64 (cq : Int)) (.slice none 0 0) (.slice none 0 0) 62)
        have HBA : Hid (w.heap.size ≤ (Y.alloc (.cells #[.int .i64 5, .bool false, .int .i64 0, .int .u64 (cp : Int), .int .u64 (cq : Int), .slice none 0 0, .slice none 0 0] 62)).heap.size) := (hzf.kept.alloc _).size
        have HOB : Hid (∀ y, (Value.slice va vn vc).ownBlock = some y → w.heap.size ≤ y) := fun y hy => (hzf.row.lt y hy).1
        clear hzf hbf
        go_wp2_with (first | (at_builtin; refine wpList_append_part (e := ⟨{ hd0 5 with re := cp, pr := cp, im := cq }, .slice none 0 0, .slice none 0 0, .nil⟩) _ rfl _ _ rfl rfl HOA HLN rfl HCE (by intro u hu; simp [cellsPt] at hu; rcases hu with rfl | rfl | rfl | rfl | rfl | rfl | rfl <;> rfl) HVN HBA ?_))
        intro va' vc' w6 HO6 HK6
        have HKF : Hid (Kept [] w w6) := ((unhide HZF).kept.alloc _).trans (unhide HK6) (fun x hx => Or.inr (unhide HOB x (by simpa using hx)))
        go_wp2_with fail
        exact ⟨⟨vn + 1, _, s, l ++ [_], va', vn + 1, vc', by simp, rfl, by omega, rfl, by rw [List.length_append, unhide HLN]; rfl, unhide HROW2 _ (by simp [cleanPH, unhide HCP, unhide HCQ]) (by simp), unhide HRS2, by omega, unhide HC2, unhide HAT, unhide HO6 (ElPS.kept (F := []) ⟨⟨⟨by simp [hd0], by simp [hd0], by simp [hd0], by simp [hd0], hcl, hcl, hcm, by simp [hd0]⟩, rfl⟩, SeesIn.none _ _, RowPS.nil _ _⟩ ((Kept.refl [] Y).alloc _) (by simp)), unhide HKF⟩, by simp [intOf]; omega⟩
    by_cases hk6 : kind = 6
    · subst hk6
      have hkX : Kept [] X X.drew := (Kept.refl [] X).drew
      obtain ⟨v', w', hap, ho', hg', hat'⟩ := run_append_sees (P := Try.prog) X.drew X.heap.size 25 25 5 i0 (.int .u8 0) Try.underlying25 (unhide HI).1 (unhide HI).2.1 (unhide HI).2.2.1 (unhide HI).2.2.2 rfl (.slice none 0 0) [] (own_nil _ _) (.slice ta TL tc) text (((unhide HT).kept (unhide HZ).kept (Or.inr (by simp))).kept hkX (Or.inr (by simp))) (by rw [unhide HTL]; simp; omega) (Nat.le_refl _)
      obtain ⟨xa, xc, rfl⟩ := own_len ho'
      have hl' : ([] ++ text).length = TL := by rw [List.nil_append]; exact unhide HTL
      rw [hl'] at hap ho'
      rw [List.nil_append] at ho'
      have hkw : Kept [] X w' := hkX.grown hg' (fun k hk => (by simp [Value.ownBlock] at hk))
      have HAP := hide hap
      have HZ2 := hide ((unhide HZ).call hkw)
      have HB2 := hide ((unhide HBX).kept hkw (by simp))
      obtain ⟨y0, y1, y2, y3, y4, y5, y6⟩ := blk7 (unhide HB2)
      have fy := (unhide HB2).frozen
      have HTS := hide (cl_text (unhide HZ) (unhide HBX) (unhide HTL) (unhide HO8) ho')
      have hTLb : TL ≤ 140737488355328 := by have := hcs; omega
      clear hap ho' hg' hat' hkw hkX hl'
      go_upto_region 16 with fail
      go_region_law (refine step_append_runE (by rfl) _ _ 25 25 (by rfl) _ _ (by rfl) (by rfl) (unhide HAP) ?_)
      all_goals
        go_upto_region 19 with fail
        refine world_at (R := fun Y => CZ w va vn vc l xn Y ∧ Blk Y xn #[.int .i64 6, .bool false, .int .i64 0, .int .u64 0, .int .u64 0, .slice xa TL xc, .slice none 0 0] 62 ∧ SeesIn (fun x => w.heap.size ≤ x ∧ (Value.slice va vn vc).ownBlock ≠ some x) Y (.slice xa TL xc) text) ⟨(unhide HZ2).set 5 _, (unhide HB2).set 5 _, unhide HTS⟩ ?_
        clear z0 z1 z2 z3 z4 z5 z6 fx
        rintro Y ⟨hzf, hbf, hex⟩
        obtain ⟨z0, z1, z2, z3, z4, z5, z6⟩ := blk7 hbf
        have HZF := hide hzf
        have HEX := hide hex
        clear hex
        have HOA := hide (hzf.own.kept (F := []) ((Kept.refl [] Y).alloc (.cells #[.int .i64 6, .bool false, .int .i64 0, .int .u64 0, .int .u64 0, .slice xa TL xc, .slice none 0 0] 62)) (by simp))
        have HCE := hide (cells_seven_new Y (.int .i64 6) (.bool false) (.int .i64 0) (.int .u64 0) (.int .u64 0) (.slice xa TL xc) (.slice none 0 0) 62)
        have HBA : Hid (w.heap.size ≤ (Y.alloc (.cells #[.int .i64 6, .bool false, .int .i64 0, .int .u64 0, .int .u64 0, .slice xa TL xc, .slice none 0 0] 62)).heap.size) := (hzf.kept.alloc _).size
        have HOB : Hid (∀ y, (Value.slice va vn vc).ownBlock = some y → w.heap.size ≤ y) := fun y hy => (hzf.row.lt y hy).1
        clear hzf hbf
        go_wp2_with (first | (at_builtin; refine wpList_append_part (e := ⟨{ hd0 6 with text := text }, .slice xa TL xc, .slice none 0 0, .nil⟩) _ rfl _ _ rfl rfl HOA HLN rfl HCE (by intro u hu; simp [cellsPt] at hu; rcases hu with rfl | rfl | rfl | rfl | rfl | rfl | rfl <;> rfl) HVN HBA ?_))
        intro va' vc' w6 HO6 HK6
        have HKF : Hid (Kept [] w w6) := ((unhide HZF).kept.alloc _).trans (unhide HK6) (fun x hx => Or.inr (unhide HOB x (by simpa using hx)))
        go_wp2_with fail
        exact ⟨⟨vn + 1, _, s, l ++ [_], va', vn + 1, vc', by simp, rfl, by omega, rfl, by rw [List.length_append, unhide HLN]; rfl, unhide HROW2 _ (by simp [cleanPH]) (by simp), unhide HRS2, by omega, unhide HC2, unhide HAT, unhide HO6 (ElPS.kept (F := []) ⟨⟨⟨by simp [hd0], by simp [hd0], by simp [hd0], by simp [hd0], by simp [hd0], by simp [hd0], by simp [hd0], unhide HO8⟩, rfl⟩, unhide HEX, RowPS.nil _ _⟩ ((Kept.refl [] Y).alloc _) (by simp)), unhide HKF⟩, by simp [intOf]; omega⟩
    by_cases hk7 : kind = 7
    · subst hk7
      have HCC := hide (unhide HC1 X (unhide HZ).kept)
      go_upto_region 19 with (first | (go_at_call 14; refine (unhide HCC).mono ?_; rintro e w2 ⟨⟨qa, qn, qc, rfl, hps⟩, hk2⟩; have HZ2 := hide ((unhide HZ).call hk2); have HB2 := hide ((unhide HBX).kept hk2 (by simp)); clear z0 z1 z2 z3 z4 z5 z6 fx; obtain ⟨z0, z1, z2, z3, z4, z5, z6⟩ := blk7 (unhide HB2); have fx := (unhide HB2).frozen; have HPS := hide (cl_parts (unhide HZ) (unhide HBX) hps); clear hps hk2 HCC))
      refine world_at (R := fun Y => CZ w va vn vc l xn Y ∧ Blk Y xn #[.int .i64 7, .bool false, .int .i64 0, .int .u64 0, .int .u64 0, .slice none 0 0, .slice qa qn qc] 62 ∧ RowPS (fun x => w.heap.size ≤ x ∧ (Value.slice va vn vc).ownBlock ≠ some x) Y (.slice qa qn qc) (cleanPR p)) ⟨(unhide HZ2).set 6 _, (unhide HB2).set 6 _, unhide HPS⟩ ?_
      clear z0 z1 z2 z3 z4 z5 z6 fx
      rintro Y ⟨hzf, hbf, hex⟩
      obtain ⟨z0, z1, z2, z3, z4, z5, z6⟩ := blk7 hbf
      have HZF := hide hzf
      have HEX := hide hex
      clear hex
      have HOA := hide (hzf.own.kept (F := []) ((Kept.refl [] Y).alloc (.cells #[.int .i64 7, .bool false, .int .i64 0, .int .u64 0, .int .u64 0, .slice none 0 0, .slice qa qn qc] 62)) (by simp))
      have HCE := hide (cells_seven_new Y (.int .i64 7) (.bool false) (.int .i64 0) (.int .u64 0) (.int .u64 0) (.slice none 0 0) (.slice qa qn qc) 62)
      have HBA : Hid (w.heap.size ≤ (Y.alloc (.cells #[.int .i64 7, .bool false, .int .i64 0, .int .u64 0, .int .u64 0, .slice none 0 0, .slice qa qn qc] 62)).heap.size) := (hzf.kept.alloc _).size
      have HOB : Hid (∀ y, (Value.slice va vn vc).ownBlock = some y → w.heap.size ≤ y) := fun y hy => (hzf.row.lt y hy).1
      clear hzf hbf
      go_wp2_with (first | (at_builtin; refine wpList_append_part (e := ⟨hd0 7, .slice none 0 0, .slice qa qn qc, cleanPR p⟩) _ rfl _ _ rfl rfl HOA HLN rfl HCE (by intro u hu; simp [cellsPt] at hu; rcases hu with rfl | rfl | rfl | rfl | rfl | rfl | rfl <;> rfl) HVN HBA ?_))
      intro va' vc' w6 HO6 HK6
      have HKF : Hid (Kept [] w w6) := ((unhide HZF).kept.alloc _).trans (unhide HK6) (fun x hx => Or.inr (unhide HOB x (by simpa using hx)))
      go_wp2_with fail
      exact ⟨⟨vn + 1, _, s, l ++ [_], va', vn + 1, vc', by simp, rfl, by omega, rfl, by rw [List.length_append, unhide HLN]; rfl, unhide HROW2 _ (by simp [cleanPH]) (by simp), unhide HRS2, by omega, unhide HC2, unhide HAT, unhide HO6 (ElPS.kept (F := []) ⟨⟨hd0_ok 7 (by omega) (by omega), rfl⟩, SeesIn.none _ _, unhide HEX⟩ ((Kept.refl [] Y).alloc _) (by simp)), unhide HKF⟩, by simp [intOf]; omega⟩
    have t2 : (kind == 2) = false := by simpa using hk2
    have t3 : (kind == 3) = false := by simpa using hk3
    have t4 : (kind == 4) = false := by simpa using hk4
    have t5 : (kind == 5) = false := by simpa using hk5
    have t6 : (kind == 6) = false := by simpa using hk6
    have t7 : (kind == 7) = false := by simpa using hk7
    go_upto_region 19 with fail
    refine world_at (R := fun Y => CZ w va vn vc l xn Y ∧ Blk Y xn #[.int .i64 kind, .bool false, .int .i64 0, .int .u64 0, .int .u64 0, .slice none 0 0, .slice none 0 0] 62) ⟨unhide HZ, unhide HBX⟩ ?_
    clear z0 z1 z2 z3 z4 z5 z6 fx
    rintro Y ⟨hzf, hbf⟩
    obtain ⟨z0, z1, z2, z3, z4, z5, z6⟩ := blk7 hbf
    have HZF := hide hzf
    have HOA := hide (hzf.own.kept (F := []) ((Kept.refl [] Y).alloc (.cells #[.int .i64 kind, .bool false, .int .i64 0, .int .u64 0, .int .u64 0, .slice none 0 0, .slice none 0 0] 62)) (by simp))
    have HCE := hide (cells_seven_new Y (.int .i64 kind) (.bool false) (.int .i64 0) (.int .u64 0) (.int .u64 0) (.slice none 0 0) (.slice none 0 0) 62)
    have HBA : Hid (w.heap.size ≤ (Y.alloc (.cells #[.int .i64 kind, .bool false, .int .i64 0, .int .u64 0, .int .u64 0, .slice none 0 0, .slice none 0 0] 62)).heap.size) := (hzf.kept.alloc _).size
    have HOB : Hid (∀ y, (Value.slice va vn vc).ownBlock = some y → w.heap.size ≤ y) := fun y hy => (hzf.row.lt y hy).1
    clear hzf hbf
    go_wp2_with (first | (at_builtin; refine wpList_append_part (e := ⟨hd0 kind, .slice none 0 0, .slice none 0 0, .nil⟩) _ rfl _ _ rfl rfl HOA HLN rfl HCE (by intro u hu; simp [cellsPt] at hu; rcases hu with rfl | rfl | rfl | rfl | rfl | rfl | rfl <;> rfl) HVN HBA ?_))
    intro va' vc' w6 HO6 HK6
    have HKF : Hid (Kept [] w w6) := ((unhide HZF).kept.alloc _).trans (unhide HK6) (fun x hx => Or.inr (unhide HOB x (by simpa using hx)))
    go_wp2_with fail
    exact ⟨⟨vn + 1, _, s, l ++ [_], va', vn + 1, vc', by simp, rfl, by omega, rfl, by rw [List.length_append, unhide HLN]; rfl, unhide HROW2 _ (by simp [cleanPH, hk2, hk3, hk4, hk5, hk6]) (by simp [hk7]), unhide HRS2, by omega, unhide HC2, unhide HAT, unhide HO6 (ElPS.kept (F := []) ⟨⟨⟨o1, o2, by simp [hd0], by simp [hd0], by simp [hd0], by simp [hd0], by simp [hd0], by simp [hd0]⟩, rfl⟩, SeesIn.none _ _, RowPS.nil _ _⟩ ((Kept.refl [] Y).alloc _) (by simp)), unhide HKF⟩, by simp [intOf]; omega⟩
end Go.Proofs.Ytigmofbammofbab
