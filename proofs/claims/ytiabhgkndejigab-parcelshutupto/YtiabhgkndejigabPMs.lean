/- ParcelShut: plain words and what its walk leans on. -/
import Derived.Test.YtiabhgkndejigabPFq
import Derived.Test.YtiabhgkndejigabPW
import Derived.Test.YtiabhgkndejigabPT
import Derived.Deep.DeepCutAuto
namespace Go.Proofs.Ytiabhgkndejigab
open Go.RowKit

/-- A reader in a frame behind which B stands, by the one over the frame's bytes by themselves. -/
def lift (B : List Nat) (s : RS) : RS := if s.fault ≠ 0 then s else ⟨0, s.left, B :: s.behind⟩

theorem lift_ok (B l : List Nat) (bh : List (List Nat)) : lift B ⟨0, l, bh⟩ = ⟨0, l, B :: bh⟩ := by simp [lift]
theorem lift_rF (B : List Nat) (c : Nat) (hc : c ≠ 0) : lift B (rF c) = rF c := by unfold lift; rw [if_pos (by exact hc)]

theorem shut_step (B l : List Nat) (bh : List (List Nat)) (hl : ∀ x ∈ l, x < 256) (K : Nat) (hK : K < 9) (i : Int) (h8 : K = 8 → 0 < bh.length ∧ l = []) (h7 : K = 7 → bh.length < 15) :
    takenS ⟨0, l, B :: bh⟩ K i = (lift B (takenS ⟨0, l, bh⟩ K i).1, (takenS ⟨0, l, bh⟩ K i).2) ∧
    (((takenS ⟨0, l, bh⟩ K i).1 = rF 10 ∨ (takenS ⟨0, l, bh⟩ K i).1 = rF 11) ∨
      ∃ l' bh', (takenS ⟨0, l, bh⟩ K i).1 = ⟨0, l', bh'⟩ ∧ (K = 7 → bh'.length = bh.length + 1) ∧ (K = 8 → bh'.length + 1 = bh.length) ∧ (K < 7 → bh'.length = bh.length)) := by
  have leafs : K < 7 → (((takenS ⟨0, l, bh⟩ K i).1 = rF 10 ∨ (takenS ⟨0, l, bh⟩ K i).1 = rF 11) ∨
      ∃ l' bh', (takenS ⟨0, l, bh⟩ K i).1 = ⟨0, l', bh'⟩ ∧ (K = 7 → bh'.length = bh.length + 1) ∧ (K = 8 → bh'.length + 1 = bh.length) ∧ (K < 7 → bh'.length = bh.length)) := by
    intro hk
    rcases one_form (s := ⟨0, l, bh⟩) rfl hl K hk i none 0 with ⟨h1, _, h3⟩ | h | h
    · right
      refine ⟨(takenS ⟨0, l, bh⟩ K i).1.left, (takenS ⟨0, l, bh⟩ K i).1.behind, ?_, fun e => by omega, fun e => by omega, fun _ => by rw [h3]⟩
      have hs : ∀ s : RS, s.fault = 0 → s = ⟨0, s.left, s.behind⟩ := by rintro ⟨f, l, b⟩ h; simp only at h; subst h; rfl
      exact hs _ h1
    · exact Or.inl (Or.inl h)
    · exact Or.inl (Or.inr h)
  match K, hK with
  | 0, _ =>
    refine ⟨?_, leafs (by omega)⟩
    cases l with
    | nil => simp [takenS, rByte, lift_rF]
    | cons x l => simp [takenS, rByte, lift_ok]
  | 1, _ =>
    refine ⟨?_, leafs (by omega)⟩
    simp only [takenS, rFixed, ne_eq, not_true_eq_false, if_false]
    split
    · rw [lift_rF _ _ (by omega)]
    · split
      · rw [lift_rF _ _ (by omega)]
      · rw [lift_ok]
  | 2, _ =>
    refine ⟨?_, leafs (by omega)⟩
    simp only [takenS, rNum, ne_eq, not_true_eq_false, if_false]
    cases hr : readNum 0 0 l with
    | inl c => rcases readNum_code _ _ _ hr with rfl | rfl <;> simp only [lift_rF _ _ (show (10 : Nat) ≠ 0 by omega), lift_rF _ _ (show (11 : Nat) ≠ 0 by omega)]
    | inr p => obtain ⟨n, r⟩ := p; simp only [lift_ok]
  | 3, _ =>
    refine ⟨?_, leafs (by omega)⟩
    simp only [takenS, rInt, rNum, ne_eq, not_true_eq_false, if_false]
    cases hr : readNum 0 0 l with
    | inl c => rcases readNum_code _ _ _ hr with rfl | rfl <;> simp only [lift_rF _ _ (show (10 : Nat) ≠ 0 by omega), lift_rF _ _ (show (11 : Nat) ≠ 0 by omega)]
    | inr p => obtain ⟨n, r⟩ := p; simp only [lift_ok]
  | 4, _ =>
    refine ⟨?_, leafs (by omega)⟩
    simp only [takenS, rReal, ne_eq, not_true_eq_false, if_false]
    split
    · rw [lift_rF _ _ (by omega)]
    · split
      · rw [lift_rF _ _ (by omega)]
      · rw [lift_ok]
  | 5, _ =>
    refine ⟨?_, leafs (by omega)⟩
    simp only [takenS, rRaw, ne_eq, not_true_eq_false, if_false]
    split
    · rw [lift_rF _ _ (by omega)]
    · split
      · rw [lift_rF _ _ (by omega)]
      · rw [lift_ok]
  | 6, _ =>
    refine ⟨?_, leafs (by omega)⟩
    simp only [takenS, rText, ne_eq, not_true_eq_false, if_false]
    cases hr : readNum 0 0 l with
    | inl c => rcases readNum_code _ _ _ hr with rfl | rfl <;> simp only [lift_rF _ _ (show (10 : Nat) ≠ 0 by omega), lift_rF _ _ (show (11 : Nat) ≠ 0 by omega)]
    | inr p =>
      obtain ⟨n, r⟩ := p
      simp only
      split
      · rw [lift_rF _ _ (by omega)]
      · split
        · rw [lift_rF _ _ (by omega)]
        · rw [lift_ok]
  | 7, _ =>
    have hd := h7 rfl
    simp only [takenS, rEnter, ne_eq, not_true_eq_false, if_false, List.length_cons]
    rw [if_neg (by omega), if_neg (by omega)]
    cases hr : readNum 0 0 l with
    | inl c =>
      rcases readNum_code _ _ _ hr with rfl | rfl
      · exact ⟨by simp only [lift_rF _ _ (show (10 : Nat) ≠ 0 by omega)], Or.inl (Or.inl rfl)⟩
      · exact ⟨by simp only [lift_rF _ _ (show (11 : Nat) ≠ 0 by omega)], Or.inl (Or.inr rfl)⟩
    | inr p =>
      obtain ⟨n, r⟩ := p
      simp only
      split
      · exact ⟨by rw [lift_rF _ _ (by omega)], Or.inl (Or.inl rfl)⟩
      · refine ⟨by rw [lift_ok]; rfl, Or.inr ⟨_, _, rfl, fun _ => by simp, fun e => by omega, fun e => by omega⟩⟩
  | 8, _ =>
    obtain ⟨hd, rfl⟩ := h8 rfl
    have hne : bh ≠ [] := List.length_pos_iff.1 hd
    simp only [takenS, rLeave, ne_eq, not_true_eq_false, if_false, reduceCtorEq]
    rw [if_neg hne]
    refine ⟨?_, Or.inr ⟨_, _, rfl, fun e => by omega, fun _ => by simp; omega, fun e => by omega⟩⟩
    rw [lift_ok]
    have e1 : (B :: bh).getD ((B :: bh).length - 1) [] = bh.getD (bh.length - 1) [] := by
      obtain ⟨x, t, rfl⟩ : ∃ x t, bh = x :: t := by
        cases bh with
        | nil => exact absurd rfl hne
        | cons x t => exact ⟨x, t, rfl⟩
      simp [List.getD]
    have e2 : (B :: bh).dropLast = B :: bh.dropLast := List.dropLast_cons_of_ne_nil hne
    rw [e1, e2]

theorem done_lift (B l : List Nat) (bh : List (List Nat)) : rDone (lift B ⟨0, l, bh⟩) = 12 := by rw [lift_ok, rDone, if_neg (by simp), if_neg (by simp)]
theorem rest_lift (B l : List Nat) (bh : List (List Nat)) : rRest (lift B ⟨0, l, bh⟩) = l.length := by rw [lift_ok, rRest, if_neg (by simp)]
theorem done_zero (l : List Nat) (bh : List (List Nat)) : rDone ⟨0, l, bh⟩ = 0 ∨ rDone ⟨0, l, bh⟩ = 12 := by
  rw [rDone, if_neg (by simp)]; split; exact Or.inl rfl; exact Or.inr rfl

/-- Two readers of the call's own, apart. -/
def Duo (w : World) (rb : Nat) (r : RS) (sb : Nat) (s : RS) (w' : World) : Prop := ∃ F G, Rs w' rb F r ∧ Rs w' sb G s ∧ Kept [] w w' ∧ (∀ x ∈ F, w.heap.size ≤ x) ∧ (∀ x ∈ G, w.heap.size ≤ x) ∧ ∀ x ∈ F, x ∉ G
theorem Duo.kept {w W w' : World} {rb sb : Nat} {r s : RS} (h : Duo w rb r sb s W) (k : Kept [] W w') : Duo w rb r sb s w' := by
  obtain ⟨F, G, g1, g2, g3, g4⟩ := h
  exact ⟨F, G, g1.kept k (by simp), g2.kept k (by simp), g3.trans k (by simp), g4⟩
theorem Duo.left {w W w' : World} {rb sb : Nat} {r s r' : RS} {F G : List Nat} (h : Rs W rb F r ∧ Rs W sb G s ∧ Kept [] w W ∧ (∀ x ∈ F, w.heap.size ≤ x) ∧ (∀ x ∈ G, w.heap.size ≤ x) ∧ ∀ x ∈ F, x ∉ G) (hp : RsP W rb F r' w') :
    ∃ F', Rs w' rb F' r' ∧ Rs w' sb G s ∧ Kept [] w w' ∧ (∀ x ∈ F', w.heap.size ≤ x) ∧ (∀ x ∈ G, w.heap.size ≤ x) ∧ ∀ x ∈ F', x ∉ G := by
  obtain ⟨h1, h2, h3, h4, h5, h6⟩ := h
  obtain ⟨F', g1, g2, g3⟩ := hp
  refine ⟨F', g1, h2.kept g2 (fun x hx hf => h6 x hf hx), h3.trans g2 (fun x hx => Or.inr (h4 x hx)), fun x hx => ?_, h5, apart_go h2.lt g3 h6⟩
  rcases g3 x hx with h' | h'
  · exact h4 x h'
  · have := h3.size; omega
theorem Duo.right {w W w' : World} {rb sb : Nat} {r s s' : RS} {F G : List Nat} (h : Rs W rb F r ∧ Rs W sb G s ∧ Kept [] w W ∧ (∀ x ∈ F, w.heap.size ≤ x) ∧ (∀ x ∈ G, w.heap.size ≤ x) ∧ ∀ x ∈ F, x ∉ G) (hp : RsP W sb G s' w') :
    ∃ G', Rs w' rb F r ∧ Rs w' sb G' s' ∧ Kept [] w w' ∧ (∀ x ∈ F, w.heap.size ≤ x) ∧ (∀ x ∈ G', w.heap.size ≤ x) ∧ ∀ x ∈ F, x ∉ G' := by
  obtain ⟨h1, h2, h3, h4, h5, h6⟩ := h
  obtain ⟨G', g1, g2, g3⟩ := hp
  refine ⟨G', h1.kept g2 h6, g1, h3.trans g2 (fun x hx => Or.inr (h5 x hx)), h4, fun x hx => ?_, fun x hx hg => ?_⟩
  · rcases g3 x hx with h' | h'
    · exact h5 x h'
    · have := h3.size; omega
  · rcases g3 x hg with h' | h'
    · exact h6 x hx h'
    · have := h1.lt x hx; omega
end Go.Proofs.Ytiabhgkndejigab

namespace Go.Proofs.Ytiabhgkndejigab
open Go.RowKit

set_option maxRecDepth 100000 in
set_option maxHeartbeats 400000 in
theorem clone_wide {w : World} {x : Value} {bs : List Nat} (h : Wide w x bs) (hl : bs.length ≤ 140737488355328) :
    Calls Try.prog 40 #[x] w fun e w' => ∃ a cap, e = .returned (.slice a bs.length cap) ∧ w'.ownsRow w.heap.size 5 1 (.slice a bs.length cap) bs.length (u8s bs) ∧ Kept [] w w' := by
  rcases h with h | ⟨a0, rfl, rfl⟩
  · exact clone_any h hl
  · obtain ⟨i0, hi, hz0, hz1, hz2⟩ := info_parts Try.info5
    have e0 := fun (a : Option Addr) (n c : Nat) (w : World) => Lib.run_eql_slice_nil (P := Try.prog) w 22 5 a n c 0 0 Try.underlying22
    have hs : Wide (w.alloc (.cells #[] 5)) (.slice (some a0) 0 0) [] := Or.inr ⟨a0, rfl, rfl⟩
    clear hl
    go_enter Try.func40, Try.ntmps40
    go_wp2_with (at_builtin; refine wpList_append_wide _ rfl _ _ 22 rfl w.heap.size 5 i0 (.int .u8 0) Try.underlying22 hi hz0 hz1 hz2 rfl _ [] rfl (World.ownsRow_made w #[] 0 (Nat.le_refl _) (Nat.zero_le _) rfl) _ [] rfl hs ?c1 ?c2 ?_)
    case c1 => simp
    case c2 => simp
    intro v' w1 hown hg hat
    obtain ⟨a, c, hv⟩ := own_len hown
    subst hv
    go_wp2
    go_ret
    exact ⟨a, c, rfl, by simpa using hown, ((Kept.refl [] w).alloc _).grown hg (fun k hk => by simp [Value.ownBlock] at hk; right; omega)⟩

set_option maxRecDepth 100000 in
set_option maxHeartbeats 400000 in
theorem read_w {w : World} {x : Value} {bs : List Nat} (h : Wide w x bs) (hl : bs.length ≤ 140737488355328) (hb : ∀ x ∈ bs, x < 256) :
    Calls Try.prog 9 #[x] w fun e w' => ∃ b F, e = .returned (.pointer (some ⟨b, 0, none⟩)) ∧ Rs w' b F ⟨0, bs, []⟩ ∧ (∀ x ∈ F, w.heap.size ≤ x) ∧ Kept [] w w' := by
  have HC := hide (clone_wide h hl)
  have HB := hide hb
  clear h hb
  go_enter Try.func9, Try.ntmps9
  go_wp2_with (first | (go_at_call 40; refine (unhide HC).mono ?_; rintro e w1 ⟨ca, cc, rfl, hfo, hk1⟩))
  go_ret
  have hks := hk1.size
  have hr : Rd (w1.alloc (.cells #[.slice ca bs.length cc, .slice none 0 0, .int .i64 0] 62)) w1.heap.size (.slice ca bs.length cc) nilS bs :=
    ⟨Blk.new _ _ _, sees_alloc _ (Sees.of_own hfo), fun e => by have := (hfo.lt _ e).2; omega, hl⟩
  refine ⟨w1.heap.size, _, rfl, Or.inr ⟨rfl, unhide HB, by simp, _, nilS, [], _, Rf.new hr, rfl⟩, fun x hx => ?_, hk1.alloc _⟩
  simp only [rfoot, nilS, List.mem_append, List.mem_cons, Option.mem_toList] at hx
  rcases hx with hx | rfl | hx
  · exact (hfo.lt x hx).1
  · exact hks
  · cases hx

theorem Rs.bytes {w : World} {b : Nat} {F : List Nat} {s : RS} (h : Rs w b F s) (h0 : s.fault = 0) : (∀ x ∈ s.left, x < 256) ∧ ∀ r ∈ s.behind, ∀ x ∈ r, x < 256 := by
  rcases h with ⟨h1, _⟩ | ⟨_, h3, h4, _⟩
  · exact absurd h0 h1
  · exact ⟨h3, h4⟩

theorem rRest_rF (c : Nat) (hc : c ≠ 0) : rRest (rF c) = 0 := by rw [rRest, if_pos (by exact hc)]
theorem rDone_rF (c : Nat) (hc : c ≠ 0) : rDone (rF c) = c := by rw [rDone, if_pos (by exact hc)]; rfl

/-- A writer of the call's own. -/
def WOwnS (w : World) (b : Nat) (s : WS) (w' : World) : Prop := ∃ F, Ws w' b F s ∧ Kept [] w w' ∧ ∀ x ∈ F, w.heap.size ≤ x
theorem WOwnS.go {w W w' : World} {b : Nat} {F : List Nat} {s s' : WS} (h : Ws W b F s ∧ Kept [] w W ∧ ∀ x ∈ F, w.heap.size ≤ x) (hp : WsP W b F s' w') : WOwnS w b s' w' := by
  obtain ⟨F', g1, g2, g3⟩ := hp
  refine ⟨F', g1, h.2.1.trans g2 (fun x hx => Or.inr (h.2.2 x hx)), fun x hx => ?_⟩
  rcases g3 x hx with h' | h'
  · exact h.2.2 x h'
  · have := h.2.1.size; omega

/-- Behind both calls, whenever the two boxes were made. -/
theorem fin2 {w wr W w4 W2 w5 wc : World} {rb sb q1 q2 : Nat} {r s r1 s1 : RS} {F G : List Nat} {P : List Nat} {ta ua : Option Addr} {tc uc : Nat}
    (h : Rs wr rb F r ∧ Rs wr sb G s ∧ Kept [] w wr ∧ (∀ x ∈ F, w.heap.size ≤ x) ∧ (∀ x ∈ G, w.heap.size ≤ x) ∧ ∀ x ∈ F, x ∉ G)
    (kW : Kept [] wr W) (hp4 : RsP W rb F r1 w4) (ho4 : w4.ownsRow W.heap.size 5 1 (.slice ta P.length tc) P.length (u8s P)) (kW2 : Kept [] w4 W2) (hp5 : RsP W2 sb G s1 w5) (ho5 : w5.ownsRow W2.heap.size 5 1 (.slice ua P.length uc) P.length (u8s P)) (kf : Kept [q1, q2] w5 wc)
    (h1 : (wr.heap.size ≤ q1 ∧ q1 < W.heap.size) ∨ (w4.heap.size ≤ q1 ∧ q1 < W2.heap.size) ∨ w5.heap.size ≤ q1) (h2 : (wr.heap.size ≤ q2 ∧ q2 < W.heap.size) ∨ (w4.heap.size ≤ q2 ∧ q2 < W2.heap.size) ∨ w5.heap.size ≤ q2) :
    Duo w rb r1 sb s1 wc ∧ Sees wc (.slice ta P.length tc) P ∧ Sees wc (.slice ua P.length uc) P := by
  obtain ⟨o1, o2, o3, o4, o5, o6⟩ := h
  obtain ⟨F', a1, a2, a3⟩ := Duo.left ⟨o1.kept kW (by simp), o2.kept kW (by simp), o3.trans kW (by simp), o4, o5, o6⟩ hp4
  have k4 := hp4.kepts
  have k5 := hp5.kepts
  have hF4 := a1.lt
  obtain ⟨F'', b1, b2, b3⟩ := hp4
  have s0 := kW.size
  have s1 := k4.size
  have s2 := kW2.size
  have s3 := k5.size
  -- both readers at w4
  have c1 := b1.kept kW2 (by simp)
  have c2 := a2.kept kW2 (by simp)
  have hFlt : ∀ x ∈ F'', x ∈ F ∨ W.heap.size ≤ x := b3
  have hF0 := o1.lt
  have hG0 := o2.lt
  have dis : ∀ x ∈ F'', x ∉ G := apart_go (w := W) (fun x hx => by have := hG0 x hx; omega) b3 o6
  have hF4' := b1.lt
  have d1 := c1.kept k5 dis
  obtain ⟨G', e1, e2, e3⟩ := hp5
  have nq : ∀ q, ((wr.heap.size ≤ q ∧ q < W.heap.size) ∨ (w4.heap.size ≤ q ∧ q < W2.heap.size) ∨ w5.heap.size ≤ q) → q ∉ F'' ∧ q ∉ G' := by
    intro q hq
    refine ⟨fun hf => ?_, fun hg => ?_⟩
    · have g1 := hF4' q hf
      rcases hFlt q hf with g | g
      · have := hF0 q g; omega
      · omega
    · have g1 := e1.lt q hg
      rcases e3 q hg with g | g
      · have := hG0 q g; omega
      · omega
  have n1 := nq q1 h1
  have n2 := nq q2 h2
  have hw := o3.size
  have hFd : ∀ x ∈ F'', w.heap.size ≤ x := fun x hx => by
    rcases hFlt x hx with g | g
    · exact o4 x g
    · omega
  have hGd : ∀ x ∈ G', w.heap.size ≤ x := fun x hx => by
    rcases e3 x hx with g | g
    · exact o5 x g
    · omega
  have dis2 : ∀ x ∈ F'', x ∉ G' := fun x hx hg => by
    rcases e3 x hg with g | g
    · exact dis x hx g
    · have := hF4' x hx; omega
  have mq : ∀ x ∈ F'', x ∉ [q1, q2] := fun x hx hq => by
    simp only [List.mem_cons, List.not_mem_nil, or_false] at hq
    rcases hq with rfl | rfl
    · exact n1.1 hx
    · exact n2.1 hx
  have mq2 : ∀ x ∈ G', x ∉ [q1, q2] := fun x hx hq => by
    simp only [List.mem_cons, List.not_mem_nil, or_false] at hq
    rcases hq with rfl | rfl
    · exact n1.2 hx
    · exact n2.2 hx
  have kall : Kept [] w wc := by
    have t1 : Kept [] w w4 := (o3.trans kW (by simp)).trans b2 (fun x hx => Or.inr (o4 x hx))
    have t2 : Kept [] w w5 := (t1.trans kW2 (by simp)).trans e2 (fun x hx => Or.inr (o5 x hx))
    refine t2.trans kf (fun x hx => Or.inr ?_)
    have u2 := t2.size
    have u1 := t1.size
    simp only [List.mem_cons, List.not_mem_nil, or_false] at hx
    rcases hx with rfl | rfl
    · omega
    · omega
  refine ⟨⟨F'', G', d1.kept kf mq, e1.kept kf mq2, kall, hFd, hGd, dis2⟩, ?_, ?_⟩
  · have hs := (Sees.of_own ho4).kept kW2 (by simp)
    refine (hs.kept k5 (fun x hx hg => ?_)).kept kf (fun x hx hq => ?_)
    · have := (ho4.lt x hx).1; have := hG0 x hg; omega
    · have g1 := ho4.lt x hx
      simp only [List.mem_cons, List.not_mem_nil, or_false] at hq
      rcases hq with rfl | rfl <;> omega
  · refine (Sees.of_own ho5).kept kf (fun x hx hq => ?_)
    have g1 := ho5.lt x hx
    simp only [List.mem_cons, List.not_mem_nil, or_false] at hq
    rcases hq with rfl | rfl <;> omega

/-- What the writer makes of the frame and of what stands behind it. -/
theorem framed (I B : List Nat) (hI : I.length ≤ 1000000000) : wLay (wClose (wLay (wOpen (newWS (I.length + B.length + 10))) I)) B = ⟨I.length + B.length + 10, form I.length ++ I ++ B, [], 0⟩ := by
  have hf := form_le10 I.length (by omega)
  have e1 : wOpen (newWS (I.length + B.length + 10)) = ⟨I.length + B.length + 10, [], [0], 0⟩ := by simp [wOpen, newWS]
  have e2 : wLay ⟨I.length + B.length + 10, [], [0], 0⟩ I = ⟨I.length + B.length + 10, I, [0], 0⟩ := by
    simp only [wLay]; rw [if_neg (by simp), if_pos (by simp; omega)]; simp
  have e3 : wClose ⟨I.length + B.length + 10, I, [0], 0⟩ = ⟨I.length + B.length + 10, form I.length ++ I, [], 0⟩ := by
    simp only [wClose, List.getLast?_singleton]
    rw [if_neg (by simp), if_pos (by simp; omega)]
    simp
  rw [e1, e2, e3]
  simp only [wLay]
  rw [if_neg (by simp), if_pos (by simp; omega)]

/-- What a step takes as bytes is no longer than what was left. -/
theorem takenS_len (l : List Nat) (bh : List (List Nat)) (hl : ∀ x ∈ l, x < 256) (K : Nat) (i : Int) : (takenS ⟨0, l, bh⟩ K i).2.2.2.length ≤ l.length := by
  match K with
  | 0 => simp [takenS]
  | 1 => simp [takenS]
  | 2 => simp [takenS]
  | 3 => simp [takenS]
  | 4 => simp [takenS]
  | 5 =>
    simp only [takenS, rRaw, ne_eq, not_true_eq_false, if_false]
    split
    · simp
    · split
      · simp
      · simp; omega
  | 6 =>
    simp only [takenS, rText, ne_eq, not_true_eq_false, if_false]
    cases hr : readNum 0 0 l with
    | inl c => simp
    | inr p =>
      obtain ⟨n, r⟩ := p
      have h := readNum_lt l 0 0 (by omega) (by simp) hl hr
      simp only
      split
      · simp
      · split
        · simp
        · simp; omega
  | 7 => simp [takenS]
  | _ + 8 => simp [takenS]

theorem Rs.short {w : World} {b : Nat} {F : List Nat} {s : RS} (h : Rs w b F s) (h0 : s.fault = 0) : s.left.length ≤ 140737488355328 := by
  rcases h with ⟨h1, _⟩ | ⟨_, h3, h4, lv, bv, hs, D, h5, _⟩
  · exact absurd h0 h1
  · exact h5.rd.bl

/-- Behind a step: what the two readers then say. -/
theorem shut_says (B : List Nat) (r' : RS) (K D : Nat) (h : (r' = rF 10 ∨ r' = rF 11) ∨ ∃ l' bh', r' = ⟨0, l', bh'⟩ ∧ (K = 7 → bh'.length = D + 1) ∧ (K = 8 → bh'.length + 1 = D) ∧ (K < 7 → bh'.length = D)) :
    (∃ c, (c = 10 ∨ c = 11) ∧ rDone (lift B r') = c ∧ rDone r' = c ∧ rRest (lift B r') = 0 ∧ rRest r' = 0) ∨
      ∃ l' bh' c, (c = 0 ∨ c = 12) ∧ r' = ⟨0, l', bh'⟩ ∧ rDone (lift B r') = 12 ∧ rDone r' = c ∧ rRest (lift B r') = l'.length ∧ rRest r' = l'.length ∧ (K = 7 → bh'.length = D + 1) ∧ (K = 8 → bh'.length + 1 = D) ∧ (K < 7 → bh'.length = D) := by
  rcases h with (rfl | rfl) | ⟨l', bh', rfl, h1, h2, h3⟩
  · exact Or.inl ⟨10, Or.inl rfl, by rw [lift_rF _ _ (by omega), rDone_rF _ (by omega)], rDone_rF _ (by omega), by rw [lift_rF _ _ (by omega), rRest_rF _ (by omega)], rRest_rF _ (by omega)⟩
  · exact Or.inl ⟨11, Or.inr rfl, by rw [lift_rF _ _ (by omega), rDone_rF _ (by omega)], rDone_rF _ (by omega), by rw [lift_rF _ _ (by omega), rRest_rF _ (by omega)], rRest_rF _ (by omega)⟩
  · exact Or.inr ⟨l', bh', _, done_zero l' bh', rfl, done_lift B l' bh', rfl, rest_lift B l' bh', by rw [rRest, if_neg (by simp)], h1, h2, h3⟩
end Go.Proofs.Ytiabhgkndejigab

namespace Go.Proofs.Ytiabhgkndejigab
open Go.RowKit

theorem Blk.newAt {w : World} {cs : Array Value} {t : TypeId} {q : Nat} (h : w.heap.size = q) : Blk (w.alloc (.cells cs t)) q cs t := h ▸ Blk.new w cs t
theorem Blk.put4 {w : World} {q : Nat} {t : TypeId} {x0 x1 x2 x3 : Value} (h : Blk w q #[x0, x1, x2, x3] t) (a b c d : Value) :
    Blk ((((w.setCell ⟨q, 0, none⟩ a).setCell ⟨q, 1, none⟩ b).setCell ⟨q, 2, none⟩ c).setCell ⟨q, 3, none⟩ d) q #[a, b, c, d] t :=
  (((h.set 0 a).set 1 b).set 2 c).set 3 d
theorem Blk.oth4 {w : World} {q p : Nat} {cs : Array Value} {t : TypeId} (h : Blk w q cs t) (hn : q ≠ p) (a b c d : Value) :
    Blk ((((w.setCell ⟨p, 0, none⟩ a).setCell ⟨p, 1, none⟩ b).setCell ⟨p, 2, none⟩ c).setCell ⟨p, 3, none⟩ d) q cs t :=
  (((h.other _ hn a).other _ hn b).other _ hn c).other _ hn d
theorem Blk.drew' {w : World} {q : Nat} {cs : Array Value} {t : TypeId} (h : Blk w q cs t) : Blk w.drew q cs t := h
theorem kept4 {F : List Nat} {a w : World} {q : Nat} (h : Kept F a w) (hq : q ∈ F ∨ a.heap.size ≤ q) (u0 u1 u2 u3 : Value) :
    Kept F a ((((w.setCell ⟨q, 0, none⟩ u0).setCell ⟨q, 1, none⟩ u1).setCell ⟨q, 2, none⟩ u2).setCell ⟨q, 3, none⟩ u3) :=
  (((h.setCell (p := ⟨q, 0, none⟩) hq u0).setCell (p := ⟨q, 1, none⟩) hq u1).setCell (p := ⟨q, 2, none⟩) hq u2).setCell (p := ⟨q, 3, none⟩) hq u3

theorem leaf {w wr W w4 W2 w5 wc : World} {rb sb q1 q2 K n' PL : Nat} {I' : Int} {r s r1 s1 : RS} {F G : List Nat} {P : List Nat} {ta ua : Option Addr} {tc uc : Nat} (hPL : PL = P.length)
    (h : Rs wr rb F r ∧ Rs wr sb G s ∧ Kept [] w wr ∧ (∀ x ∈ F, w.heap.size ≤ x) ∧ (∀ x ∈ G, w.heap.size ≤ x) ∧ ∀ x ∈ F, x ∉ G)
    (hp4 : RsP W rb F r1 w4) (ho4 : w4.ownsRow W.heap.size 5 1 (.slice ta PL tc) PL (u8s P)) (hp5 : RsP W2 sb G s1 w5) (ho5 : w5.ownsRow W2.heap.size 5 1 (.slice ua PL uc) PL (u8s P))
    (kW : Kept [] wr W) (kW2 : Kept [] w4 W2) (kf : Kept [q1, q2] w5 wc)
    (h1 : (wr.heap.size ≤ q1 ∧ q1 < W.heap.size) ∨ (w4.heap.size ≤ q1 ∧ q1 < W2.heap.size) ∨ w5.heap.size ≤ q1) (h2 : (wr.heap.size ≤ q2 ∧ q2 < W.heap.size) ∨ (w4.heap.size ≤ q2 ∧ q2 < W2.heap.size) ∨ w5.heap.size ≤ q2)
    (B1 : Blk wc q1 #[.int .i64 (K : Nat), .int .u64 (n' : Nat), .int .i64 I', .slice ta PL tc] 35) (B2 : Blk wc q2 #[.int .i64 (K : Nat), .int .u64 (n' : Nat), .int .i64 I', .slice ua PL uc] 35) :
    ∃ q1' q2' ta' tc' ua' uc', Value.pointer (some ⟨q1, 0, none⟩) = .pointer (some ⟨q1', 0, none⟩) ∧ Value.pointer (some ⟨q2, 0, none⟩) = .pointer (some ⟨q2', 0, none⟩) ∧ wc.cell? ⟨q1', 1, none⟩ = some (.int .u64 (n' : Nat)) ∧ wc.cell? ⟨q1', 2, none⟩ = some (.int .i64 I') ∧ wc.cell? ⟨q1', 3, none⟩ = some (.slice ta' PL tc') ∧ wc.cell? ⟨q2', 1, none⟩ = some (.int .u64 (n' : Nat)) ∧ wc.cell? ⟨q2', 2, none⟩ = some (.int .i64 I') ∧ wc.cell? ⟨q2', 3, none⟩ = some (.slice ua' PL uc') ∧ Hid (Duo w rb r1 sb s1 wc ∧ Sees wc (.slice ta' P.length tc') P ∧ Sees wc (.slice ua' P.length uc') P) := by
  subst hPL
  exact ⟨q1, q2, ta, tc, ua, uc, rfl, rfl, (B1.cell 1).trans rfl, (B1.cell 2).trans rfl, (B1.cell 3).trans rfl, (B2.cell 1).trans rfl, (B2.cell 2).trans rfl, (B2.cell 3).trans rfl, hide (fin2 h kW hp4 ho4 kW2 hp5 ho5 kf h1 h2)⟩
end Go.Proofs.Ytiabhgkndejigab

namespace Go.Proofs.Ytiabhgkndejigab
open Go.RowKit
set_option linter.unusedSimpArgs false
set_option maxRecDepth 100000 in
theorem box0 {w8 wr w4 w5 : World} {rb sb K n' PL : Nat} {I' : Int} {B l : List Nat} {bh : List (List Nat)} {r' : RS} {F G P' : List Nat} {ta ua : Option Addr} {tc uc : Nat} (HPL : Hid (PL = P'.length))
   (HXX : Hid (Rs wr rb F (lift B ⟨0, l, bh⟩) ∧ Rs wr sb G ⟨0, l, bh⟩ ∧ Kept [] w8 wr ∧ (∀ x ∈ F, w8.heap.size ≤ x) ∧ (∀ x ∈ G, w8.heap.size ≤ x) ∧ ∀ x ∈ F, x ∉ G))
   (HP4 : Hid (RsP wr.drew rb F (lift B r') w4)) (HO4 : Hid (w4.ownsRow wr.drew.heap.size 5 1 (.slice ta PL tc) PL (u8s P'))) (HP5 : Hid (RsP w4 sb G r' w5)) (HO5 : Hid (w5.ownsRow w4.heap.size 5 1 (.slice ua PL uc) PL (u8s P'))) {wc : World} (hwc : wc = ((w5.alloc (.cells #[.int .i64 (K : Nat), .int .u64 (n' : Nat), .int .i64 I', .slice ta PL tc] 35)).alloc (.cells #[.int .i64 (K : Nat), .int .u64 (n' : Nat), .int .i64 I', .slice ua PL uc] 35))) :
   ∃ q1' q2' ta' tc' ua' uc', Value.pointer (some ⟨w5.heap.size, 0, none⟩) = .pointer (some ⟨q1', 0, none⟩) ∧ Value.pointer (some ⟨w5.heap.size + 1, 0, none⟩) = .pointer (some ⟨q2', 0, none⟩) ∧ wc.cell? ⟨q1', 1, none⟩ = some (.int .u64 (n' : Nat)) ∧ wc.cell? ⟨q1', 2, none⟩ = some (.int .i64 I') ∧ wc.cell? ⟨q1', 3, none⟩ = some (.slice ta' PL tc') ∧ wc.cell? ⟨q2', 1, none⟩ = some (.int .u64 (n' : Nat)) ∧ wc.cell? ⟨q2', 2, none⟩ = some (.int .i64 I') ∧ wc.cell? ⟨q2', 3, none⟩ = some (.slice ua' PL uc') ∧ Hid (Duo w8 rb (lift B r') sb r' wc ∧ Sees wc (.slice ta' P'.length tc') P' ∧ Sees wc (.slice ua' P'.length uc') P') := by
  subst hwc
  have HFL := hide (unhide HXX).1.lt
  have HGL := hide (unhide HXX).2.1.lt
  have zz4 := unhide HP4 |>.kepts.size
  have zz5 := unhide HP5 |>.kepts.size
  (try simp only [World.size_alloc, World.size_drew] at zz4)
  (try simp only [World.size_alloc, World.size_drew] at zz5)
  refine leaf (K := K) (unhide HPL) (unhide HXX) (unhide HP4) (unhide HO4) (unhide HP5) (unhide HO5) ?kW ?kW2 ?kf ?h1 ?h2 ?B1 ?B2
  case kW => (repeat (first | with_reducible exact Kept.refl _ _ | with_reducible refine Kept.drew ?_ | with_reducible refine Kept.alloc ?_ _ | with_reducible refine kept4 ?_ (Or.inl (by simp)) _ _ _ _))
  case kW2 => (repeat (first | with_reducible exact Kept.refl _ _ | with_reducible refine Kept.drew ?_ | with_reducible refine Kept.alloc ?_ _ | with_reducible refine kept4 ?_ (Or.inl (by simp)) _ _ _ _))
  case kf => (repeat (first | with_reducible exact Kept.refl _ _ | with_reducible refine Kept.drew ?_ | with_reducible refine Kept.alloc ?_ _ | with_reducible refine kept4 ?_ (Or.inl (by simp)) _ _ _ _))
  case h1 => first | (simp; done) | (simp; omega) | omega
  case h2 => first | (simp; done) | (simp; omega) | omega
  case B1 =>
    (repeat (first
      | (with_reducible refine Blk.newAt ?_; (first | (simp; done) | rfl))
      | with_reducible refine Blk.alloc ?_ _
      | with_reducible refine Blk.put4 (x0 := .int .i64 0) (x1 := .int .u64 0) (x2 := .int .i64 0) (x3 := .slice none 0 0) ?_ _ _ _ _
      | with_reducible refine Blk.oth4 ?_ (by omega) _ _ _ _
      | with_reducible refine Blk.drew' ?_
      | with_reducible refine Blk.kept ?_ (unhide HP5).kepts (fun hf => absurd (unhide HGL _ hf) (by omega))
      | with_reducible refine Blk.kept ?_ (unhide HP4).kepts (fun hf => absurd (unhide HFL _ hf) (by omega))))
  case B2 =>
    (repeat (first
      | (with_reducible refine Blk.newAt ?_; (first | (simp; done) | rfl))
      | with_reducible refine Blk.alloc ?_ _
      | with_reducible refine Blk.put4 (x0 := .int .i64 0) (x1 := .int .u64 0) (x2 := .int .i64 0) (x3 := .slice none 0 0) ?_ _ _ _ _
      | with_reducible refine Blk.oth4 ?_ (by omega) _ _ _ _
      | with_reducible refine Blk.drew' ?_
      | with_reducible refine Blk.kept ?_ (unhide HP5).kepts (fun hf => absurd (unhide HGL _ hf) (by omega))
      | with_reducible refine Blk.kept ?_ (unhide HP4).kepts (fun hf => absurd (unhide HFL _ hf) (by omega))))
set_option maxRecDepth 100000 in
theorem box1 {w8 wr w4 w5 : World} {rb sb K n' PL : Nat} {I' : Int} {B l : List Nat} {bh : List (List Nat)} {r' : RS} {F G P' : List Nat} {ta ua : Option Addr} {tc uc : Nat} (HPL : Hid (PL = P'.length))
   (HXX : Hid (Rs wr rb F (lift B ⟨0, l, bh⟩) ∧ Rs wr sb G ⟨0, l, bh⟩ ∧ Kept [] w8 wr ∧ (∀ x ∈ F, w8.heap.size ≤ x) ∧ (∀ x ∈ G, w8.heap.size ≤ x) ∧ ∀ x ∈ F, x ∉ G))
   (HP4 : Hid (RsP wr.drew rb F (lift B r') w4)) (HO4 : Hid (w4.ownsRow wr.drew.heap.size 5 1 (.slice ta PL tc) PL (u8s P'))) (HP5 : Hid (RsP w4 sb G r' w5)) (HO5 : Hid (w5.ownsRow w4.heap.size 5 1 (.slice ua PL uc) PL (u8s P'))) {wc : World} (hwc : wc = ((w5.alloc (.cells #[.int .i64 (K : Nat), .int .u64 (n' : Nat), .int .i64 I', .slice ua PL uc] 35)).alloc (.cells #[.int .i64 (K : Nat), .int .u64 (n' : Nat), .int .i64 I', .slice ta PL tc] 35))) :
   ∃ q1' q2' ta' tc' ua' uc', Value.pointer (some ⟨w5.heap.size + 1, 0, none⟩) = .pointer (some ⟨q1', 0, none⟩) ∧ Value.pointer (some ⟨w5.heap.size, 0, none⟩) = .pointer (some ⟨q2', 0, none⟩) ∧ wc.cell? ⟨q1', 1, none⟩ = some (.int .u64 (n' : Nat)) ∧ wc.cell? ⟨q1', 2, none⟩ = some (.int .i64 I') ∧ wc.cell? ⟨q1', 3, none⟩ = some (.slice ta' PL tc') ∧ wc.cell? ⟨q2', 1, none⟩ = some (.int .u64 (n' : Nat)) ∧ wc.cell? ⟨q2', 2, none⟩ = some (.int .i64 I') ∧ wc.cell? ⟨q2', 3, none⟩ = some (.slice ua' PL uc') ∧ Hid (Duo w8 rb (lift B r') sb r' wc ∧ Sees wc (.slice ta' P'.length tc') P' ∧ Sees wc (.slice ua' P'.length uc') P') := by
  subst hwc
  have HFL := hide (unhide HXX).1.lt
  have HGL := hide (unhide HXX).2.1.lt
  have zz4 := unhide HP4 |>.kepts.size
  have zz5 := unhide HP5 |>.kepts.size
  (try simp only [World.size_alloc, World.size_drew] at zz4)
  (try simp only [World.size_alloc, World.size_drew] at zz5)
  refine leaf (K := K) (unhide HPL) (unhide HXX) (unhide HP4) (unhide HO4) (unhide HP5) (unhide HO5) ?kW ?kW2 ?kf ?h1 ?h2 ?B1 ?B2
  case kW => (repeat (first | with_reducible exact Kept.refl _ _ | with_reducible refine Kept.drew ?_ | with_reducible refine Kept.alloc ?_ _ | with_reducible refine kept4 ?_ (Or.inl (by simp)) _ _ _ _))
  case kW2 => (repeat (first | with_reducible exact Kept.refl _ _ | with_reducible refine Kept.drew ?_ | with_reducible refine Kept.alloc ?_ _ | with_reducible refine kept4 ?_ (Or.inl (by simp)) _ _ _ _))
  case kf => (repeat (first | with_reducible exact Kept.refl _ _ | with_reducible refine Kept.drew ?_ | with_reducible refine Kept.alloc ?_ _ | with_reducible refine kept4 ?_ (Or.inl (by simp)) _ _ _ _))
  case h1 => first | (simp; done) | (simp; omega) | omega
  case h2 => first | (simp; done) | (simp; omega) | omega
  case B1 =>
    (repeat (first
      | (with_reducible refine Blk.newAt ?_; (first | (simp; done) | rfl))
      | with_reducible refine Blk.alloc ?_ _
      | with_reducible refine Blk.put4 (x0 := .int .i64 0) (x1 := .int .u64 0) (x2 := .int .i64 0) (x3 := .slice none 0 0) ?_ _ _ _ _
      | with_reducible refine Blk.oth4 ?_ (by omega) _ _ _ _
      | with_reducible refine Blk.drew' ?_
      | with_reducible refine Blk.kept ?_ (unhide HP5).kepts (fun hf => absurd (unhide HGL _ hf) (by omega))
      | with_reducible refine Blk.kept ?_ (unhide HP4).kepts (fun hf => absurd (unhide HFL _ hf) (by omega))))
  case B2 =>
    (repeat (first
      | (with_reducible refine Blk.newAt ?_; (first | (simp; done) | rfl))
      | with_reducible refine Blk.alloc ?_ _
      | with_reducible refine Blk.put4 (x0 := .int .i64 0) (x1 := .int .u64 0) (x2 := .int .i64 0) (x3 := .slice none 0 0) ?_ _ _ _ _
      | with_reducible refine Blk.oth4 ?_ (by omega) _ _ _ _
      | with_reducible refine Blk.drew' ?_
      | with_reducible refine Blk.kept ?_ (unhide HP5).kepts (fun hf => absurd (unhide HGL _ hf) (by omega))
      | with_reducible refine Blk.kept ?_ (unhide HP4).kepts (fun hf => absurd (unhide HFL _ hf) (by omega))))
set_option maxRecDepth 100000 in
theorem box2 {w8 wr w4 w5 : World} {rb sb K n' PL : Nat} {I' : Int} {B l : List Nat} {bh : List (List Nat)} {r' : RS} {F G P' : List Nat} {ta ua : Option Addr} {tc uc : Nat} (HPL : Hid (PL = P'.length))
   (HXX : Hid (Rs wr rb F (lift B ⟨0, l, bh⟩) ∧ Rs wr sb G ⟨0, l, bh⟩ ∧ Kept [] w8 wr ∧ (∀ x ∈ F, w8.heap.size ≤ x) ∧ (∀ x ∈ G, w8.heap.size ≤ x) ∧ ∀ x ∈ F, x ∉ G))
   (HP4 : Hid (RsP wr.drew rb F (lift B r') w4)) (HO4 : Hid (w4.ownsRow wr.drew.heap.size 5 1 (.slice ta PL tc) PL (u8s P'))) (HP5 : Hid (RsP (w4.alloc (.cells #[.int .i64 0, .int .u64 0, .int .i64 0, .slice none 0 0] 35)) sb G r' w5)) (HO5 : Hid (w5.ownsRow (w4.alloc (.cells #[.int .i64 0, .int .u64 0, .int .i64 0, .slice none 0 0] 35)).heap.size 5 1 (.slice ua PL uc) PL (u8s P'))) {wc : World} (hwc : wc = (((((w5.setCell ⟨w4.heap.size, 0, none⟩ (.int .i64 (K : Nat))).setCell ⟨w4.heap.size, 1, none⟩ (.int .u64 (n' : Nat))).setCell ⟨w4.heap.size, 2, none⟩ (.int .i64 I')).setCell ⟨w4.heap.size, 3, none⟩ (.slice ta PL tc)).alloc (.cells #[.int .i64 (K : Nat), .int .u64 (n' : Nat), .int .i64 I', .slice ua PL uc] 35))) :
   ∃ q1' q2' ta' tc' ua' uc', Value.pointer (some ⟨w4.heap.size, 0, none⟩) = .pointer (some ⟨q1', 0, none⟩) ∧ Value.pointer (some ⟨w5.heap.size, 0, none⟩) = .pointer (some ⟨q2', 0, none⟩) ∧ wc.cell? ⟨q1', 1, none⟩ = some (.int .u64 (n' : Nat)) ∧ wc.cell? ⟨q1', 2, none⟩ = some (.int .i64 I') ∧ wc.cell? ⟨q1', 3, none⟩ = some (.slice ta' PL tc') ∧ wc.cell? ⟨q2', 1, none⟩ = some (.int .u64 (n' : Nat)) ∧ wc.cell? ⟨q2', 2, none⟩ = some (.int .i64 I') ∧ wc.cell? ⟨q2', 3, none⟩ = some (.slice ua' PL uc') ∧ Hid (Duo w8 rb (lift B r') sb r' wc ∧ Sees wc (.slice ta' P'.length tc') P' ∧ Sees wc (.slice ua' P'.length uc') P') := by
  subst hwc
  have HFL := hide (unhide HXX).1.lt
  have HGL := hide (unhide HXX).2.1.lt
  have zz4 := unhide HP4 |>.kepts.size
  have zz5 := unhide HP5 |>.kepts.size
  (try simp only [World.size_alloc, World.size_drew] at zz4)
  (try simp only [World.size_alloc, World.size_drew] at zz5)
  refine leaf (K := K) (unhide HPL) (unhide HXX) (unhide HP4) (unhide HO4) (unhide HP5) (unhide HO5) ?kW ?kW2 ?kf ?h1 ?h2 ?B1 ?B2
  case kW => (repeat (first | with_reducible exact Kept.refl _ _ | with_reducible refine Kept.drew ?_ | with_reducible refine Kept.alloc ?_ _ | with_reducible refine kept4 ?_ (Or.inl (by simp)) _ _ _ _))
  case kW2 => (repeat (first | with_reducible exact Kept.refl _ _ | with_reducible refine Kept.drew ?_ | with_reducible refine Kept.alloc ?_ _ | with_reducible refine kept4 ?_ (Or.inl (by simp)) _ _ _ _))
  case kf => (repeat (first | with_reducible exact Kept.refl _ _ | with_reducible refine Kept.drew ?_ | with_reducible refine Kept.alloc ?_ _ | with_reducible refine kept4 ?_ (Or.inl (by simp)) _ _ _ _))
  case h1 => first | (simp; done) | (simp; omega) | omega
  case h2 => first | (simp; done) | (simp; omega) | omega
  case B1 =>
    (repeat (first
      | (with_reducible refine Blk.newAt ?_; (first | (simp; done) | rfl))
      | with_reducible refine Blk.alloc ?_ _
      | with_reducible refine Blk.put4 (x0 := .int .i64 0) (x1 := .int .u64 0) (x2 := .int .i64 0) (x3 := .slice none 0 0) ?_ _ _ _ _
      | with_reducible refine Blk.oth4 ?_ (by omega) _ _ _ _
      | with_reducible refine Blk.drew' ?_
      | with_reducible refine Blk.kept ?_ (unhide HP5).kepts (fun hf => absurd (unhide HGL _ hf) (by omega))
      | with_reducible refine Blk.kept ?_ (unhide HP4).kepts (fun hf => absurd (unhide HFL _ hf) (by omega))))
  case B2 =>
    (repeat (first
      | (with_reducible refine Blk.newAt ?_; (first | (simp; done) | rfl))
      | with_reducible refine Blk.alloc ?_ _
      | with_reducible refine Blk.put4 (x0 := .int .i64 0) (x1 := .int .u64 0) (x2 := .int .i64 0) (x3 := .slice none 0 0) ?_ _ _ _ _
      | with_reducible refine Blk.oth4 ?_ (by omega) _ _ _ _
      | with_reducible refine Blk.drew' ?_
      | with_reducible refine Blk.kept ?_ (unhide HP5).kepts (fun hf => absurd (unhide HGL _ hf) (by omega))
      | with_reducible refine Blk.kept ?_ (unhide HP4).kepts (fun hf => absurd (unhide HFL _ hf) (by omega))))
set_option maxRecDepth 100000 in
theorem box3 {w8 wr w4 w5 : World} {rb sb K n' PL : Nat} {I' : Int} {B l : List Nat} {bh : List (List Nat)} {r' : RS} {F G P' : List Nat} {ta ua : Option Addr} {tc uc : Nat} (HPL : Hid (PL = P'.length))
   (HXX : Hid (Rs wr rb F (lift B ⟨0, l, bh⟩) ∧ Rs wr sb G ⟨0, l, bh⟩ ∧ Kept [] w8 wr ∧ (∀ x ∈ F, w8.heap.size ≤ x) ∧ (∀ x ∈ G, w8.heap.size ≤ x) ∧ ∀ x ∈ F, x ∉ G))
   (HP4 : Hid (RsP wr.drew rb F (lift B r') w4)) (HO4 : Hid (w4.ownsRow wr.drew.heap.size 5 1 (.slice ta PL tc) PL (u8s P'))) (HP5 : Hid (RsP ((w4.alloc (.cells #[.int .i64 0, .int .u64 0, .int .i64 0, .slice none 0 0] 35)).alloc (.cells #[.int .i64 0, .int .u64 0, .int .i64 0, .slice none 0 0] 35)) sb G r' w5)) (HO5 : Hid (w5.ownsRow ((w4.alloc (.cells #[.int .i64 0, .int .u64 0, .int .i64 0, .slice none 0 0] 35)).alloc (.cells #[.int .i64 0, .int .u64 0, .int .i64 0, .slice none 0 0] 35)).heap.size 5 1 (.slice ua PL uc) PL (u8s P'))) {wc : World} (hwc : wc = ((((((((w5.setCell ⟨w4.heap.size, 0, none⟩ (.int .i64 (K : Nat))).setCell ⟨w4.heap.size, 1, none⟩ (.int .u64 (n' : Nat))).setCell ⟨w4.heap.size, 2, none⟩ (.int .i64 I')).setCell ⟨w4.heap.size, 3, none⟩ (.slice ta PL tc)).setCell ⟨w4.heap.size + 1, 0, none⟩ (.int .i64 (K : Nat))).setCell ⟨w4.heap.size + 1, 1, none⟩ (.int .u64 (n' : Nat))).setCell ⟨w4.heap.size + 1, 2, none⟩ (.int .i64 I')).setCell ⟨w4.heap.size + 1, 3, none⟩ (.slice ua PL uc))) :
   ∃ q1' q2' ta' tc' ua' uc', Value.pointer (some ⟨w4.heap.size, 0, none⟩) = .pointer (some ⟨q1', 0, none⟩) ∧ Value.pointer (some ⟨w4.heap.size + 1, 0, none⟩) = .pointer (some ⟨q2', 0, none⟩) ∧ wc.cell? ⟨q1', 1, none⟩ = some (.int .u64 (n' : Nat)) ∧ wc.cell? ⟨q1', 2, none⟩ = some (.int .i64 I') ∧ wc.cell? ⟨q1', 3, none⟩ = some (.slice ta' PL tc') ∧ wc.cell? ⟨q2', 1, none⟩ = some (.int .u64 (n' : Nat)) ∧ wc.cell? ⟨q2', 2, none⟩ = some (.int .i64 I') ∧ wc.cell? ⟨q2', 3, none⟩ = some (.slice ua' PL uc') ∧ Hid (Duo w8 rb (lift B r') sb r' wc ∧ Sees wc (.slice ta' P'.length tc') P' ∧ Sees wc (.slice ua' P'.length uc') P') := by
  subst hwc
  have HFL := hide (unhide HXX).1.lt
  have HGL := hide (unhide HXX).2.1.lt
  have zz4 := unhide HP4 |>.kepts.size
  have zz5 := unhide HP5 |>.kepts.size
  (try simp only [World.size_alloc, World.size_drew] at zz4)
  (try simp only [World.size_alloc, World.size_drew] at zz5)
  refine leaf (K := K) (unhide HPL) (unhide HXX) (unhide HP4) (unhide HO4) (unhide HP5) (unhide HO5) ?kW ?kW2 ?kf ?h1 ?h2 ?B1 ?B2
  case kW => (repeat (first | with_reducible exact Kept.refl _ _ | with_reducible refine Kept.drew ?_ | with_reducible refine Kept.alloc ?_ _ | with_reducible refine kept4 ?_ (Or.inl (by simp)) _ _ _ _))
  case kW2 => (repeat (first | with_reducible exact Kept.refl _ _ | with_reducible refine Kept.drew ?_ | with_reducible refine Kept.alloc ?_ _ | with_reducible refine kept4 ?_ (Or.inl (by simp)) _ _ _ _))
  case kf => (repeat (first | with_reducible exact Kept.refl _ _ | with_reducible refine Kept.drew ?_ | with_reducible refine Kept.alloc ?_ _ | with_reducible refine kept4 ?_ (Or.inl (by simp)) _ _ _ _))
  case h1 => first | (simp; done) | (simp; omega) | omega
  case h2 => first | (simp; done) | (simp; omega) | omega
  case B1 =>
    (repeat (first
      | (with_reducible refine Blk.newAt ?_; (first | (simp; done) | rfl))
      | with_reducible refine Blk.alloc ?_ _
      | with_reducible refine Blk.put4 (x0 := .int .i64 0) (x1 := .int .u64 0) (x2 := .int .i64 0) (x3 := .slice none 0 0) ?_ _ _ _ _
      | with_reducible refine Blk.oth4 ?_ (by omega) _ _ _ _
      | with_reducible refine Blk.drew' ?_
      | with_reducible refine Blk.kept ?_ (unhide HP5).kepts (fun hf => absurd (unhide HGL _ hf) (by omega))
      | with_reducible refine Blk.kept ?_ (unhide HP4).kepts (fun hf => absurd (unhide HFL _ hf) (by omega))))
  case B2 =>
    (repeat (first
      | (with_reducible refine Blk.newAt ?_; (first | (simp; done) | rfl))
      | with_reducible refine Blk.alloc ?_ _
      | with_reducible refine Blk.put4 (x0 := .int .i64 0) (x1 := .int .u64 0) (x2 := .int .i64 0) (x3 := .slice none 0 0) ?_ _ _ _ _
      | with_reducible refine Blk.oth4 ?_ (by omega) _ _ _ _
      | with_reducible refine Blk.drew' ?_
      | with_reducible refine Blk.kept ?_ (unhide HP5).kepts (fun hf => absurd (unhide HGL _ hf) (by omega))
      | with_reducible refine Blk.kept ?_ (unhide HP4).kepts (fun hf => absurd (unhide HFL _ hf) (by omega))))
set_option maxRecDepth 100000 in
theorem box4 {w8 wr w4 w5 : World} {rb sb K n' PL : Nat} {I' : Int} {B l : List Nat} {bh : List (List Nat)} {r' : RS} {F G P' : List Nat} {ta ua : Option Addr} {tc uc : Nat} (HPL : Hid (PL = P'.length))
   (HXX : Hid (Rs wr rb F (lift B ⟨0, l, bh⟩) ∧ Rs wr sb G ⟨0, l, bh⟩ ∧ Kept [] w8 wr ∧ (∀ x ∈ F, w8.heap.size ≤ x) ∧ (∀ x ∈ G, w8.heap.size ≤ x) ∧ ∀ x ∈ F, x ∉ G))
   (HP4 : Hid (RsP wr.drew rb F (lift B r') w4)) (HO4 : Hid (w4.ownsRow wr.drew.heap.size 5 1 (.slice ta PL tc) PL (u8s P'))) (HP5 : Hid (RsP (w4.alloc (.cells #[.int .i64 0, .int .u64 0, .int .i64 0, .slice none 0 0] 35)) sb G r' w5)) (HO5 : Hid (w5.ownsRow (w4.alloc (.cells #[.int .i64 0, .int .u64 0, .int .i64 0, .slice none 0 0] 35)).heap.size 5 1 (.slice ua PL uc) PL (u8s P'))) {wc : World} (hwc : wc = (((((w5.setCell ⟨w4.heap.size, 0, none⟩ (.int .i64 (K : Nat))).setCell ⟨w4.heap.size, 1, none⟩ (.int .u64 (n' : Nat))).setCell ⟨w4.heap.size, 2, none⟩ (.int .i64 I')).setCell ⟨w4.heap.size, 3, none⟩ (.slice ua PL uc)).alloc (.cells #[.int .i64 (K : Nat), .int .u64 (n' : Nat), .int .i64 I', .slice ta PL tc] 35))) :
   ∃ q1' q2' ta' tc' ua' uc', Value.pointer (some ⟨w5.heap.size, 0, none⟩) = .pointer (some ⟨q1', 0, none⟩) ∧ Value.pointer (some ⟨w4.heap.size, 0, none⟩) = .pointer (some ⟨q2', 0, none⟩) ∧ wc.cell? ⟨q1', 1, none⟩ = some (.int .u64 (n' : Nat)) ∧ wc.cell? ⟨q1', 2, none⟩ = some (.int .i64 I') ∧ wc.cell? ⟨q1', 3, none⟩ = some (.slice ta' PL tc') ∧ wc.cell? ⟨q2', 1, none⟩ = some (.int .u64 (n' : Nat)) ∧ wc.cell? ⟨q2', 2, none⟩ = some (.int .i64 I') ∧ wc.cell? ⟨q2', 3, none⟩ = some (.slice ua' PL uc') ∧ Hid (Duo w8 rb (lift B r') sb r' wc ∧ Sees wc (.slice ta' P'.length tc') P' ∧ Sees wc (.slice ua' P'.length uc') P') := by
  subst hwc
  have HFL := hide (unhide HXX).1.lt
  have HGL := hide (unhide HXX).2.1.lt
  have zz4 := unhide HP4 |>.kepts.size
  have zz5 := unhide HP5 |>.kepts.size
  (try simp only [World.size_alloc, World.size_drew] at zz4)
  (try simp only [World.size_alloc, World.size_drew] at zz5)
  refine leaf (K := K) (unhide HPL) (unhide HXX) (unhide HP4) (unhide HO4) (unhide HP5) (unhide HO5) ?kW ?kW2 ?kf ?h1 ?h2 ?B1 ?B2
  case kW => (repeat (first | with_reducible exact Kept.refl _ _ | with_reducible refine Kept.drew ?_ | with_reducible refine Kept.alloc ?_ _ | with_reducible refine kept4 ?_ (Or.inl (by simp)) _ _ _ _))
  case kW2 => (repeat (first | with_reducible exact Kept.refl _ _ | with_reducible refine Kept.drew ?_ | with_reducible refine Kept.alloc ?_ _ | with_reducible refine kept4 ?_ (Or.inl (by simp)) _ _ _ _))
  case kf => (repeat (first | with_reducible exact Kept.refl _ _ | with_reducible refine Kept.drew ?_ | with_reducible refine Kept.alloc ?_ _ | with_reducible refine kept4 ?_ (Or.inl (by simp)) _ _ _ _))
  case h1 => first | (simp; done) | (simp; omega) | omega
  case h2 => first | (simp; done) | (simp; omega) | omega
  case B1 =>
    (repeat (first
      | (with_reducible refine Blk.newAt ?_; (first | (simp; done) | rfl))
      | with_reducible refine Blk.alloc ?_ _
      | with_reducible refine Blk.put4 (x0 := .int .i64 0) (x1 := .int .u64 0) (x2 := .int .i64 0) (x3 := .slice none 0 0) ?_ _ _ _ _
      | with_reducible refine Blk.oth4 ?_ (by omega) _ _ _ _
      | with_reducible refine Blk.drew' ?_
      | with_reducible refine Blk.kept ?_ (unhide HP5).kepts (fun hf => absurd (unhide HGL _ hf) (by omega))
      | with_reducible refine Blk.kept ?_ (unhide HP4).kepts (fun hf => absurd (unhide HFL _ hf) (by omega))))
  case B2 =>
    (repeat (first
      | (with_reducible refine Blk.newAt ?_; (first | (simp; done) | rfl))
      | with_reducible refine Blk.alloc ?_ _
      | with_reducible refine Blk.put4 (x0 := .int .i64 0) (x1 := .int .u64 0) (x2 := .int .i64 0) (x3 := .slice none 0 0) ?_ _ _ _ _
      | with_reducible refine Blk.oth4 ?_ (by omega) _ _ _ _
      | with_reducible refine Blk.drew' ?_
      | with_reducible refine Blk.kept ?_ (unhide HP5).kepts (fun hf => absurd (unhide HGL _ hf) (by omega))
      | with_reducible refine Blk.kept ?_ (unhide HP4).kepts (fun hf => absurd (unhide HFL _ hf) (by omega))))
set_option maxRecDepth 100000 in
theorem box5 {w8 wr w4 w5 : World} {rb sb K n' PL : Nat} {I' : Int} {B l : List Nat} {bh : List (List Nat)} {r' : RS} {F G P' : List Nat} {ta ua : Option Addr} {tc uc : Nat} (HPL : Hid (PL = P'.length))
   (HXX : Hid (Rs wr rb F (lift B ⟨0, l, bh⟩) ∧ Rs wr sb G ⟨0, l, bh⟩ ∧ Kept [] w8 wr ∧ (∀ x ∈ F, w8.heap.size ≤ x) ∧ (∀ x ∈ G, w8.heap.size ≤ x) ∧ ∀ x ∈ F, x ∉ G))
   (HP4 : Hid (RsP wr.drew rb F (lift B r') w4)) (HO4 : Hid (w4.ownsRow wr.drew.heap.size 5 1 (.slice ta PL tc) PL (u8s P'))) (HP5 : Hid (RsP ((w4.alloc (.cells #[.int .i64 0, .int .u64 0, .int .i64 0, .slice none 0 0] 35)).alloc (.cells #[.int .i64 0, .int .u64 0, .int .i64 0, .slice none 0 0] 35)) sb G r' w5)) (HO5 : Hid (w5.ownsRow ((w4.alloc (.cells #[.int .i64 0, .int .u64 0, .int .i64 0, .slice none 0 0] 35)).alloc (.cells #[.int .i64 0, .int .u64 0, .int .i64 0, .slice none 0 0] 35)).heap.size 5 1 (.slice ua PL uc) PL (u8s P'))) {wc : World} (hwc : wc = ((((((((w5.setCell ⟨w4.heap.size + 1, 0, none⟩ (.int .i64 (K : Nat))).setCell ⟨w4.heap.size + 1, 1, none⟩ (.int .u64 (n' : Nat))).setCell ⟨w4.heap.size + 1, 2, none⟩ (.int .i64 I')).setCell ⟨w4.heap.size + 1, 3, none⟩ (.slice ta PL tc)).setCell ⟨w4.heap.size, 0, none⟩ (.int .i64 (K : Nat))).setCell ⟨w4.heap.size, 1, none⟩ (.int .u64 (n' : Nat))).setCell ⟨w4.heap.size, 2, none⟩ (.int .i64 I')).setCell ⟨w4.heap.size, 3, none⟩ (.slice ua PL uc))) :
   ∃ q1' q2' ta' tc' ua' uc', Value.pointer (some ⟨w4.heap.size + 1, 0, none⟩) = .pointer (some ⟨q1', 0, none⟩) ∧ Value.pointer (some ⟨w4.heap.size, 0, none⟩) = .pointer (some ⟨q2', 0, none⟩) ∧ wc.cell? ⟨q1', 1, none⟩ = some (.int .u64 (n' : Nat)) ∧ wc.cell? ⟨q1', 2, none⟩ = some (.int .i64 I') ∧ wc.cell? ⟨q1', 3, none⟩ = some (.slice ta' PL tc') ∧ wc.cell? ⟨q2', 1, none⟩ = some (.int .u64 (n' : Nat)) ∧ wc.cell? ⟨q2', 2, none⟩ = some (.int .i64 I') ∧ wc.cell? ⟨q2', 3, none⟩ = some (.slice ua' PL uc') ∧ Hid (Duo w8 rb (lift B r') sb r' wc ∧ Sees wc (.slice ta' P'.length tc') P' ∧ Sees wc (.slice ua' P'.length uc') P') := by
  subst hwc
  have HFL := hide (unhide HXX).1.lt
  have HGL := hide (unhide HXX).2.1.lt
  have zz4 := unhide HP4 |>.kepts.size
  have zz5 := unhide HP5 |>.kepts.size
  (try simp only [World.size_alloc, World.size_drew] at zz4)
  (try simp only [World.size_alloc, World.size_drew] at zz5)
  refine leaf (K := K) (unhide HPL) (unhide HXX) (unhide HP4) (unhide HO4) (unhide HP5) (unhide HO5) ?kW ?kW2 ?kf ?h1 ?h2 ?B1 ?B2
  case kW => (repeat (first | with_reducible exact Kept.refl _ _ | with_reducible refine Kept.drew ?_ | with_reducible refine Kept.alloc ?_ _ | with_reducible refine kept4 ?_ (Or.inl (by simp)) _ _ _ _))
  case kW2 => (repeat (first | with_reducible exact Kept.refl _ _ | with_reducible refine Kept.drew ?_ | with_reducible refine Kept.alloc ?_ _ | with_reducible refine kept4 ?_ (Or.inl (by simp)) _ _ _ _))
  case kf => (repeat (first | with_reducible exact Kept.refl _ _ | with_reducible refine Kept.drew ?_ | with_reducible refine Kept.alloc ?_ _ | with_reducible refine kept4 ?_ (Or.inl (by simp)) _ _ _ _))
  case h1 => first | (simp; done) | (simp; omega) | omega
  case h2 => first | (simp; done) | (simp; omega) | omega
  case B1 =>
    (repeat (first
      | (with_reducible refine Blk.newAt ?_; (first | (simp; done) | rfl))
      | with_reducible refine Blk.alloc ?_ _
      | with_reducible refine Blk.put4 (x0 := .int .i64 0) (x1 := .int .u64 0) (x2 := .int .i64 0) (x3 := .slice none 0 0) ?_ _ _ _ _
      | with_reducible refine Blk.oth4 ?_ (by omega) _ _ _ _
      | with_reducible refine Blk.drew' ?_
      | with_reducible refine Blk.kept ?_ (unhide HP5).kepts (fun hf => absurd (unhide HGL _ hf) (by omega))
      | with_reducible refine Blk.kept ?_ (unhide HP4).kepts (fun hf => absurd (unhide HFL _ hf) (by omega))))
  case B2 =>
    (repeat (first
      | (with_reducible refine Blk.newAt ?_; (first | (simp; done) | rfl))
      | with_reducible refine Blk.alloc ?_ _
      | with_reducible refine Blk.put4 (x0 := .int .i64 0) (x1 := .int .u64 0) (x2 := .int .i64 0) (x3 := .slice none 0 0) ?_ _ _ _ _
      | with_reducible refine Blk.oth4 ?_ (by omega) _ _ _ _
      | with_reducible refine Blk.drew' ?_
      | with_reducible refine Blk.kept ?_ (unhide HP5).kepts (fun hf => absurd (unhide HGL _ hf) (by omega))
      | with_reducible refine Blk.kept ?_ (unhide HP4).kepts (fun hf => absurd (unhide HFL _ hf) (by omega))))
set_option maxRecDepth 100000 in
theorem box6 {w8 wr w4 w5 : World} {rb sb K n' PL : Nat} {I' : Int} {B l : List Nat} {bh : List (List Nat)} {r' : RS} {F G P' : List Nat} {ta ua : Option Addr} {tc uc : Nat} (HPL : Hid (PL = P'.length))
   (HXX : Hid (Rs wr rb F (lift B ⟨0, l, bh⟩) ∧ Rs wr sb G ⟨0, l, bh⟩ ∧ Kept [] w8 wr ∧ (∀ x ∈ F, w8.heap.size ≤ x) ∧ (∀ x ∈ G, w8.heap.size ≤ x) ∧ ∀ x ∈ F, x ∉ G))
   (HP4 : Hid (RsP (wr.alloc (.cells #[.int .i64 0, .int .u64 0, .int .i64 0, .slice none 0 0] 35)).drew rb F (lift B r') w4)) (HO4 : Hid (w4.ownsRow (wr.alloc (.cells #[.int .i64 0, .int .u64 0, .int .i64 0, .slice none 0 0] 35)).drew.heap.size 5 1 (.slice ta PL tc) PL (u8s P'))) (HP5 : Hid (RsP w4 sb G r' w5)) (HO5 : Hid (w5.ownsRow w4.heap.size 5 1 (.slice ua PL uc) PL (u8s P'))) {wc : World} (hwc : wc = (((((w5.setCell ⟨wr.heap.size, 0, none⟩ (.int .i64 (K : Nat))).setCell ⟨wr.heap.size, 1, none⟩ (.int .u64 (n' : Nat))).setCell ⟨wr.heap.size, 2, none⟩ (.int .i64 I')).setCell ⟨wr.heap.size, 3, none⟩ (.slice ta PL tc)).alloc (.cells #[.int .i64 (K : Nat), .int .u64 (n' : Nat), .int .i64 I', .slice ua PL uc] 35))) :
   ∃ q1' q2' ta' tc' ua' uc', Value.pointer (some ⟨wr.heap.size, 0, none⟩) = .pointer (some ⟨q1', 0, none⟩) ∧ Value.pointer (some ⟨w5.heap.size, 0, none⟩) = .pointer (some ⟨q2', 0, none⟩) ∧ wc.cell? ⟨q1', 1, none⟩ = some (.int .u64 (n' : Nat)) ∧ wc.cell? ⟨q1', 2, none⟩ = some (.int .i64 I') ∧ wc.cell? ⟨q1', 3, none⟩ = some (.slice ta' PL tc') ∧ wc.cell? ⟨q2', 1, none⟩ = some (.int .u64 (n' : Nat)) ∧ wc.cell? ⟨q2', 2, none⟩ = some (.int .i64 I') ∧ wc.cell? ⟨q2', 3, none⟩ = some (.slice ua' PL uc') ∧ Hid (Duo w8 rb (lift B r') sb r' wc ∧ Sees wc (.slice ta' P'.length tc') P' ∧ Sees wc (.slice ua' P'.length uc') P') := by
  subst hwc
  have HFL := hide (unhide HXX).1.lt
  have HGL := hide (unhide HXX).2.1.lt
  have zz4 := unhide HP4 |>.kepts.size
  have zz5 := unhide HP5 |>.kepts.size
  (try simp only [World.size_alloc, World.size_drew] at zz4)
  (try simp only [World.size_alloc, World.size_drew] at zz5)
  refine leaf (K := K) (unhide HPL) (unhide HXX) (unhide HP4) (unhide HO4) (unhide HP5) (unhide HO5) ?kW ?kW2 ?kf ?h1 ?h2 ?B1 ?B2
  case kW => (repeat (first | with_reducible exact Kept.refl _ _ | with_reducible refine Kept.drew ?_ | with_reducible refine Kept.alloc ?_ _ | with_reducible refine kept4 ?_ (Or.inl (by simp)) _ _ _ _))
  case kW2 => (repeat (first | with_reducible exact Kept.refl _ _ | with_reducible refine Kept.drew ?_ | with_reducible refine Kept.alloc ?_ _ | with_reducible refine kept4 ?_ (Or.inl (by simp)) _ _ _ _))
  case kf => (repeat (first | with_reducible exact Kept.refl _ _ | with_reducible refine Kept.drew ?_ | with_reducible refine Kept.alloc ?_ _ | with_reducible refine kept4 ?_ (Or.inl (by simp)) _ _ _ _))
  case h1 => first | (simp; done) | (simp; omega) | omega
  case h2 => first | (simp; done) | (simp; omega) | omega
  case B1 =>
    (repeat (first
      | (with_reducible refine Blk.newAt ?_; (first | (simp; done) | rfl))
      | with_reducible refine Blk.alloc ?_ _
      | with_reducible refine Blk.put4 (x0 := .int .i64 0) (x1 := .int .u64 0) (x2 := .int .i64 0) (x3 := .slice none 0 0) ?_ _ _ _ _
      | with_reducible refine Blk.oth4 ?_ (by omega) _ _ _ _
      | with_reducible refine Blk.drew' ?_
      | with_reducible refine Blk.kept ?_ (unhide HP5).kepts (fun hf => absurd (unhide HGL _ hf) (by omega))
      | with_reducible refine Blk.kept ?_ (unhide HP4).kepts (fun hf => absurd (unhide HFL _ hf) (by omega))))
  case B2 =>
    (repeat (first
      | (with_reducible refine Blk.newAt ?_; (first | (simp; done) | rfl))
      | with_reducible refine Blk.alloc ?_ _
      | with_reducible refine Blk.put4 (x0 := .int .i64 0) (x1 := .int .u64 0) (x2 := .int .i64 0) (x3 := .slice none 0 0) ?_ _ _ _ _
      | with_reducible refine Blk.oth4 ?_ (by omega) _ _ _ _
      | with_reducible refine Blk.drew' ?_
      | with_reducible refine Blk.kept ?_ (unhide HP5).kepts (fun hf => absurd (unhide HGL _ hf) (by omega))
      | with_reducible refine Blk.kept ?_ (unhide HP4).kepts (fun hf => absurd (unhide HFL _ hf) (by omega))))
set_option maxRecDepth 100000 in
theorem box7 {w8 wr w4 w5 : World} {rb sb K n' PL : Nat} {I' : Int} {B l : List Nat} {bh : List (List Nat)} {r' : RS} {F G P' : List Nat} {ta ua : Option Addr} {tc uc : Nat} (HPL : Hid (PL = P'.length))
   (HXX : Hid (Rs wr rb F (lift B ⟨0, l, bh⟩) ∧ Rs wr sb G ⟨0, l, bh⟩ ∧ Kept [] w8 wr ∧ (∀ x ∈ F, w8.heap.size ≤ x) ∧ (∀ x ∈ G, w8.heap.size ≤ x) ∧ ∀ x ∈ F, x ∉ G))
   (HP4 : Hid (RsP (wr.alloc (.cells #[.int .i64 0, .int .u64 0, .int .i64 0, .slice none 0 0] 35)).drew rb F (lift B r') w4)) (HO4 : Hid (w4.ownsRow (wr.alloc (.cells #[.int .i64 0, .int .u64 0, .int .i64 0, .slice none 0 0] 35)).drew.heap.size 5 1 (.slice ta PL tc) PL (u8s P'))) (HP5 : Hid (RsP (w4.alloc (.cells #[.int .i64 0, .int .u64 0, .int .i64 0, .slice none 0 0] 35)) sb G r' w5)) (HO5 : Hid (w5.ownsRow (w4.alloc (.cells #[.int .i64 0, .int .u64 0, .int .i64 0, .slice none 0 0] 35)).heap.size 5 1 (.slice ua PL uc) PL (u8s P'))) {wc : World} (hwc : wc = ((((((((w5.setCell ⟨wr.heap.size, 0, none⟩ (.int .i64 (K : Nat))).setCell ⟨wr.heap.size, 1, none⟩ (.int .u64 (n' : Nat))).setCell ⟨wr.heap.size, 2, none⟩ (.int .i64 I')).setCell ⟨wr.heap.size, 3, none⟩ (.slice ta PL tc)).setCell ⟨w4.heap.size, 0, none⟩ (.int .i64 (K : Nat))).setCell ⟨w4.heap.size, 1, none⟩ (.int .u64 (n' : Nat))).setCell ⟨w4.heap.size, 2, none⟩ (.int .i64 I')).setCell ⟨w4.heap.size, 3, none⟩ (.slice ua PL uc))) :
   ∃ q1' q2' ta' tc' ua' uc', Value.pointer (some ⟨wr.heap.size, 0, none⟩) = .pointer (some ⟨q1', 0, none⟩) ∧ Value.pointer (some ⟨w4.heap.size, 0, none⟩) = .pointer (some ⟨q2', 0, none⟩) ∧ wc.cell? ⟨q1', 1, none⟩ = some (.int .u64 (n' : Nat)) ∧ wc.cell? ⟨q1', 2, none⟩ = some (.int .i64 I') ∧ wc.cell? ⟨q1', 3, none⟩ = some (.slice ta' PL tc') ∧ wc.cell? ⟨q2', 1, none⟩ = some (.int .u64 (n' : Nat)) ∧ wc.cell? ⟨q2', 2, none⟩ = some (.int .i64 I') ∧ wc.cell? ⟨q2', 3, none⟩ = some (.slice ua' PL uc') ∧ Hid (Duo w8 rb (lift B r') sb r' wc ∧ Sees wc (.slice ta' P'.length tc') P' ∧ Sees wc (.slice ua' P'.length uc') P') := by
  subst hwc
  have HFL := hide (unhide HXX).1.lt
  have HGL := hide (unhide HXX).2.1.lt
  have zz4 := unhide HP4 |>.kepts.size
  have zz5 := unhide HP5 |>.kepts.size
  (try simp only [World.size_alloc, World.size_drew] at zz4)
  (try simp only [World.size_alloc, World.size_drew] at zz5)
  refine leaf (K := K) (unhide HPL) (unhide HXX) (unhide HP4) (unhide HO4) (unhide HP5) (unhide HO5) ?kW ?kW2 ?kf ?h1 ?h2 ?B1 ?B2
  case kW => (repeat (first | with_reducible exact Kept.refl _ _ | with_reducible refine Kept.drew ?_ | with_reducible refine Kept.alloc ?_ _ | with_reducible refine kept4 ?_ (Or.inl (by simp)) _ _ _ _))
  case kW2 => (repeat (first | with_reducible exact Kept.refl _ _ | with_reducible refine Kept.drew ?_ | with_reducible refine Kept.alloc ?_ _ | with_reducible refine kept4 ?_ (Or.inl (by simp)) _ _ _ _))
  case kf => (repeat (first | with_reducible exact Kept.refl _ _ | with_reducible refine Kept.drew ?_ | with_reducible refine Kept.alloc ?_ _ | with_reducible refine kept4 ?_ (Or.inl (by simp)) _ _ _ _))
  case h1 => first | (simp; done) | (simp; omega) | omega
  case h2 => first | (simp; done) | (simp; omega) | omega
  case B1 =>
    (repeat (first
      | (with_reducible refine Blk.newAt ?_; (first | (simp; done) | rfl))
      | with_reducible refine Blk.alloc ?_ _
      | with_reducible refine Blk.put4 (x0 := .int .i64 0) (x1 := .int .u64 0) (x2 := .int .i64 0) (x3 := .slice none 0 0) ?_ _ _ _ _
      | with_reducible refine Blk.oth4 ?_ (by omega) _ _ _ _
      | with_reducible refine Blk.drew' ?_
      | with_reducible refine Blk.kept ?_ (unhide HP5).kepts (fun hf => absurd (unhide HGL _ hf) (by omega))
      | with_reducible refine Blk.kept ?_ (unhide HP4).kepts (fun hf => absurd (unhide HFL _ hf) (by omega))))
  case B2 =>
    (repeat (first
      | (with_reducible refine Blk.newAt ?_; (first | (simp; done) | rfl))
      | with_reducible refine Blk.alloc ?_ _
      | with_reducible refine Blk.put4 (x0 := .int .i64 0) (x1 := .int .u64 0) (x2 := .int .i64 0) (x3 := .slice none 0 0) ?_ _ _ _ _
      | with_reducible refine Blk.oth4 ?_ (by omega) _ _ _ _
      | with_reducible refine Blk.drew' ?_
      | with_reducible refine Blk.kept ?_ (unhide HP5).kepts (fun hf => absurd (unhide HGL _ hf) (by omega))
      | with_reducible refine Blk.kept ?_ (unhide HP4).kepts (fun hf => absurd (unhide HFL _ hf) (by omega))))
set_option maxRecDepth 100000 in
theorem box8 {w8 wr w4 w5 : World} {rb sb K n' PL : Nat} {I' : Int} {B l : List Nat} {bh : List (List Nat)} {r' : RS} {F G P' : List Nat} {ta ua : Option Addr} {tc uc : Nat} (HPL : Hid (PL = P'.length))
   (HXX : Hid (Rs wr rb F (lift B ⟨0, l, bh⟩) ∧ Rs wr sb G ⟨0, l, bh⟩ ∧ Kept [] w8 wr ∧ (∀ x ∈ F, w8.heap.size ≤ x) ∧ (∀ x ∈ G, w8.heap.size ≤ x) ∧ ∀ x ∈ F, x ∉ G))
   (HP4 : Hid (RsP ((wr.alloc (.cells #[.int .i64 0, .int .u64 0, .int .i64 0, .slice none 0 0] 35)).alloc (.cells #[.int .i64 0, .int .u64 0, .int .i64 0, .slice none 0 0] 35)).drew rb F (lift B r') w4)) (HO4 : Hid (w4.ownsRow ((wr.alloc (.cells #[.int .i64 0, .int .u64 0, .int .i64 0, .slice none 0 0] 35)).alloc (.cells #[.int .i64 0, .int .u64 0, .int .i64 0, .slice none 0 0] 35)).drew.heap.size 5 1 (.slice ta PL tc) PL (u8s P'))) (HP5 : Hid (RsP w4 sb G r' w5)) (HO5 : Hid (w5.ownsRow w4.heap.size 5 1 (.slice ua PL uc) PL (u8s P'))) {wc : World} (hwc : wc = ((((((((w5.setCell ⟨wr.heap.size, 0, none⟩ (.int .i64 (K : Nat))).setCell ⟨wr.heap.size, 1, none⟩ (.int .u64 (n' : Nat))).setCell ⟨wr.heap.size, 2, none⟩ (.int .i64 I')).setCell ⟨wr.heap.size, 3, none⟩ (.slice ta PL tc)).setCell ⟨wr.heap.size + 1, 0, none⟩ (.int .i64 (K : Nat))).setCell ⟨wr.heap.size + 1, 1, none⟩ (.int .u64 (n' : Nat))).setCell ⟨wr.heap.size + 1, 2, none⟩ (.int .i64 I')).setCell ⟨wr.heap.size + 1, 3, none⟩ (.slice ua PL uc))) :
   ∃ q1' q2' ta' tc' ua' uc', Value.pointer (some ⟨wr.heap.size, 0, none⟩) = .pointer (some ⟨q1', 0, none⟩) ∧ Value.pointer (some ⟨wr.heap.size + 1, 0, none⟩) = .pointer (some ⟨q2', 0, none⟩) ∧ wc.cell? ⟨q1', 1, none⟩ = some (.int .u64 (n' : Nat)) ∧ wc.cell? ⟨q1', 2, none⟩ = some (.int .i64 I') ∧ wc.cell? ⟨q1', 3, none⟩ = some (.slice ta' PL tc') ∧ wc.cell? ⟨q2', 1, none⟩ = some (.int .u64 (n' : Nat)) ∧ wc.cell? ⟨q2', 2, none⟩ = some (.int .i64 I') ∧ wc.cell? ⟨q2', 3, none⟩ = some (.slice ua' PL uc') ∧ Hid (Duo w8 rb (lift B r') sb r' wc ∧ Sees wc (.slice ta' P'.length tc') P' ∧ Sees wc (.slice ua' P'.length uc') P') := by
  subst hwc
  have HFL := hide (unhide HXX).1.lt
  have HGL := hide (unhide HXX).2.1.lt
  have zz4 := unhide HP4 |>.kepts.size
  have zz5 := unhide HP5 |>.kepts.size
  (try simp only [World.size_alloc, World.size_drew] at zz4)
  (try simp only [World.size_alloc, World.size_drew] at zz5)
  refine leaf (K := K) (unhide HPL) (unhide HXX) (unhide HP4) (unhide HO4) (unhide HP5) (unhide HO5) ?kW ?kW2 ?kf ?h1 ?h2 ?B1 ?B2
  case kW => (repeat (first | with_reducible exact Kept.refl _ _ | with_reducible refine Kept.drew ?_ | with_reducible refine Kept.alloc ?_ _ | with_reducible refine kept4 ?_ (Or.inl (by simp)) _ _ _ _))
  case kW2 => (repeat (first | with_reducible exact Kept.refl _ _ | with_reducible refine Kept.drew ?_ | with_reducible refine Kept.alloc ?_ _ | with_reducible refine kept4 ?_ (Or.inl (by simp)) _ _ _ _))
  case kf => (repeat (first | with_reducible exact Kept.refl _ _ | with_reducible refine Kept.drew ?_ | with_reducible refine Kept.alloc ?_ _ | with_reducible refine kept4 ?_ (Or.inl (by simp)) _ _ _ _))
  case h1 => first | (simp; done) | (simp; omega) | omega
  case h2 => first | (simp; done) | (simp; omega) | omega
  case B1 =>
    (repeat (first
      | (with_reducible refine Blk.newAt ?_; (first | (simp; done) | rfl))
      | with_reducible refine Blk.alloc ?_ _
      | with_reducible refine Blk.put4 (x0 := .int .i64 0) (x1 := .int .u64 0) (x2 := .int .i64 0) (x3 := .slice none 0 0) ?_ _ _ _ _
      | with_reducible refine Blk.oth4 ?_ (by omega) _ _ _ _
      | with_reducible refine Blk.drew' ?_
      | with_reducible refine Blk.kept ?_ (unhide HP5).kepts (fun hf => absurd (unhide HGL _ hf) (by omega))
      | with_reducible refine Blk.kept ?_ (unhide HP4).kepts (fun hf => absurd (unhide HFL _ hf) (by omega))))
  case B2 =>
    (repeat (first
      | (with_reducible refine Blk.newAt ?_; (first | (simp; done) | rfl))
      | with_reducible refine Blk.alloc ?_ _
      | with_reducible refine Blk.put4 (x0 := .int .i64 0) (x1 := .int .u64 0) (x2 := .int .i64 0) (x3 := .slice none 0 0) ?_ _ _ _ _
      | with_reducible refine Blk.oth4 ?_ (by omega) _ _ _ _
      | with_reducible refine Blk.drew' ?_
      | with_reducible refine Blk.kept ?_ (unhide HP5).kepts (fun hf => absurd (unhide HGL _ hf) (by omega))
      | with_reducible refine Blk.kept ?_ (unhide HP4).kepts (fun hf => absurd (unhide HFL _ hf) (by omega))))
set_option maxRecDepth 100000 in
theorem box9 {w8 wr w4 w5 : World} {rb sb K n' PL : Nat} {I' : Int} {B l : List Nat} {bh : List (List Nat)} {r' : RS} {F G P' : List Nat} {ta ua : Option Addr} {tc uc : Nat} (HPL : Hid (PL = P'.length))
   (HXX : Hid (Rs wr rb F (lift B ⟨0, l, bh⟩) ∧ Rs wr sb G ⟨0, l, bh⟩ ∧ Kept [] w8 wr ∧ (∀ x ∈ F, w8.heap.size ≤ x) ∧ (∀ x ∈ G, w8.heap.size ≤ x) ∧ ∀ x ∈ F, x ∉ G))
   (HP4 : Hid (RsP (wr.alloc (.cells #[.int .i64 0, .int .u64 0, .int .i64 0, .slice none 0 0] 35)).drew rb F (lift B r') w4)) (HO4 : Hid (w4.ownsRow (wr.alloc (.cells #[.int .i64 0, .int .u64 0, .int .i64 0, .slice none 0 0] 35)).drew.heap.size 5 1 (.slice ta PL tc) PL (u8s P'))) (HP5 : Hid (RsP w4 sb G r' w5)) (HO5 : Hid (w5.ownsRow w4.heap.size 5 1 (.slice ua PL uc) PL (u8s P'))) {wc : World} (hwc : wc = (((((w5.setCell ⟨wr.heap.size, 0, none⟩ (.int .i64 (K : Nat))).setCell ⟨wr.heap.size, 1, none⟩ (.int .u64 (n' : Nat))).setCell ⟨wr.heap.size, 2, none⟩ (.int .i64 I')).setCell ⟨wr.heap.size, 3, none⟩ (.slice ua PL uc)).alloc (.cells #[.int .i64 (K : Nat), .int .u64 (n' : Nat), .int .i64 I', .slice ta PL tc] 35))) :
   ∃ q1' q2' ta' tc' ua' uc', Value.pointer (some ⟨w5.heap.size, 0, none⟩) = .pointer (some ⟨q1', 0, none⟩) ∧ Value.pointer (some ⟨wr.heap.size, 0, none⟩) = .pointer (some ⟨q2', 0, none⟩) ∧ wc.cell? ⟨q1', 1, none⟩ = some (.int .u64 (n' : Nat)) ∧ wc.cell? ⟨q1', 2, none⟩ = some (.int .i64 I') ∧ wc.cell? ⟨q1', 3, none⟩ = some (.slice ta' PL tc') ∧ wc.cell? ⟨q2', 1, none⟩ = some (.int .u64 (n' : Nat)) ∧ wc.cell? ⟨q2', 2, none⟩ = some (.int .i64 I') ∧ wc.cell? ⟨q2', 3, none⟩ = some (.slice ua' PL uc') ∧ Hid (Duo w8 rb (lift B r') sb r' wc ∧ Sees wc (.slice ta' P'.length tc') P' ∧ Sees wc (.slice ua' P'.length uc') P') := by
  subst hwc
  have HFL := hide (unhide HXX).1.lt
  have HGL := hide (unhide HXX).2.1.lt
  have zz4 := unhide HP4 |>.kepts.size
  have zz5 := unhide HP5 |>.kepts.size
  (try simp only [World.size_alloc, World.size_drew] at zz4)
  (try simp only [World.size_alloc, World.size_drew] at zz5)
  refine leaf (K := K) (unhide HPL) (unhide HXX) (unhide HP4) (unhide HO4) (unhide HP5) (unhide HO5) ?kW ?kW2 ?kf ?h1 ?h2 ?B1 ?B2
  case kW => (repeat (first | with_reducible exact Kept.refl _ _ | with_reducible refine Kept.drew ?_ | with_reducible refine Kept.alloc ?_ _ | with_reducible refine kept4 ?_ (Or.inl (by simp)) _ _ _ _))
  case kW2 => (repeat (first | with_reducible exact Kept.refl _ _ | with_reducible refine Kept.drew ?_ | with_reducible refine Kept.alloc ?_ _ | with_reducible refine kept4 ?_ (Or.inl (by simp)) _ _ _ _))
  case kf => (repeat (first | with_reducible exact Kept.refl _ _ | with_reducible refine Kept.drew ?_ | with_reducible refine Kept.alloc ?_ _ | with_reducible refine kept4 ?_ (Or.inl (by simp)) _ _ _ _))
  case h1 => first | (simp; done) | (simp; omega) | omega
  case h2 => first | (simp; done) | (simp; omega) | omega
  case B1 =>
    (repeat (first
      | (with_reducible refine Blk.newAt ?_; (first | (simp; done) | rfl))
      | with_reducible refine Blk.alloc ?_ _
      | with_reducible refine Blk.put4 (x0 := .int .i64 0) (x1 := .int .u64 0) (x2 := .int .i64 0) (x3 := .slice none 0 0) ?_ _ _ _ _
      | with_reducible refine Blk.oth4 ?_ (by omega) _ _ _ _
      | with_reducible refine Blk.drew' ?_
      | with_reducible refine Blk.kept ?_ (unhide HP5).kepts (fun hf => absurd (unhide HGL _ hf) (by omega))
      | with_reducible refine Blk.kept ?_ (unhide HP4).kepts (fun hf => absurd (unhide HFL _ hf) (by omega))))
  case B2 =>
    (repeat (first
      | (with_reducible refine Blk.newAt ?_; (first | (simp; done) | rfl))
      | with_reducible refine Blk.alloc ?_ _
      | with_reducible refine Blk.put4 (x0 := .int .i64 0) (x1 := .int .u64 0) (x2 := .int .i64 0) (x3 := .slice none 0 0) ?_ _ _ _ _
      | with_reducible refine Blk.oth4 ?_ (by omega) _ _ _ _
      | with_reducible refine Blk.drew' ?_
      | with_reducible refine Blk.kept ?_ (unhide HP5).kepts (fun hf => absurd (unhide HGL _ hf) (by omega))
      | with_reducible refine Blk.kept ?_ (unhide HP4).kepts (fun hf => absurd (unhide HFL _ hf) (by omega))))
set_option maxRecDepth 100000 in
theorem box10 {w8 wr w4 w5 : World} {rb sb K n' PL : Nat} {I' : Int} {B l : List Nat} {bh : List (List Nat)} {r' : RS} {F G P' : List Nat} {ta ua : Option Addr} {tc uc : Nat} (HPL : Hid (PL = P'.length))
   (HXX : Hid (Rs wr rb F (lift B ⟨0, l, bh⟩) ∧ Rs wr sb G ⟨0, l, bh⟩ ∧ Kept [] w8 wr ∧ (∀ x ∈ F, w8.heap.size ≤ x) ∧ (∀ x ∈ G, w8.heap.size ≤ x) ∧ ∀ x ∈ F, x ∉ G))
   (HP4 : Hid (RsP (wr.alloc (.cells #[.int .i64 0, .int .u64 0, .int .i64 0, .slice none 0 0] 35)).drew rb F (lift B r') w4)) (HO4 : Hid (w4.ownsRow (wr.alloc (.cells #[.int .i64 0, .int .u64 0, .int .i64 0, .slice none 0 0] 35)).drew.heap.size 5 1 (.slice ta PL tc) PL (u8s P'))) (HP5 : Hid (RsP (w4.alloc (.cells #[.int .i64 0, .int .u64 0, .int .i64 0, .slice none 0 0] 35)) sb G r' w5)) (HO5 : Hid (w5.ownsRow (w4.alloc (.cells #[.int .i64 0, .int .u64 0, .int .i64 0, .slice none 0 0] 35)).heap.size 5 1 (.slice ua PL uc) PL (u8s P'))) {wc : World} (hwc : wc = ((((((((w5.setCell ⟨w4.heap.size, 0, none⟩ (.int .i64 (K : Nat))).setCell ⟨w4.heap.size, 1, none⟩ (.int .u64 (n' : Nat))).setCell ⟨w4.heap.size, 2, none⟩ (.int .i64 I')).setCell ⟨w4.heap.size, 3, none⟩ (.slice ta PL tc)).setCell ⟨wr.heap.size, 0, none⟩ (.int .i64 (K : Nat))).setCell ⟨wr.heap.size, 1, none⟩ (.int .u64 (n' : Nat))).setCell ⟨wr.heap.size, 2, none⟩ (.int .i64 I')).setCell ⟨wr.heap.size, 3, none⟩ (.slice ua PL uc))) :
   ∃ q1' q2' ta' tc' ua' uc', Value.pointer (some ⟨w4.heap.size, 0, none⟩) = .pointer (some ⟨q1', 0, none⟩) ∧ Value.pointer (some ⟨wr.heap.size, 0, none⟩) = .pointer (some ⟨q2', 0, none⟩) ∧ wc.cell? ⟨q1', 1, none⟩ = some (.int .u64 (n' : Nat)) ∧ wc.cell? ⟨q1', 2, none⟩ = some (.int .i64 I') ∧ wc.cell? ⟨q1', 3, none⟩ = some (.slice ta' PL tc') ∧ wc.cell? ⟨q2', 1, none⟩ = some (.int .u64 (n' : Nat)) ∧ wc.cell? ⟨q2', 2, none⟩ = some (.int .i64 I') ∧ wc.cell? ⟨q2', 3, none⟩ = some (.slice ua' PL uc') ∧ Hid (Duo w8 rb (lift B r') sb r' wc ∧ Sees wc (.slice ta' P'.length tc') P' ∧ Sees wc (.slice ua' P'.length uc') P') := by
  subst hwc
  have HFL := hide (unhide HXX).1.lt
  have HGL := hide (unhide HXX).2.1.lt
  have zz4 := unhide HP4 |>.kepts.size
  have zz5 := unhide HP5 |>.kepts.size
  (try simp only [World.size_alloc, World.size_drew] at zz4)
  (try simp only [World.size_alloc, World.size_drew] at zz5)
  refine leaf (K := K) (unhide HPL) (unhide HXX) (unhide HP4) (unhide HO4) (unhide HP5) (unhide HO5) ?kW ?kW2 ?kf ?h1 ?h2 ?B1 ?B2
  case kW => (repeat (first | with_reducible exact Kept.refl _ _ | with_reducible refine Kept.drew ?_ | with_reducible refine Kept.alloc ?_ _ | with_reducible refine kept4 ?_ (Or.inl (by simp)) _ _ _ _))
  case kW2 => (repeat (first | with_reducible exact Kept.refl _ _ | with_reducible refine Kept.drew ?_ | with_reducible refine Kept.alloc ?_ _ | with_reducible refine kept4 ?_ (Or.inl (by simp)) _ _ _ _))
  case kf => (repeat (first | with_reducible exact Kept.refl _ _ | with_reducible refine Kept.drew ?_ | with_reducible refine Kept.alloc ?_ _ | with_reducible refine kept4 ?_ (Or.inl (by simp)) _ _ _ _))
  case h1 => first | (simp; done) | (simp; omega) | omega
  case h2 => first | (simp; done) | (simp; omega) | omega
  case B1 =>
    (repeat (first
      | (with_reducible refine Blk.newAt ?_; (first | (simp; done) | rfl))
      | with_reducible refine Blk.alloc ?_ _
      | with_reducible refine Blk.put4 (x0 := .int .i64 0) (x1 := .int .u64 0) (x2 := .int .i64 0) (x3 := .slice none 0 0) ?_ _ _ _ _
      | with_reducible refine Blk.oth4 ?_ (by omega) _ _ _ _
      | with_reducible refine Blk.drew' ?_
      | with_reducible refine Blk.kept ?_ (unhide HP5).kepts (fun hf => absurd (unhide HGL _ hf) (by omega))
      | with_reducible refine Blk.kept ?_ (unhide HP4).kepts (fun hf => absurd (unhide HFL _ hf) (by omega))))
  case B2 =>
    (repeat (first
      | (with_reducible refine Blk.newAt ?_; (first | (simp; done) | rfl))
      | with_reducible refine Blk.alloc ?_ _
      | with_reducible refine Blk.put4 (x0 := .int .i64 0) (x1 := .int .u64 0) (x2 := .int .i64 0) (x3 := .slice none 0 0) ?_ _ _ _ _
      | with_reducible refine Blk.oth4 ?_ (by omega) _ _ _ _
      | with_reducible refine Blk.drew' ?_
      | with_reducible refine Blk.kept ?_ (unhide HP5).kepts (fun hf => absurd (unhide HGL _ hf) (by omega))
      | with_reducible refine Blk.kept ?_ (unhide HP4).kepts (fun hf => absurd (unhide HFL _ hf) (by omega))))
set_option maxRecDepth 100000 in
theorem box11 {w8 wr w4 w5 : World} {rb sb K n' PL : Nat} {I' : Int} {B l : List Nat} {bh : List (List Nat)} {r' : RS} {F G P' : List Nat} {ta ua : Option Addr} {tc uc : Nat} (HPL : Hid (PL = P'.length))
   (HXX : Hid (Rs wr rb F (lift B ⟨0, l, bh⟩) ∧ Rs wr sb G ⟨0, l, bh⟩ ∧ Kept [] w8 wr ∧ (∀ x ∈ F, w8.heap.size ≤ x) ∧ (∀ x ∈ G, w8.heap.size ≤ x) ∧ ∀ x ∈ F, x ∉ G))
   (HP4 : Hid (RsP ((wr.alloc (.cells #[.int .i64 0, .int .u64 0, .int .i64 0, .slice none 0 0] 35)).alloc (.cells #[.int .i64 0, .int .u64 0, .int .i64 0, .slice none 0 0] 35)).drew rb F (lift B r') w4)) (HO4 : Hid (w4.ownsRow ((wr.alloc (.cells #[.int .i64 0, .int .u64 0, .int .i64 0, .slice none 0 0] 35)).alloc (.cells #[.int .i64 0, .int .u64 0, .int .i64 0, .slice none 0 0] 35)).drew.heap.size 5 1 (.slice ta PL tc) PL (u8s P'))) (HP5 : Hid (RsP w4 sb G r' w5)) (HO5 : Hid (w5.ownsRow w4.heap.size 5 1 (.slice ua PL uc) PL (u8s P'))) {wc : World} (hwc : wc = ((((((((w5.setCell ⟨wr.heap.size + 1, 0, none⟩ (.int .i64 (K : Nat))).setCell ⟨wr.heap.size + 1, 1, none⟩ (.int .u64 (n' : Nat))).setCell ⟨wr.heap.size + 1, 2, none⟩ (.int .i64 I')).setCell ⟨wr.heap.size + 1, 3, none⟩ (.slice ta PL tc)).setCell ⟨wr.heap.size, 0, none⟩ (.int .i64 (K : Nat))).setCell ⟨wr.heap.size, 1, none⟩ (.int .u64 (n' : Nat))).setCell ⟨wr.heap.size, 2, none⟩ (.int .i64 I')).setCell ⟨wr.heap.size, 3, none⟩ (.slice ua PL uc))) :
   ∃ q1' q2' ta' tc' ua' uc', Value.pointer (some ⟨wr.heap.size + 1, 0, none⟩) = .pointer (some ⟨q1', 0, none⟩) ∧ Value.pointer (some ⟨wr.heap.size, 0, none⟩) = .pointer (some ⟨q2', 0, none⟩) ∧ wc.cell? ⟨q1', 1, none⟩ = some (.int .u64 (n' : Nat)) ∧ wc.cell? ⟨q1', 2, none⟩ = some (.int .i64 I') ∧ wc.cell? ⟨q1', 3, none⟩ = some (.slice ta' PL tc') ∧ wc.cell? ⟨q2', 1, none⟩ = some (.int .u64 (n' : Nat)) ∧ wc.cell? ⟨q2', 2, none⟩ = some (.int .i64 I') ∧ wc.cell? ⟨q2', 3, none⟩ = some (.slice ua' PL uc') ∧ Hid (Duo w8 rb (lift B r') sb r' wc ∧ Sees wc (.slice ta' P'.length tc') P' ∧ Sees wc (.slice ua' P'.length uc') P') := by
  subst hwc
  have HFL := hide (unhide HXX).1.lt
  have HGL := hide (unhide HXX).2.1.lt
  have zz4 := unhide HP4 |>.kepts.size
  have zz5 := unhide HP5 |>.kepts.size
  (try simp only [World.size_alloc, World.size_drew] at zz4)
  (try simp only [World.size_alloc, World.size_drew] at zz5)
  refine leaf (K := K) (unhide HPL) (unhide HXX) (unhide HP4) (unhide HO4) (unhide HP5) (unhide HO5) ?kW ?kW2 ?kf ?h1 ?h2 ?B1 ?B2
  case kW => (repeat (first | with_reducible exact Kept.refl _ _ | with_reducible refine Kept.drew ?_ | with_reducible refine Kept.alloc ?_ _ | with_reducible refine kept4 ?_ (Or.inl (by simp)) _ _ _ _))
  case kW2 => (repeat (first | with_reducible exact Kept.refl _ _ | with_reducible refine Kept.drew ?_ | with_reducible refine Kept.alloc ?_ _ | with_reducible refine kept4 ?_ (Or.inl (by simp)) _ _ _ _))
  case kf => (repeat (first | with_reducible exact Kept.refl _ _ | with_reducible refine Kept.drew ?_ | with_reducible refine Kept.alloc ?_ _ | with_reducible refine kept4 ?_ (Or.inl (by simp)) _ _ _ _))
  case h1 => first | (simp; done) | (simp; omega) | omega
  case h2 => first | (simp; done) | (simp; omega) | omega
  case B1 =>
    (repeat (first
      | (with_reducible refine Blk.newAt ?_; (first | (simp; done) | rfl))
      | with_reducible refine Blk.alloc ?_ _
      | with_reducible refine Blk.put4 (x0 := .int .i64 0) (x1 := .int .u64 0) (x2 := .int .i64 0) (x3 := .slice none 0 0) ?_ _ _ _ _
      | with_reducible refine Blk.oth4 ?_ (by omega) _ _ _ _
      | with_reducible refine Blk.drew' ?_
      | with_reducible refine Blk.kept ?_ (unhide HP5).kepts (fun hf => absurd (unhide HGL _ hf) (by omega))
      | with_reducible refine Blk.kept ?_ (unhide HP4).kepts (fun hf => absurd (unhide HFL _ hf) (by omega))))
  case B2 =>
    (repeat (first
      | (with_reducible refine Blk.newAt ?_; (first | (simp; done) | rfl))
      | with_reducible refine Blk.alloc ?_ _
      | with_reducible refine Blk.put4 (x0 := .int .i64 0) (x1 := .int .u64 0) (x2 := .int .i64 0) (x3 := .slice none 0 0) ?_ _ _ _ _
      | with_reducible refine Blk.oth4 ?_ (by omega) _ _ _ _
      | with_reducible refine Blk.drew' ?_
      | with_reducible refine Blk.kept ?_ (unhide HP5).kepts (fun hf => absurd (unhide HGL _ hf) (by omega))
      | with_reducible refine Blk.kept ?_ (unhide HP4).kepts (fun hf => absurd (unhide HFL _ hf) (by omega))))
end Go.Proofs.Ytiabhgkndejigab
