/- Trails: rows of nodes. -/
import Derived.Test.YtbpeeifgfjpghaaTRange
namespace Go.Proofs.Ytbpeeifgfjpghaa
open Go.RowKit
set_option linter.unusedVariables false

theorem info_pn : (Try.prog.info? 97).map (fun i => (i.zero, i.size, i.bytes)) = some (some (.pointer none), 1, 8) := by kernel_rfl
/-- the way down to the first node -/
def spine : TI → List TI
  | .nil => []
  | .node l k x r => .node l k x r :: spine l
theorem spine_len (t : TI) : (spine t).length ≤ t.depth := by
  induction t with
  | nil => exact Nat.le_refl _
  | node l k x r ihl ihr => simp only [spine, List.length_cons, Tr.depth]; omega
/-- what is still to come, the top of the trail first -/
def outR : List TI → List (Int × Int)
  | [] => []
  | .nil :: rs => outR rs
  | .node _ k x r :: rs => (k, x) :: (r.list ++ outR rs)
theorem outR_spine (t : TI) (rs : List TI) : outR ((spine t).reverse ++ rs) = t.list ++ outR rs := by
  induction t generalizing rs with
  | nil => rfl
  | node l k x r ihl ihr =>
    simp only [spine, List.reverse_cons, List.append_assoc, List.cons_append, List.nil_append]
    rw [ihl]
    simp [outR, Tr.list]

/-- nodes one by one, none of them nil -/
def AllN (w : World) : List (Option Addr) → List TI → Prop
  | [], [] => True
  | q :: qs, t :: ts => (Nd w q t ∧ t ≠ .nil) ∧ AllN w qs ts
  | _, _ => False
theorem AllN.imp {w w' : World} (f : ∀ q t, Nd w q t → Nd w' q t) : ∀ {qs : List (Option Addr)} {ts : List TI}, AllN w qs ts → AllN w' qs ts
  | [], [], _ => trivial
  | q :: qs, t :: ts, h => ⟨⟨f q t h.1.1, h.1.2⟩, AllN.imp f h.2⟩
  | [], _ :: _, h => h.elim
  | _ :: _, [], h => h.elim
theorem AllN.length {w : World} : ∀ {qs : List (Option Addr)} {ts : List TI}, AllN w qs ts → qs.length = ts.length
  | [], [], _ => rfl
  | q :: qs, t :: ts, h => by simp [AllN.length h.2]
  | [], _ :: _, h => h.elim
  | _ :: _, [], h => h.elim
theorem AllN.app {w : World} {qs' : List (Option Addr)} {ts' : List TI} (h' : AllN w qs' ts') : ∀ {qs : List (Option Addr)} {ts : List TI}, AllN w qs ts → AllN w (qs ++ qs') (ts ++ ts')
  | [], [], _ => h'
  | q :: qs, t :: ts, h => ⟨h.1, AllN.app h' h.2⟩
  | [], _ :: _, h => h.elim
  | _ :: _, [], h => h.elim
theorem AllN.take {w : World} : ∀ (n : Nat) {qs : List (Option Addr)} {ts : List TI}, AllN w qs ts → AllN w (qs.take n) (ts.take n)
  | 0, _, _, _ => trivial
  | n + 1, [], [], _ => trivial
  | n + 1, q :: qs, t :: ts, h => ⟨h.1, AllN.take n h.2⟩
  | n + 1, [], _ :: _, h => h.elim
  | n + 1, _ :: _, [], h => h.elim
theorem AllN.get {w : World} : ∀ {qs : List (Option Addr)} {ts : List TI}, AllN w qs ts → ∀ (i : Nat) (hi : i < ts.length), ∃ q, qs[i]? = some q ∧ Nd w q ts[i] ∧ ts[i] ≠ .nil
  | [], [], _, i, hi => by simp at hi
  | q :: qs, t :: ts, h, 0, _ => ⟨q, rfl, h.1⟩
  | q :: qs, t :: ts, h, i + 1, hi => by simpa using AllN.get h.2 i (by simpa using hi)
  | [], _ :: _, h, _, _ => h.elim
  | _ :: _, [], h, _, _ => h.elim
/-- a trail of the call's own -/
def NRow (base : Nat) (w : World) (v : Value) (s : List TI) : Prop := ∃ qs, AllN w qs s ∧ w.ownsRow base 97 1 v s.length (qs.map Value.pointer)

/-- new blocks came about, and trails from B on were written -/
def GrowP (B : Nat) (w w' : World) : Prop := w.heap.size ≤ w'.heap.size ∧ ∀ I : World → Prop, OwnT B (fun (_ : Unit) W => I W) → I w → I w'
theorem GrowP.refl (B : Nat) (w : World) : GrowP B w w := ⟨Nat.le_refl _, fun _ _ h => h⟩
theorem GrowP.trans {B : Nat} {a b c : World} (h : GrowP B a b) (k : GrowP B b c) : GrowP B a c := ⟨Nat.le_trans h.1 k.1, fun I hI ha => k.2 I hI (h.2 I hI ha)⟩
theorem GrowP.up {B C : Nat} {a b : World} (h : GrowP C a b) (hBC : B ≤ C) : GrowP B a b := ⟨h.1, fun I hI ha => h.2 I (own_up hI hBC) ha⟩
theorem GrowP.own {β : Type} {B : Nat} {a b : World} (h : GrowP B a b) {I : β → World → Prop} (hI : OwnT B I) {s : β} (hs : I s a) : I s b := h.2 (fun W => I s W) (fun _ W W' row h1 h2 h3 => hI s W W' row h1 h2 h3) hs
theorem GrowP.alloc (B : Nat) (w : World) (o : Obj) : GrowP B w (w.alloc o) := ⟨by simp, fun I hI hw => own_alloc (s := ()) hI o hw⟩
theorem GrowP.grown {B : Nat} {w w' : World} {row : Option Nat} (hg : w.grownBy w' row) (hr : ∀ r, row = some r → B ≤ r ∧ ∃ cs fr, w.heap[r]? = some (.cells cs 97 fr)) : GrowP B w w' :=
  ⟨hg.size, fun I hI hw => hI () w w' row hw hg (fun r e => by obtain ⟨h1, cs, fr, h2⟩ := hr r e; exact ⟨h1, _, h2, Or.inr ⟨cs, fr, rfl⟩⟩)⟩
theorem blk_own {β : Type} {B b : Nat} {cs : Array Value} {t : TypeId} (ht : t ≠ 97) : OwnT B (fun (_ : β) W => Blk W b cs t) := fun s X Y row hs hg hr =>
  (hg.block b hs.lt (fun e => by
    obtain ⟨_, o, ho, h2⟩ := hr b e.symm
    rw [show X.heap[b]? = _ from hs] at ho
    cases ho
    rcases h2 with h2 | ⟨cs', fr, h2⟩
    · cases h2
    · simp only [Obj.cells.injEq] at h2; exact ht h2.2.1)).trans hs
theorem nd_own {β : Type} {B : Nat} (t : TI) : ∀ (p : Option Addr), OwnT B (fun (_ : β) W => Nd W p t) := by
  induction t with
  | nil => intro p s X Y row hs _ _; exact hs
  | node l k x r ihl ihr =>
    intro p s X Y row hs hg hr
    obtain ⟨b, pl, pr, h1, h2, h3, h4⟩ := hs
    exact ⟨b, pl, pr, h1, blk_own (by decide) s X Y row h2 hg hr, ihl pl s X Y row h3 hg hr, ihr pr s X Y row h4 hg hr⟩
theorem GrowP.nd {B : Nat} {w w' : World} (h : GrowP B w w') {p : Option Addr} {t : TI} (hn : Nd w p t) : Nd w' p t := h.own (nd_own t p) (s := ()) hn
theorem GrowP.kept {B : Nat} {w w' : World} (h : Kept [] w w') : GrowP B w w' :=
  ⟨h.size, fun I hI hw => hI () w w' none hw ⟨h.os, h.tape, h.output, h.size, fun k hk _ => h.block k hk (by simp)⟩ (fun r e => by cases e)⟩

/-- 'append(trail, n..)' -/
theorem wpList_append_nodes {base : Nat} (w : World) {ops : Array Oper} {rest : List Oper} {o : Oper} {a : Act} {Q : Exit → Act → World → Prop} (hgd : o.guard = none) (s x : Operand)
    (ho : o.op = .call { callee := .builtin .append, args := #[s, x], argTypes := #[113, 113] })
    {v : Value} {ts : List TI} (hs : a.eval s = v) (hbase : base ≤ w.heap.size) (hown : Hid (NRow base w v ts))
    {b m c : Nat} (hxv : a.eval x = .slice (some ⟨b, 0, none⟩) m c) {qs' : List (Option Addr)} {ts' : List TI} (hb : Hid (∀ j q, qs'[j]? = some q → w.cell? ⟨b, j, none⟩ = some (.pointer q))) (hm : Hid (qs'.length = m)) (hts : Hid (AllN w qs' ts'))
    (hl : Hid (ts.length + m ≤ 17592186044416))
    (h : ∀ va' n' vc' w', Hid (n' = ts.length + m) → Hid (NRow base w' (.slice va' n' vc') (ts ++ ts')) → Hid (GrowP base w w') → wpList Try.prog ops Q rest (a.put o.dst (.slice va' n' vc')) w') :
    wpList Try.prog ops Q (o :: rest) a w := by
  obtain ⟨i0, hi, hz0, hz1, hz2⟩ := info_parts info_pn
  obtain ⟨qs, h1, h2⟩ := unhide hown
  have hl' : ts.length + m ≤ 17592186044416 := hl
  have hm' : qs'.length = m := hm
  have hlen := h1.length
  have hlen' := (unhide hts).length
  refine wpList_append_own_at w hgd s x 113 ho base 97 i0 _ 1 8 Try.underlying113 hi hz0 hz1 hz2 rfl (by decide) v ts.length (qs.map Value.pointer) hs h2 ⟨b, 0, none⟩ m c (qs'.map Value.pointer) hxv (by simp [hm']) (fun j u hj => ?_) (by
      intro u hu
      obtain ⟨q, _, rfl⟩ := List.mem_map.1 hu
      rfl) (by unfold maxLen; omega) (by omega) hbase ?_
  · have hadd : (⟨b, 0, none⟩ : Addr).add j = ⟨b, j, none⟩ := by unfold Addr.add; split <;> simp_all
    rw [hadd]
    rw [List.getElem?_map] at hj
    cases hq : qs'[j]? with
    | none => rw [hq] at hj; cases hj
    | some q =>
      rw [hq] at hj
      have : u = .pointer q := by simpa using hj.symm
      rw [this]
      exact unhide hb j q hq
  · intro v' w' q1 q2 q3 q4
    obtain ⟨a', c', rfl⟩ := own_len q1
    have hgr : GrowP base w w' := GrowP.grown q2 (fun r hr => by
      refine ⟨(h2.lt r hr).1, ?_⟩
      rcases h2.2 with ⟨e1, e2⟩ | ⟨g', cap', cur, e1, _, hh, _⟩
      · rw [e1] at hr; cases hr
      · rw [e1] at hr; cases hr; exact ⟨_, _, hh⟩)
    refine h a' (ts.length + m) c' w' rfl ⟨qs ++ qs', ?_, ?_⟩ hgr
    · exact AllN.app ((unhide hts).imp (fun _ _ hx => hgr.nd hx)) (h1.imp (fun _ _ hx => hgr.nd hx))
    · rw [List.length_append, ← hlen', hm', List.map_append]
      exact q1

set_option maxRecDepth 100000 in
set_option maxHeartbeats 1000000 in
theorem lay_any {base : Nat} {w : World} {v : Value} {s : List TI} {p : Option Addr} {t : TI} (hv : NRow base w v s) (hp : Nd w p t) (hbase : base ≤ w.heap.size) (hl : s.length + t.depth ≤ 8796093022208) :
    Calls Try.prog 59 #[v, .pointer p, .bool false] w fun e w' => ∃ v', e = .returned v' ∧ NRow base w' v' (s ++ spine t) ∧ GrowP base w w' := by
  obtain ⟨qs0, hq1, hq2⟩ := hv
  obtain ⟨va, vc, rfl⟩ := own_len hq2
  have HV := hide (show NRow base w (.slice va s.length vc) s from ⟨qs0, hq1, hq2⟩)
  have HP := hide hp
  clear hq1 hq2 hp
  generalize hSL : s.length = SL at *
  have HSL := hide hSL
  clear hSL
  go_enter Try.func59, Try.ntmps59
  go_wp2_with fail
  go_loopw [0, 1] (fun tv nv wr => ∃ va n vc p' s' t', tv = .slice va n vc ∧ nv = .pointer p' ∧ n = s'.length ∧ NRow base wr (.slice va n vc) s' ∧ Nd wr p' t' ∧ s' ++ spine t' = s ++ spine t ∧ s'.length + t'.depth ≤ 8796093022208 ∧ GrowP base w wr) (fun _ nv wr => szOf wr nv)
  case atStart => exact ⟨va, SL, vc, p, s, t, rfl, rfl, (unhide HSL).symm, unhide HV, unhide HP, rfl, by rw [unhide HSL]; exact hl, GrowP.refl _ _⟩
  case round =>
    clear HV HP
    obtain ⟨va, n, vc, p', s', t', rfl, rfl, rfl, hv, hp, he, hl2, hg⟩ := hrel
    have HZ := hide (szOf_eq hp)
    have HV := hide hv
    have HE := hide he
    have HG := hide hg
    have hgs := hg.1
    cases t' with
    | nil =>
      have hp : p' = none := hp
      subst hp
      clear hv he hg
      go_wp2
      go_ret
      have he := unhide HE
      simp only [spine, List.append_nil] at he
      exact ⟨_, rfl, by rw [← he]; exact unhide HV, unhide HG⟩
    | node l k x r =>
      have HP := hide hp
      obtain ⟨g, pa, pb, rfl, hb, hl1, hr1⟩ := hp
      simp only [Tr.depth] at hl2
      have hka : Kept [] wr (wr.alloc (.cells #[.pointer (some ⟨g, 0, none⟩)] 97)) := (Kept.refl [] wr).alloc _
      have HV1 : Hid (NRow base (wr.alloc (.cells #[.pointer (some ⟨g, 0, none⟩)] 97)) (.slice va s'.length vc) s') := by
        obtain ⟨qs, h1, h2⟩ := hv
        exact ⟨qs, h1.imp (fun _ _ hx => hx.kept hka), own_kept h2 hka (by simp)⟩
      have HB1 : Hid (∀ j q, [(some ⟨g, 0, none⟩ : Option Addr)][j]? = some q → (wr.alloc (.cells #[.pointer (some ⟨g, 0, none⟩)] 97)).cell? ⟨wr.heap.size, j, none⟩ = some (.pointer q)) := by
        intro j q hj
        rw [(Blk.new wr #[.pointer (some ⟨g, 0, none⟩)] 97).cell j]
        match j, hj with
        | 0, hj => simp at hj; subst hj; rfl
        | j + 1, hj => simp at hj
      have HT1 : Hid (AllN (wr.alloc (.cells #[.pointer (some ⟨g, 0, none⟩)] 97)) [some ⟨g, 0, none⟩] [.node l k x r]) := ⟨⟨(unhide HP).kept hka, by simp⟩, trivial⟩
      have HL1 : Hid (s'.length + 1 ≤ 17592186044416) := by show s'.length + 1 ≤ 17592186044416; omega
      have HL := hide hl1
      have hbz : base ≤ (wr.alloc (.cells #[.pointer (some ⟨g, 0, none⟩)] 97)).heap.size := by simp; omega
      have HM1 : Hid ([(some ⟨g, 0, none⟩ : Option Addr)].length = 1) := rfl
      have HS : Hid (∀ W, GrowP base wr W → Calls Try.prog 92 #[.pointer (some ⟨g, 0, none⟩), .bool false] W fun e w' => e = .returned (.pointer pa) ∧ w' = W) := fun W hW => by
        obtain ⟨b2, pl2, pr2, e2, hb2, _, _⟩ := hW.nd (unhide HP)
        obtain rfl : g = b2 := by simpa using e2
        have hbb := hW.own (blk_own (β := Unit) (b := g) (by decide)) (s := ()) hb
        exact side_low rfl hbb
      clear hv he hg hb hl1 hr1
      go_wp2_with (first
        | (at_builtin; refine wpList_append_nodes _ rfl _ _ rfl rfl hbz HV1 rfl HB1 HM1 HT1 HL1 ?_; intro va' n' vc' w2 HN2 HV2 HG2; have HG3 : Hid (GrowP base wr w2) := (GrowP.kept hka).trans (unhide HG2))
        | (go_at_call 92; refine (unhide HS _ (unhide HG3)).mono ?_; rintro e w3 ⟨rfl, hq⟩; have hq' := hq.symm; subst hq'))
      refine ⟨⟨va', n', vc', pa, s' ++ [.node l k x r], l, rfl, rfl, by have := unhide HN2; simpa using this, unhide HV2, (unhide HG3).nd (unhide HL), ?_, by simp; omega, (unhide HG).trans (unhide HG3)⟩, ?_⟩
      · have := unhide HE; simp only [spine] at this; rw [← this]; simp
      · rw [szOf_eq ((unhide HG3).nd (unhide HL)), unhide HZ]; simp only [Tr.size]; omega
end Go.Proofs.Ytbpeeifgfjpghaa
