/- A text of the base. -/
import Derived.Test.YtkejpbfbpomjfabPkX
import Derived.Test.YtkejpbfbpomjfabPkZ
import Derived.Test.YtkejpbfbpomjfabPkBA
import Derived.Test.YtkejpbfbpomjfabPkBI
import Derived.Deep.RegionHeld3
/- A table's size and its rows in the writer's hand. -/
namespace Go.Proofs.Ytkejpbfbpomjfab.tre
open Go.RowKit Go.Shelf
set_option linter.unusedVariables false

theorem wnumS {w : World} {b : Nat} {F : List Nat} {s : WS} (h : Ws w b F s) (n : Nat) (hn : n < 18446744073709551616) (hl : s.bs.length ≤ 1000000000000) :
    Calls Try.prog 39 #[.pointer (some ⟨b, 0, none⟩), .int .u64 n] w fun e w' => e = .returned (.tuple #[]) ∧ WsP w b F (wLay s (form n)) w' := by
  obtain ⟨v, sv, h1, rfl⟩ := h
  exact (wnum_any h1 n hn hl).mono fun e w' ⟨he, hp⟩ => ⟨he, WsP.of hp⟩
theorem wtextS {w : World} {b : Nat} {F : List Nat} {s : WS} (h : Ws w b F s) (pv : Value) (ps : List Nat) (hp : Sees w pv ps) (hpn : ∀ k, pv.ownBlock = some k → k ∉ F) (hl : s.bs.length + ps.length ≤ 35184372088832) :
    Calls Try.prog 40 #[.pointer (some ⟨b, 0, none⟩), pv] w fun e w' => e = .returned (.tuple #[]) ∧ WsP w b F (wLay s (form ps.length ++ ps)) w' := by
  obtain ⟨v, sv, h1, rfl⟩ := h
  exact (wtext_any h1 pv ps hp hpn hl).mono fun e w' ⟨he, hp⟩ => ⟨he, WsP.of hp⟩
theorem row_own {β : Type} {B base e s : Nat} (he : e ≠ 97) (v : Value) (n : Nat) (xs : List Value) : OwnT B (fun (_ : β) W => W.ownsRow base e s v n xs) := fun _ X Y row hs hg hr => by
  refine ⟨hs.1, ?_⟩
  rcases hs.2 with h2 | ⟨g, cap, cur, hv, hgb, hh, r⟩
  · exact Or.inl h2
  · exact Or.inr ⟨g, cap, cur, hv, hgb, blk_own (β := Unit) (B := B) he () X Y row hh hg hr, r⟩
theorem kept_own {β : Type} {B : Nat} {w : World} (hB : w.heap.size ≤ B) : OwnT B (fun (_ : β) X => Kept [] w X) := fun _ X Y row hs hg hr => hs.grown hg (fun k hk => Or.inr (Nat.le_trans hB (hr k hk).1))
theorem ws_own {β : Type} {B b : Nat} {F : List Nat} {s : WS} : OwnT B (fun (_ : β) W => Ws W b F s) := fun _ X Y row hs hg hr => by
  obtain ⟨v, sv, h, hF⟩ := hs
  exact ⟨v, sv, ⟨blk_own (β := Unit) (by decide) () X Y row h.blk hg hr, row_own (β := Unit) (by decide) _ _ _ () X Y row h.own hg hr, row_own (β := Unit) (by decide) _ _ _ () X Y row h.sown hg hr, h.n1, h.n2, h.n3, h.broom, h.bbs, h.bsts, h.bf⟩, hF⟩
/-- blocks of cells that are none of those that are never written -/
def Soft (w : World) (F : List Nat) : Prop := ∀ x ∈ F, ∃ cs t fr, w.heap[x]? = some (.cells cs t fr) ∧ Fix t = false ∧ t ≠ 73
theorem ws_soft {w : World} {b : Nat} {F : List Nat} {s : WS} (h : Ws w b F s) : Soft w F := by
  obtain ⟨v, sv, h1, rfl⟩ := h
  have rb : ∀ {base e st n : Nat} {v : Value} {xs : List Value}, w.ownsRow base e st v n xs → ∀ g, v.ownBlock = some g → ∃ cs fr, w.heap[g]? = some (.cells cs e fr) := fun h g hg => by
    rcases h.2 with ⟨e1, _⟩ | ⟨g', cap', cur, e1, _, hh, _⟩
    · rw [e1] at hg; cases hg
    · rw [e1] at hg; cases hg; exact ⟨_, _, hh⟩
  intro x hx
  rcases List.mem_cons.1 hx with rfl | hx
  · exact ⟨_, _, _, h1.blk, by decide, by decide⟩
  · rcases List.mem_append.1 hx with hx | hx
    · obtain ⟨cs, fr, hc⟩ := rb h1.own x (by simpa using hx)
      exact ⟨cs, _, fr, hc, by decide, by decide⟩
    · obtain ⟨cs, fr, hc⟩ := rb h1.sown x (by simpa using hx)
      exact ⟨cs, _, fr, hc, by decide, by decide⟩
theorem soft_keeps {F : List Nat} {B : Nat} {V V' : World} (hk : Kept F V V') (hs : Soft V F) : KeepsFrom B V V' ∧ KpT V V' := by
  refine ⟨⟨hk.size, fun k o _ ho hc => ?_⟩, ⟨hk.size, fun k cs t fr ho ht => ?_⟩⟩
  · refine (hk.block k (Array.getElem?_eq_some_iff.1 ho).1 (fun hx => ?_)).trans ho
    obtain ⟨cs, t, fr, h1, _⟩ := hs k hx
    rw [h1] at ho; cases ho; cases hc
  · refine hk.block k (Array.getElem?_eq_some_iff.1 ho).1 (fun hx => ?_)
    obtain ⟨cs', t', fr', h1, h2⟩ := hs k hx
    rw [h1] at ho; cases ho
    rw [h2.1] at ht; cases ht
theorem soft_cell {F : List Nat} {V V' : World} (hk : Kept F V V') (hs : Soft V F) {n : Nat} {cs : Array Value} (h : Blk V n cs 73) : Blk V' n cs 73 := by
  refine h.kept hk (fun hx => ?_)
  obtain ⟨cs', t', fr', h1, h2⟩ := hs n hx
  unfold Blk at h
  rw [h1] at h
  cases h
  exact h2.2 rfl
set_option maxRecDepth 100000 in
theorem tlen_any {w : World} {b : Nat} {T : Tb} (h : Tab w b T) (hr : Rok T.t) : Calls Try.prog 27 #[.pointer (some ⟨b, 0, none⟩)] w fun e w' => e = .returned (.int .i64 (T.t.size : Nat)) ∧ w' = w := by
  obtain ⟨q, hb, ht⟩ := h
  have HL := hide (Len_any ht)
  obtain ⟨c0, c1, c2⟩ := box3 hb
  clear hb ht hr
  go_enter Try.func27, Try.ntmps27
  go_wp2_with (first | (go_at_call 45; refine (unhide HL).mono ?_; rintro e w3 ⟨rfl, hq⟩; have hq2 := hq.symm; subst hq2))
  go_ret
  exact ⟨rfl, rfl⟩
/-- how many bytes a table has in the form -/
def tSz (T : Tb) : Nat := (form T.rev).length + (form T.t.size).length + bodyOf T.t.list
set_option maxRecDepth 100000 in
theorem size_any {w : World} {b : Nat} {T : Tb} (h : Tab w b T) (hr : Rok T.t) (hv : T.rev ≤ 1099511627776) : Calls Try.prog 38 #[.pointer (some ⟨b, 0, none⟩)] w fun e w' => e = .returned (.int .i64 (tSz T : Nat)) ∧ Kept [] w w' := by
  have hz := hr.size
  have hbd := hr.body
  have HL := fun W (hW : Tab W b T) => hide (tlen_any hW hr)
  have HN1 := fun W => hide (sizeOfNum_any W T.rev (by omega))
  have HN2 := fun W => hide (sizeOfNum_any W T.t.size (by omega))
  have hf1 := form_le10 T.rev (by omega)
  have hf2 := form_le10 T.t.size (by omega)
  have HT := hide h
  obtain ⟨q, hb, ht⟩ := h
  obtain ⟨c0, c1, c2⟩ := box3 hb
  have HB := hide hb
  unfold tSz
  generalize (form T.rev).length = f1 at *
  generalize (form T.t.size).length = f2 at *
  generalize bodyOf T.t.list = bd at *
  clear hb ht hr
  go_enter Try.func38, Try.ntmps38
  go_wp2_with fail
  go_region_held3 (fun w' => w'.cell? ⟨b, 1, none⟩ = some (.int .i64 (T.rev : Int)) ∧ w'.cell? ⟨b, 2, none⟩ = some (.int .i64 (bd : Int))) (go_keep) (first
    | (go_at_call 61; refine (unhide (HN1 _)).mono ?_; rintro e w3 ⟨rfl, hq⟩; have hq2 := hq.symm; subst hq2; clear HN1)
    | (go_at_call 61; refine (unhide (HN2 _)).mono ?_; rintro e w3 ⟨rfl, hq⟩; have hq2 := hq.symm; subst hq2)
    | (go_at_call 27; refine (unhide (HL _ ((unhide HT).kept (Kept.refl [] w).drew))).mono ?_; rintro e w3 ⟨rfl, hq⟩; have hq2 := hq.symm; subst hq2))
  all_goals go_wp2
  all_goals
    go_ret
    refine ⟨ret_int ?_, (Kept.refl _ _).drew⟩
    (try simp only [IntKind.wrap_i64])
    omega
/-- a row in the form, a table in the form -/
def rowF (e : ByteArray × VT) : List Nat := form e.1.size ++ byts e.1 ++ (form e.2.1.size ++ byts e.2.1) ++ form e.2.2.toNat
theorem rowF_len (e : ByteArray × VT) : (rowF e).length = rowSz e := by
  unfold rowF rowSz
  simp only [List.length_append, byts_len]
def rowsF (L : List (ByteArray × VT)) : List Nat := L.flatMap rowF
theorem rowsF_len (L : List (ByteArray × VT)) : (rowsF L).length = bodyOf L := by
  induction L with
  | nil => rfl
  | cons e L ih =>
    rw [body_cons, ← ih, ← rowF_len]
    simp [rowsF]
theorem rowsF_snoc (L : List (ByteArray × VT)) (e : ByteArray × VT) : rowsF (L ++ [e]) = rowsF L ++ rowF e := by simp [rowsF]
def tblF (T : Tb) : List Nat := form T.rev ++ form T.t.size ++ rowsF T.t.list
theorem tblF_len (T : Tb) : (tblF T).length = tSz T := by
  unfold tblF tSz
  simp only [List.length_append, rowsF_len]
theorem lay_ok {s : WS} {ps : List Nat} (hf : s.fault = 0) (hl : s.bs.length + ps.length ≤ s.room) : wLay s ps = { s with bs := s.bs ++ ps } := by
  unfold wLay
  rw [if_neg (by omega), if_pos hl]
end Go.Proofs.Ytkejpbfbpomjfab.tre
