/- The law's round. -/
import Derived.Test.YtkejpbfbpomjfaaCPlcCZ
namespace Go.Proofs.Ytkejpbfbpomjfaa.tre
open Go.RowKit
set_option linter.unusedVariables false

set_option maxRecDepth 100000 in
theorem round_any {w : World} (x : Int) (n : Nat) (hx1 : -9223372036854775808 ≤ x) (hx2 : x ≤ 9223372036854775807) (hn : 1 ≤ n) (hn2 : n ≤ 4611686018427387904) : Calls Try.prog 15 #[.int .i64 x, .int .i64 (n : Int)] w fun e w' => (∃ r : Nat, r < n ∧ e = .returned (.int .i64 (r : Int))) ∧ w' = w := by
  have h1 := Int.tmod_lt_of_pos x (show (0 : Int) < (n : Int) by omega)
  have h2 : -(n : Int) < x.tmod n := by
    have := Int.tmod_lt_of_pos (-x) (show (0 : Int) < (n : Int) by omega)
    rw [Int.neg_tmod] at this
    omega
  have h0 : ¬ (n : Int) = 0 := by omega
  by_cases hk : x.tmod n < 0
  · go_enter Try.func15, Try.ntmps15
    go_wp2
    go_ret
    refine ⟨⟨(x.tmod n + n).toNat, by omega, ?_⟩, rfl⟩
    show Ending.returned (Value.int .i64 _) = Ending.returned (Value.int .i64 _)
    congr 2; omega
  · go_enter Try.func15, Try.ntmps15
    go_wp2
    go_ret
    refine ⟨⟨(x.tmod n).toNat, by omega, ?_⟩, rfl⟩
    show Ending.returned (Value.int .i64 _) = Ending.returned (Value.int .i64 _)
    congr 2; omega
set_option maxRecDepth 100000 in
theorem prev_any {w : World} {b : Nat} {T : Tb} (h : Tab w b T) : Calls Try.prog 13 #[.pointer (some ⟨b, 0, none⟩)] w fun e w' => e = .returned (.int .i64 (T.rev : Int)) ∧ w' = w := by
  obtain ⟨q, hb, ht⟩ := h
  obtain ⟨c0, c1, c2⟩ := box3 hb
  clear hb ht
  generalize (T.rev : Int) = rv at *
  go_enter Try.func13, Try.ntmps13
  go_wp2_with fail
  go_ret
  exact ⟨rfl, rfl⟩
theorem push_keep {X Y : World} {B e s n : Nat} {v : Value} {xs : List Value} (hg : X.grownBy Y v.ownBlock) (ho : X.ownsRow B e s v n xs) {g : Nat} {cs : Array Value} {t : TypeId} (hb : Blk X g cs t) (hne : t ≠ e) : Blk Y g cs t := by
  obtain ⟨F, hk, hF⟩ := grown_kept hg
  exact hb.kept hk (fun hm => typed_ne ho hb hne (hF g hm))
theorem TxA.kept {X Y : World} {b : Nat} {dv av sv : Value} {r : Ae} (t : TxA X b dv av sv r) (hk : Kept [] X Y) : TxA Y b dv av sv r := ⟨t.k.kept hk (by simp), t.v.kept hk (by simp), t.ko, t.vo⟩
theorem TxA.growD {X Y : World} {b : Nat} {dv av sv dv' : Value} {r : Ae} (t : TxA X b dv av sv r) (hg : X.grownBy Y dv.ownBlock) (hat : dv'.ownBlock = dv.ownBlock ∨ dv'.ownBlock = some X.heap.size) : TxA Y b dv' av sv r := by
  obtain ⟨F, hk, hF⟩ := grown_kept hg
  exact ⟨t.k.kept hk (fun k hv hm => (t.ko k hv).2.1 (hF k hm)), t.v.kept hk (fun k hv hm => (t.vo k hv).2.1 (hF k hm)), fun k hv => (t.ko k hv).turn (t.k.lt hv) hat (Or.inl rfl) (Or.inl rfl), fun k hv => (t.vo k hv).turn (t.v.lt hv) hat (Or.inl rfl) (Or.inl rfl)⟩
theorem arow_at {X : World} {B n : Nat} {qa : Option Addr} {N qc : Nat} {A : List Ae} (h : X.ownsRow B 29 5 (.slice qa N qc) n (flatA A)) {r : Nat} {a : Ae} (hr : A[r]? = some a) : ∃ g, qa = some ⟨g, 0, none⟩ ∧ X.cell? ⟨g, r * 5, none⟩ = some (.bool (dn a.T a.o)) ∧ X.cell? ⟨g, r * 5 + 1, none⟩ = some a.ks ∧ X.cell? ⟨g, r * 5 + 2, none⟩ = some a.vs ∧ X.cell? ⟨g, r * 5 + 3, none⟩ = some (.int .i64 (arev a.T a.o)) ∧ X.cell? ⟨g, r * 5 + 4, none⟩ = some (.int .i64 (rvn a.T a.o : Int)) := by
  have hlt : r < A.length := (List.getElem?_eq_some_iff.1 hr).1
  have hfl : (flatA A)[r * 5 + 0]? = some (.bool (dn a.T a.o)) := by rw [flatA_get hr (by omega)]; rfl
  rcases h.2 with ⟨e1, h0⟩ | ⟨g, cap, cur, e1, hb, hh, _⟩
  · exfalso
    have hlen := h.1
    rw [h0] at hlen
    simp at hlen
    rw [hlen] at hfl
    cases hfl
  · cases e1
    have hc : ∀ j u, j < 5 → (aec a)[j]? = some u → X.cell? ⟨g, r * 5 + j, none⟩ = some u := fun j u hj hu => by
      have := h.cells (g := g) rfl (r * 5 + j) u (by rw [flatA_get hr hj]; exact hu)
      rw [addN] at this
      simpa using this
    exact ⟨g, rfl, hc 0 _ (by omega) rfl, hc 1 _ (by omega) rfl, hc 2 _ (by omega) rfl, hc 3 _ (by omega) rfl, hc 4 _ (by omega) rfl⟩
theorem orow_at {X : World} {B n : Nat} {qa : Option Addr} {N qc : Nat} {S : List Oe} (h : X.ownsRow B 34 4 (.slice qa N qc) n (flatO S)) {r : Nat} {a : Oe} (hr : S[r]? = some a) : ∃ g, qa = some ⟨g, 0, none⟩ ∧ X.cell? ⟨g, r * 4, none⟩ = some (.int .i64 a.o.kind) ∧ X.cell? ⟨g, r * 4 + 1, none⟩ = some a.ks ∧ X.cell? ⟨g, r * 4 + 2, none⟩ = some a.vs ∧ X.cell? ⟨g, r * 4 + 3, none⟩ = some (.int .i64 a.o.rev) := by
  have hfl : (flatO S)[r * 4 + 0]? = some (.int .i64 a.o.kind) := by rw [flat_get hr (by omega)]; rfl
  rcases h.2 with ⟨e1, h0⟩ | ⟨g, cap, cur, e1, hb, hh, _⟩
  · exfalso
    have hlen := h.1
    rw [h0] at hlen
    simp at hlen
    rw [hlen] at hfl
    cases hfl
  · cases e1
    have hc : ∀ j u, j < 4 → (oec a)[j]? = some u → X.cell? ⟨g, r * 4 + j, none⟩ = some u := fun j u hj hu => by
      have := h.cells (g := g) rfl (r * 4 + j) u (by rw [flat_get hr hj]; exact hu)
      rw [addN] at this
      simpa using this
    exact ⟨g, rfl, hc 0 _ (by omega) rfl, hc 1 _ (by omega) rfl, hc 2 _ (by omega) rfl, hc 3 _ (by omega) rfl⟩
theorem own_cap {X : World} {B e s n : Nat} {a : Option Addr} {N c : Nat} {xs : List Value} (h : X.ownsRow B e s (.slice a N c) n xs) : N = n ∧ n ≤ c := by
  rcases h.2 with ⟨e1, h0⟩ | ⟨g, cap, cur, e1, hb, hh, hc, _⟩
  · cases e1; omega
  · cases e1; exact ⟨rfl, hc⟩
/-- an answer that was just told -/
theorem told {w X Y : World} {b : Nat} {T : Tb} {dv av sv : Value} {D S : List Oe} {A : List Ae} (h : Pm w X b T dv av sv D S A) {o : Opm} {ka : Option Addr} {kn kc : Nat} {va : Option Addr} {vn vc : Nat} (ha : Ansd X Y b T o ka kn kc va vn vc) : TxA Y b dv av sv ⟨T, o, .slice ka kn kc, .slice va vn vc⟩ ∧ Pm w Y b (nxt T o) dv av sv D S A := by
  have hbl : b < X.heap.size := by obtain ⟨q0, hb0, -⟩ := h.tab; exact hb0.lt
  have hout : ∀ k, X.heap.size ≤ k → Out b dv av sv k := fun k hk => by
    refine ⟨by omega, fun e => ?_, fun e => ?_, fun e => ?_⟩
    · have := (own_lt h.d e).2; omega
    · have := (own_lt h.a e).2; omega
    · have := (own_lt h.s e).2; omega
  exact ⟨⟨ha.k.1, ha.v.1, fun k hk => hout k (ha.k.2 k hk), fun k hk => hout k (ha.v.2 k hk)⟩, h.did ha.kp ha.t⟩
end Go.Proofs.Ytkejpbfbpomjfaa.tre
