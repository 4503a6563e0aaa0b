/- DiskOwn returns true. -/
import Derived.Test.YtfaoblnghkiibaaQOwnB
import Derived.Deep.RegionHeld3
import Derived.BigRegion
import Derived.Deep.DeepCutAuto
namespace Go.Proofs.Ytfaoblnghkiibaa
open Go.RowKit

def wrS (bs ds : List Nat) (k : Nat) : List Nat := if ds.length = 64 then lay bs k 64 ds else bs
theorem write_two {W : World} {b n k : Nat} {F : List Nat} {bs ds : List Nat} {v : Value} (h : Dk W b F (fresh n bs)) (hk : k < n) (hv : Sees W v ds) (hvF : ∀ q, v.ownBlock = some q → q ∉ F) :
    Calls Try.prog 19 #[.pointer (some ⟨b, 0, none⟩), .int .i64 (k : Int), v] W fun e w' => ∃ z F' d1, e = .returned (.int .i64 z) ∧ Dk w' b F' d1 ∧ Nx F W F' w' ∧ d1.fuse = none ∧ d1.n = n ∧ d1.pend.length ≤ 1 ∧ d1.sync.safe = wrS bs ds k := by
  by_cases hl : ds.length = 64
  · refine (write_yes h (fresh_rE hk) hv hl hvF (by simp [fresh])).mono ?_
    rintro e w' ⟨F', rfl, h1, h2⟩
    exact ⟨_, F', _, rfl, h1, h2, rfl, rfl, by simp [fresh, Dm.write], by unfold wrS; rw [if_pos hl]; rfl⟩
  · refine (write_no2 h (fresh_rE hk) hv hl).mono ?_
    rintro e w' ⟨rfl, rfl⟩
    exact ⟨_, F, _, rfl, h, Nx.refl _ _, rfl, rfl, by simp [fresh], by unfold wrS; rw [if_neg hl]; rfl⟩
theorem wrS_ok {bs ds : List Nat} {k n : Nat} (hb : ∀ x ∈ bs, x < 256) (hd : ∀ x ∈ ds, x < 256) (hl : bs.length = 64 * n) (hk : k < n) : (wrS bs ds k).length = 64 * n ∧ ∀ x ∈ wrS bs ds k, x < 256 := by
  unfold wrS
  split
  · rename_i h
    exact ⟨lay_len hl hk h (Nat.le_refl _), lay_bytes hb hd⟩
  · exact ⟨hl, hb⟩

set_option maxRecDepth 100000 in
set_option maxHeartbeats 4000000 in
theorem own_no {w : World} {iv : Value} {bs : List Nat} (hi : Sees w iv bs) (hil : bs.length ≤ 140737488351232) (hno : noDisk bs.length) (sec : Int) (dv : Value) :
    Calls Try.prog 7 #[iv, .int .i64 sec, dv] w fun e w' => e = .returned (.bool true) ∧ Kept [] w w' := by
  have HNUM := hide num_any
  have HKN := hide (known_any w)
  have HLT := hide (fun W (hk : Kept [] w W) => lent_any (hi.kept hk (Or.inr (by simp))) hil)
  obtain ⟨ia, ic, rfl, -⟩ := hi
  have HLN := hide (fun W a c => load_no (w := W) (a := a) (cap := c) (L := bs.length) (by omega) hno)
  clear hno
  generalize bs.length = LI at *
  go_enter Try.func7, Try.ntmps7
  go_wp2_with (first
    | (go_at_call 17; refine (unhide HKN).mono ?_; rintro e w1 ⟨rfl, hk1⟩; have HK1 := hide hk1; clear hk1 HKN)
    | (go_at_call 8; refine (unhide HLT _ (unhide HK1)).mono ?_; rintro e w2 ⟨g2, c2, rfl, -, hk2⟩; have HK2 := hide ((unhide HK1).trans hk2 (fun _ hx => by cases hx)); clear hk2 HLT)
    | (go_at_call 10; refine (unhide HLN _ _ _).mono ?_; rintro e wq ⟨rfl, hq⟩; have hq' := hq.symm; subst hq'; clear hq HLN)
    | (go_at_call 13; refine (unhide HNUM _ _).mono ?_; rintro e wq ⟨rfl, hq⟩; have hq' := hq.symm; subst hq'; clear hq))
  go_ret
  exact ⟨rfl, unhide HK2⟩

end Go.Proofs.Ytfaoblnghkiibaa
