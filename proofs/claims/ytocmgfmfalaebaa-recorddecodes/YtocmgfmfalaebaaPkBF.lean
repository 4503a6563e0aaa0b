/- A text of the base. -/
import Derived.Test.YtocmgfmfalaebaaPkU
/- RecordForm. -/
namespace Go.Proofs.Ytocmgfmfalaebaa
open Go.RowKit

theorem zeroW (w : World) : RecW w zeroP nilL := ⟨Or.inl (Or.inl ⟨rfl, rfl⟩), Or.inl (Or.inl ⟨rfl, rfl⟩), Or.inl (Or.inl ⟨rfl, rfl⟩), by simp [zeroP], by simp [zeroP], by simp [zeroP]⟩
theorem rv_zero : rv zeroP nilL = .agg #[.int .i64 0, .int .i64 0, .int .i64 0, .int .i64 0, .int .i64 0, .int .i64 0, .int .i64 0, .slice none 0 0, .slice none 0 0, .int .i64 0, .slice none 0 0] := rfl
/-- The lists of a sound record are short. -/
theorem snd_len {p : Pl} (h : snd p = true) : p.key.length ≤ 64 ∧ p.val.length ≤ 256 ∧ p.copy.length ≤ 262144 := by
  rcases (snd_iff p).1 h with h | h | h | h
  · obtain ⟨-, -, -, -, h5, -, -, h8⟩ := h
    have := wrt_iff.1 h5
    rw [h8]
    simp
    omega
  · obtain ⟨-, -, -, -, -, -, ⟨-, h1, h2, -⟩, h8⟩ := h
    rw [h1, h2, h8]; simp
  · obtain ⟨-, -, -, -, h5, -, -, ⟨-, h1, h2, -⟩⟩ := h
    rw [h1, h2]; simp; exact h5
  · obtain ⟨-, -, -, -, -, -, ⟨-, h1, h2, -⟩, h8⟩ := h
    rw [h1, h2, h8]; simp
theorem NewR.snd {w W : World} {p : Pl} {l : Lo} (h : NewR w p l W) (hs : snd p = true) : RecW W p l := by
  have := snd_len hs
  exact h.recW (by omega) (by omega) (by omega)

set_option maxRecDepth 100000 in
set_option maxHeartbeats 1600000 in
theorem form_walk (w : World) (a : Option Addr) (c : Nat) (bs : List Nat) (h : Wide w (.slice a bs.length c) bs) (hb : ∀ x ∈ bs, x < 256) (hl : bs.length ≤ 140737488355328) : Calls Try.prog 6 #[.slice a bs.length c] w fun e w' => e = .returned (.bool true) ∧ Kept [] w w' := by
  have HA := hide (fun W => awake_any W)
  have HP := hide h
  have HD := hide (fun W (k : Kept [] w W) => decode_any W _ bs (h.kept k) hl hb)
  have HB := hide (And.intro hb hl)
  clear h hb hl
  generalize hN : bs.length = N at *
  have HN := hide hN
  clear hN
  cases hd : dec bs with
  | none =>
    have HDN := hide hd
    clear hd
    go_enter Try.func6, Try.ntmps6
    go_wp2_with (first
      | (go_at_call 22; refine (unhide HA _).mono ?_; rintro e w1 ⟨rfl, k1⟩; have HK1 := hide k1; clear k1)
      | (go_at_call 19; refine (unhide HD _ (unhide HK1)).mono ?_; rintro e w2 ⟨k2, hz⟩; rcases hz with ⟨_, _, hz, -⟩ | ⟨-, rfl⟩; (exact absurd hz (by rw [unhide HDN]; simp)); rw [rv_zero]; have HK2 := hide (((unhide HK1).step k2).step ((Kept.refl [] w2).alloc (.cells (rcc zeroP nilL) 26))); clear k2)
      | (go_at_call 21; refine (sameRec_any (zeroW _) (zeroW _)).mono ?_; rintro e w3 ⟨rfl, k3⟩; rw [(eqR_iff zeroP zeroP).2 rfl]; have HK3 := hide ((unhide HK2).step k3); clear k3))
    all_goals
      go_ret
      exact ⟨rfl, unhide HK3⟩
  | some p =>
    obtain ⟨hs, he⟩ := dec_some (unhide HB).1 hd
    have HDN := hide hd
    have HS := hide hs
    have HE := hide he
    clear hd hs he
    go_enter Try.func6, Try.ntmps6
    go_wp2_with (first
      | (go_at_call 22; refine (unhide HA _).mono ?_; rintro e w1 ⟨rfl, k1⟩; have HK1 := hide k1; clear k1)
      | (go_at_call 19; refine (unhide HD _ (unhide HK1)).mono ?_; rintro e w2 ⟨k2, hz⟩; rcases hz with ⟨p2, l2, hz, rfl, hn⟩ | ⟨hz, -⟩; rotate_left; (exact absurd hz (by rw [unhide HDN]; simp)); rw [unhide HDN] at hz; have hz' := (Option.some.inj hz).symm; subst hz'; clear hz; rw [rv_lit]; have k2' := (Kept.refl [] w2).alloc (.cells (rcc p2 l2) 26); have HK2 := hide (((unhide HK1).step k2).step k2'); have HR2 := hide ((hn.snd (unhide HS)).kept k2'); have HB2 := hide (Blk.new w2 (rcc p2 l2) 26); obtain ⟨d0, d1, d2, d3, d4, d5, d6, d7, d8, d9, d10⟩ := box11 (unhide HB2); clear k2 hn k2')
      | (go_at_call 12; refine (encode_any _ p2 l2 (unhide HR2).far).mono ?_; rintro e w3 ⟨k3, hz⟩; rcases hz with ⟨-, a3, c3, rfl, ho⟩ | ⟨hz, -⟩; rotate_left; (exact absurd hz (by rw [unhide HS]; simp)); have HO := hide (Sees.of_own ho); have HK3 := hide ((unhide HK2).step k3); have HR3 := hide ((unhide HR2).kept k3); have hb3 := (unhide HB2).kept k3 (by simp); obtain ⟨d0, d1, d2, d3, d4, d5, d6, d7, d8, d9, d10⟩ := box11 hb3; have HB3 := hide hb3; rw [unhide HE] at HO; rw [unhide HE, unhide HN]; rw [unhide HN] at HO; clear k3 ho hb3)
      | (go_at_call 16; refine (same_full ((unhide HP).kept (unhide HK3)) (Or.inl (unhide HO)) (by rw [unhide HN]; have h1 := (unhide HB).2; omega)).mono ?_; rintro e w4 ⟨rfl, k4⟩; have HK4 := hide ((unhide HK3).step k4); have hb4 := (unhide HB3).kept k4 (by simp); obtain ⟨d0, d1, d2, d3, d4, d5, d6, d7, d8, d9, d10⟩ := box11 hb4; simp only [decide_true]; clear k4 hb4)
      | (go_at_call 14; refine (sound_any _ p2 l2).mono ?_; rintro e w5 ⟨rfl, k5⟩; rw [unhide HS]; have HK5 := hide ((unhide HK4).step k5); clear k5))
    all_goals
      go_ret
      exact ⟨rfl, unhide HK5⟩
end Go.Proofs.Ytocmgfmfalaebaa
