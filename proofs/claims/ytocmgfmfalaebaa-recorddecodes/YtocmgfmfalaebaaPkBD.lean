/- A text of the base. -/
import Derived.Test.YtocmgfmfalaebaaPkU
/- The document's loose reading of a record, in plain words. -/
namespace Go.Proofs.Ytocmgfmfalaebaa
open Go.RowKit

def lsO (s : RS) (p : Pl) : RS × Pl :=
  let a := rByte s
  let b := rText a.1 263144
  let c := if a.2 = 2 ∨ a.2 = 4 then rText b.1 263144 else (b.1, [])
  let d := if a.2 = 4 then ((rNum c.1).1, toI (rNum c.1).2) else (c.1, 0)
  (d.1, { p with okind := a.2, key := b.2, val := c.2, rev := d.2 })
/-- What is read loosely. -/
def loose (ps : List Nat) : Pl :=
  let a := rByte ⟨0, ps, []⟩
  let b := rNum a.1
  let p : Pl := { zeroP with kind := a.2, shard := toI b.2 }
  let c := rNum b.1
  let d := rNum c.1
  if a.2 = 1 then (lsO d.1 { p with client := toI c.2, seq := toI d.2 }).2
  else if a.2 = 2 then { p with peer := toI c.2 }
  else if a.2 = 4 then { p with epoch := toI c.2, peer := toI d.2, copy := (rText d.1 263144).2 }
  else p

theorem lsO_G {p : Pl} (h : wrt p.okind p.key.length p.val.length p.rev = true) (q : Pl) (l : List Nat) : lsO (rG (formO p ++ l)) q = (rG l, { q with okind := p.okind, key := p.key, val := p.val, rev := p.rev }) := by
  obtain ⟨⟨h1, h2⟩, h3⟩ := wrt_iff.1 h
  obtain ⟨kn, hkn⟩ := Int.eq_ofNat_of_zero_le (show 0 ≤ p.okind by omega)
  rcases h3 with ⟨e, h4, h5⟩ | ⟨e, h4, h5⟩ | ⟨e, h4, h5, h6⟩
  · have hf : formO p ++ l = 3 :: (form p.key.length ++ (p.key ++ l)) := by unfold formO; rw [e]; simp
    rw [hf]
    have ev : p.val = [] := List.eq_nil_of_length_eq_zero h4
    rw [e, ev, h5]
    simp [lsO, rByte_G, rText_G p.key l 263144 (by omega) (by omega)]
  · have hf : formO p ++ l = 2 :: (form p.key.length ++ (p.key ++ (form p.val.length ++ (p.val ++ l)))) := by unfold formO; rw [e]; simp
    rw [hf, e, h5]
    simp [lsO, rByte_G, rText_G p.key _ 263144 (by omega) (by omega), rText_G p.val l 263144 (by omega) (by omega)]
  · have hf : formO p ++ l = 4 :: (form p.key.length ++ (p.key ++ (form p.val.length ++ (p.val ++ (form p.rev.toNat ++ l))))) := by unfold formO; rw [e]; simp
    rw [hf, e]
    simp [lsO, rByte_G, rText_G p.key _ 263144 (by omega) (by omega), rText_G p.val _ 263144 (by omega) (by omega), rNum_G p.rev.toNat l (by omega), toI_toNat h5 (by omega)]
theorem loose_enc {p : Pl} (h : snd p = true) : loose (enc p) = p := by
  rcases (snd_iff p).1 h with h | h | h | h
  · obtain ⟨h1, h2, h3, h4, h5, h6, h7, h8⟩ := h
    rw [enc_W h1]
    have hb := rByte_G 1 (form p.shard.toNat ++ (form p.client.toNat ++ (form p.seq.toNat ++ (formO p ++ []))))
    have n1 := rNum_G p.shard.toNat (form p.client.toNat ++ (form p.seq.toNat ++ (formO p ++ []))) (by omega)
    have n2 := rNum_G p.client.toNat (form p.seq.toNat ++ (formO p ++ [])) (by omega)
    have n3 := rNum_G p.seq.toNat (formO p ++ []) (by omega)
    have n4 := lsO_G h5 { zeroP with kind := ((1 : Nat) : Int), shard := p.shard, client := p.client, seq := p.seq } []
    unfold rG at hb n1 n2 n3 n4
    rw [show ([1] ++ (form p.shard.toNat ++ (form p.client.toNat ++ (form p.seq.toNat ++ formO p)))) = 1 :: (form p.shard.toNat ++ (form p.client.toNat ++ (form p.seq.toNat ++ (formO p ++ [])))) by simp]
    unfold loose
    simp only [hb, n1, n2, n3, toI_toNat h2.1 (by omega), toI_toNat h3.1 (by omega), toI_toNat (show 0 ≤ p.seq by omega) (by omega), if_true, n4]
    obtain ⟨a, b, c, d, e, f, g, hh, i, j, k⟩ := p
    simp only at h1 h6 h7 h8
    subst h1 h6 h7 h8
    rfl
  · obtain ⟨h1, h2, h3, h4, h5, h6, ⟨g1, g2, g3, g4⟩, h8⟩ := h
    rw [enc_O h1]
    have hb := rByte_G 2 (form p.shard.toNat ++ (form p.peer.toNat ++ []))
    have n1 := rNum_G p.shard.toNat (form p.peer.toNat ++ []) (by omega)
    have n2 := rNum_G p.peer.toNat [] (by omega)
    unfold rG at hb n1 n2
    rw [show ([2] ++ (form p.shard.toNat ++ form p.peer.toNat)) = 2 :: (form p.shard.toNat ++ (form p.peer.toNat ++ [])) by simp]
    unfold loose
    simp only [hb, n1, n2, toI_toNat h2.1 (by omega), toI_toNat h3.1 (by omega), if_true, show ((2 : Nat) = 1) = False by simp, if_false]
    obtain ⟨a, b, c, d, e, f, g, hh, i, j, k⟩ := p
    simp only at h1 h4 h5 h6 g1 g2 g3 g4 h8
    subst h1 h4 h5 h6 g1 g2 g3 g4 h8
    rfl
  · obtain ⟨h1, h2, h3, h4, h5, h6, h7, ⟨g1, g2, g3, g4⟩⟩ := h
    rw [enc_I h1]
    have hb := rByte_G 4 (form p.shard.toNat ++ (form p.epoch.toNat ++ (form p.peer.toNat ++ (form p.copy.length ++ (p.copy ++ [])))))
    have n1 := rNum_G p.shard.toNat (form p.epoch.toNat ++ (form p.peer.toNat ++ (form p.copy.length ++ (p.copy ++ [])))) (by omega)
    have n2 := rNum_G p.epoch.toNat (form p.peer.toNat ++ (form p.copy.length ++ (p.copy ++ []))) (by omega)
    have n3 := rNum_G p.peer.toNat (form p.copy.length ++ (p.copy ++ [])) (by omega)
    have n4 := rText_G p.copy [] 263144 (by omega) (by omega)
    unfold rG at hb n1 n2 n3 n4
    rw [show ([4] ++ (form p.shard.toNat ++ (form p.epoch.toNat ++ (form p.peer.toNat ++ (form p.copy.length ++ p.copy))))) = 4 :: (form p.shard.toNat ++ (form p.epoch.toNat ++ (form p.peer.toNat ++ (form p.copy.length ++ (p.copy ++ []))))) by simp]
    unfold loose
    simp only [hb, n1, n2, n3, n4, toI_toNat h2.1 (by omega), toI_toNat (show 0 ≤ p.epoch by omega) (by omega), toI_toNat h4.1 (by omega), if_true, show ((4 : Nat) = 1) = False by simp, show ((4 : Nat) = 2) = False by simp, if_false]
    obtain ⟨a, b, c, d, e, f, g, hh, i, j, k⟩ := p
    simp only at h1 h6 h7 g1 g2 g3 g4
    subst h1 h6 h7 g1 g2 g3 g4
    rfl
  · obtain ⟨h1, h2, h3, h4, h5, h6, ⟨g1, g2, g3, g4⟩, h8⟩ := h
    rw [enc_S h1]
    obtain ⟨kn, hkn⟩ := Int.eq_ofNat_of_zero_le (show 0 ≤ p.kind by omega)
    have hb := rByte_G kn (form p.shard.toNat ++ [])
    have n1 := rNum_G p.shard.toNat [] (by omega)
    unfold rG at hb n1
    rw [show ([p.kind.toNat] ++ form p.shard.toNat) = kn :: (form p.shard.toNat ++ []) by rw [hkn]; simp]
    unfold loose
    simp only [hb, n1, toI_toNat h2.1 (by omega)]
    rw [if_neg (by omega), if_neg (by omega), if_neg (by omega)]
    obtain ⟨a, b, c, d, e, f, g, hh, i, j, k⟩ := p
    simp only at hkn h3 h4 h5 h6 g1 g2 g3 g4 h8
    subst hkn h3 h4 h5 h6 g1 g2 g3 g4 h8
    rfl
theorem dec_loose_yes {ps : List Nat} (h1 : snd (loose ps) = true) (h2 : enc (loose ps) = ps) : dec ps = some (loose ps) := by
  have := dec_enc h1
  rw [h2] at this
  exact this
theorem dec_loose_no {ps : List Nat} (hb : Bytes ps) (h : ¬ (snd (loose ps) = true ∧ enc (loose ps) = ps)) : dec ps = none := by
  cases hd : dec ps with
  | none => rfl
  | some p =>
    obtain ⟨h1, h2⟩ := dec_some hb hd
    have e := loose_enc h1
    rw [h2] at e
    exact absurd ⟨by rw [e]; exact h1, by rw [e]; exact h2⟩ h

theorem by0 : Bytes [] := fun x hx => by cases hx
/-- Bytes stay bytes. -/
theorem rNum_by {s : RS} (h : Bytes s.left) : Bytes (rNum s).1.left := by
  unfold rNum
  split
  · exact h
  · split
    · intro x hx; cases hx
    · rename_i n r e
      intro x hx
      exact h x (by rw [read_one0 h e]; exact List.mem_append_right _ hx)
theorem rByte_by {s : RS} (h : Bytes s.left) : Bytes (rByte s).1.left := by
  unfold rByte
  split
  · exact h
  · split
    · intro x hx; cases hx
    · rename_i y l e
      intro x hx
      exact h x (by rw [e]; exact List.mem_cons_of_mem _ hx)
theorem rText_by {s : RS} {m : Int} (h : Bytes s.left) : Bytes (rText s m).1.left ∧ Bytes (rText s m).2 := by
  unfold rText
  split
  · exact ⟨h, by0⟩
  · split
    · exact ⟨by0, by0⟩
    · rename_i n r e
      have hr : Bytes r := fun x hx => h x (by rw [read_one0 h e]; exact List.mem_append_right _ hx)
      split
      · exact ⟨by0, by0⟩
      · split
        · exact ⟨by0, by0⟩
        · exact ⟨fun x hx => hr x (List.mem_of_mem_drop hx), fun x hx => hr x (List.mem_of_mem_take hx)⟩
theorem loose_by {ps : List Nat} (h : Bytes ps) : Bytes (loose ps).key ∧ Bytes (loose ps).val ∧ Bytes (loose ps).copy := by
  have h0 : Bytes (⟨0, ps, []⟩ : RS).left := h
  have a := rByte_by h0
  have b := rNum_by a
  have c := rNum_by b
  have d := rNum_by c
  have nil := by0
  unfold loose
  dsimp only
  split
  · have e := rByte_by d
    have f := rText_by (m := 263144) e
    refine ⟨f.2, ?_, nil⟩
    unfold lsO
    dsimp only
    split
    · exact (rText_by f.1).2
    · exact nil
  · split
    · exact ⟨nil, nil, nil⟩
    · split
      · exact ⟨nil, nil, (rText_by d).2⟩
      · exact ⟨nil, nil, nil⟩
end Go.Proofs.Ytocmgfmfalaebaa
