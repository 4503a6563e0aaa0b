/- A text of the base. -/
import Derived.Test.YtfhfkpgfnlmfhaaDoorPkW
import Derived.Test.YtfhfkpgfnlmfhaaDoorPkX
/- Encode. -/
namespace Go.Proofs.YtfhfkpgfnlmfhaaDoor
open Go.RowKit

theorem Wide.far0 {w : World} {v : Value} {bs : List Nat} (h : Wide w v bs) : Far w v bs [] := by
  rcases h with h | h
  · exact Or.inl ⟨h, by simp⟩
  · exact Or.inr h
/-- A message in memory. -/
structure MW (w : World) (p : Ml) (l : Lm) : Prop where
  wide : ∀ o, isT o → Wide w (slT l p o) (getT p o)
  len : ∀ o, isT o → (getT p o).length ≤ 140737488355328
  byt : ∀ o, isT o → ∀ x ∈ getT p o, x < 256
  root : p.root < 18446744073709551616
theorem MW.kept {w w' : World} {p : Ml} {l : Lm} (h : MW w p l) (k : Kept [] w w') : MW w' p l := ⟨fun o ho => (h.wide o ho).kept k, h.len, h.byt, h.root⟩
theorem body_lt {p : Ml} (h : snd p = true) (hr : p.root < 18446744073709551616) (hb : ∀ o, isT o → ∀ x ∈ getT p o, x < 256) : ∀ x ∈ body p, x < 256 := by
  intro x hx
  unfold body encL at hx
  obtain ⟨c, hc, hx⟩ := List.mem_flatMap.1 hx
  have ho := snd_ok h hr c hc
  cases c with
  | byte o => obtain ⟨_, h1, h2⟩ := ho; simp [encP] at hx; omega
  | num o => exact form_byte _ x hx
  | flag => simp [encP] at hx; split at hx <;> omega
  | root => exact le_lt _ _ x hx
  | text o =>
    simp only [encP, List.mem_append] at hx
    rcases hx with hx | hx
    · exact form_byte _ x hx
    · exact hb o ho.1 x hx
theorem enc_len (p : Ml) : (enc p).length = (body p).length + 4 := by unfold enc summed; rw [List.length_append, le_len]
theorem enc_lt {p : Ml} (h : snd p = true) (hr : p.root < 18446744073709551616) (hb : ∀ o, isT o → ∀ x ∈ getT p o, x < 256) : ∀ x ∈ enc p, x < 256 := by
  intro x hx
  unfold enc summed at hx
  rcases List.mem_append.1 hx with hx | hx
  · exact body_lt h hr hb x hx
  · exact le_lt _ _ x hx
/-- What Encode answers. -/
def EncP (w : World) (p : Ml) (e : Ending) (w' : World) : Prop := Kept [] w w' ∧ ((snd p = true ∧ ∃ a cap, e = .returned (.tuple #[.slice a (enc p).length cap, .int .i64 0]) ∧ w'.ownsRow w.heap.size 5 1 (.slice a (enc p).length cap) (enc p).length (u8s (enc p))) ∨ (snd p = false ∧ e = .returned (.tuple #[.slice none 0 0, .int .i64 190])))
theorem wdone_w {w : World} {b : Nat} {F bs : List Nat} (h : Ws w b F (wOf bs)) :
    Calls Tryd.prog 29 #[.pointer (some ⟨b, 0, none⟩)] w fun e w' => ∃ a cap, e = .returned (.tuple #[.slice a bs.length cap, .int .i64 0]) ∧ w'.ownsRow w.heap.size 5 1 (.slice a bs.length cap) bs.length (u8s bs) ∧ Kept [] w w' := wdone_okS h rfl rfl
/-- A writer that is new, and the message beside it. -/
theorem LS.begin {w2 : World} {B bw : Nat} {p : Ml} {l : Lm} (hs : snd p = true) (hb : Blk w2 B (mcc p l) 30) (hw : Ws w2 bw [bw] (newWS 262168)) (hm : MW w2 p l) (hB : ∀ o, isT o → ∀ x, (slT l p o).ownBlock = some x → x ≠ B ∧ x ≠ bw) (hne : B ≠ bw) : LS B bw p l [] (pieces p) [bw] w2 := by
  refine ⟨hb, rfl, hw, fun o ho => ?_, by simpa using hne, snd_ok hs hm.root, (snd_len hs).2⟩
  rcases hm.wide o ho with h1 | h1
  · exact Or.inl ⟨h1, fun x hx hmm => by have := hB o ho x hx; simp at hmm; omega⟩
  · exact Or.inr h1
theorem Wide.lt {w : World} {v : Value} {bs : List Nat} (h : Wide w v bs) (hn : ∀ a, v ≠ .slice (some a) 0 0) {x : Nat} (hx : v.ownBlock = some x) : x < w.heap.size := by
  rcases h with h | ⟨a, rfl, _⟩
  · exact h.lt hx
  · exact absurd rfl (hn a)
/-- What goOver left: the writer with all of the body. -/
theorem LSP.done {B bw : Nat} {p : Ml} {l : Lm} {F : List Nat} {W0 W : World} (h : LSP B bw p l [] F W0 W) : ∃ F', Ws W bw F' (wOf (body p)) ∧ (∀ x ∈ F', x ∈ F ∨ W0.heap.size ≤ x) ∧ Kept (B :: F) W0 W := by
  obtain ⟨dn, F', h1, g1, g2⟩ := h
  have e : dn = pieces p := by have := h1.all; simpa using this
  subst e
  exact ⟨F', h1.ws, g1, g2⟩
theorem enc_fw {w w2 : World} {bw : Nat} {F3 : List Nat} (hk : Kept [] w w2) (hb : w.heap.size ≤ bw) (hf : ∀ x ∈ F3, x ∈ [bw] ∨ w2.heap.size ≤ x) : ∀ x ∈ F3, w.heap.size ≤ x := by
  intro x hx
  have := hk.size
  rcases hf x hx with h | h
  · simp at h; omega
  · omega
theorem enc_k3 {w w2 w3 : World} {bw : Nat} (hk : Kept [] w w2) (hb : w.heap.size ≤ bw) (k3 : Kept (w.heap.size :: [bw]) w2 w3) : Kept [] w w3 :=
  hk.trans k3 (fun x hx => Or.inr (by simp at hx; omega))
/-- The sum of a body, as a letter; the writer that takes it. -/
theorem enc_crc {w : World} {p : Ml} {l : Lm} (hs : snd p = true) (hm : MW w p l) : ∃ c : Nat, c < 4294967296 ∧
    (∀ W v, Tab W → Wide W v (body p) → Calls Tryd.prog 31 #[v] W fun e w' => e = .returned (.int .u32 (c : Nat)) ∧ w' = W) ∧
    (∀ W (bF : Nat × List Nat), Ws W bF.1 bF.2 (wOf (body p)) → Calls Tryd.prog 30 #[.pointer (some ⟨bF.1, 0, none⟩), .int .u64 (c : Nat), .int .i64 4] W fun e w' => e = .returned (.tuple #[]) ∧ WsP W bF.1 bF.2 (wOf (enc p)) w') := by
  have hb := body_lt hs hm.root hm.byt
  have hl := snd_len hs
  have hc := crc_lt hb
  refine ⟨crc (body p), hc, fun W v ht hv => crc_any ht hv hb (by omega), fun W bF hw => ?_⟩
  have e : wOf (enc p) = wLay (wOf (body p)) (le (crc (body p)) 4) := by
    rw [wLay_fit (by rw [List.length_append, le_len]; omega)]
    rfl
  rw [e]
  exact wfixed_s hw (crc (body p)) 4 (by omega) (by omega) (by omega) (by simp only [wOf]; omega)
theorem LSP.start {w w1 w2 : World} {bw : Nat} {p : Ml} {l : Lm} (hs : snd p = true) (hb : Blk w1 w.heap.size (mcc p l) 30) (hk : Kept [] w w1) (hw : Ws w2 bw [bw] (newWS 262168)) (h2 : w1.heap.size ≤ bw) (k2 : Kept [] w1 w2) (hm : MW w p l) : LSP w.heap.size bw p l (pieces p) [bw] w2 w2 ∧ Kept [] w w2 ∧ w.heap.size ≤ bw := by
  have hm2 := (hm.kept hk).kept k2
  have hlt := hb.lt
  refine ⟨?_, hk.step k2, by have := hk.size; omega⟩
  refine ⟨[], [bw], ⟨hb.kept k2 (by simp), rfl, hw, fun o ho => ?_, by simp; omega, snd_ok hs hm.root, (snd_len hs).2⟩, fun x hx => Or.inl hx, Kept.refl _ _⟩
  have hs := hk.size
  rcases hm.wide o ho with h1 | h1
  · exact Or.inl ⟨((h1.kept hk (by simp)).kept k2 (by simp)), fun x hx hmm => by have := h1.lt hx; simp at hmm; omega⟩
  · exact Or.inr h1
set_option maxRecDepth 100000 in
set_option maxHeartbeats 1600000 in
theorem encode_any (w : World) (p : Ml) (l : Lm) (ht : Tab w) (hm : MW w p l) : Calls Tryd.prog 11 #[mv p l] w (EncP w p) := by
  have HS := fun W => sound_any W p l
  have HT := hide ht
  have HM := hide hm
  have HN := hide (fun W => new_s 262168 W (by omega))
  clear ht hm
  cases hs : snd p with
  | true =>
    rw [hs] at HS
    have HSN := hide hs
    obtain ⟨c, hcl, hcr, hfx⟩ := enc_crc hs (unhide HM)
    have HCR := hide hcr
    have HFX := hide hfx
    have e1 : IntKind.u64.wrap (c : Int) = (c : Int) := by rw [IntKind.wrap_u64]; omega
    clear hs hcr hfx
    unfold mv
    go_enter Tryd.func11, Tryd.ntmps11
    go_upto_region 1 with fail
    refine world_at (R := fun X => Blk X w.heap.size (mcc p l) 30 ∧ Kept [] w X) ⟨Blk.new _ _ _, (Kept.refl [] w).alloc _⟩ ?_
    rintro X ⟨hbx, hkx⟩
    have HB := hide hbx
    have HK := hide hkx
    clear hbx hkx
    go_wp2_with (first
      | (refine wpList_load_guard 30 _ rfl _ rfl 30 _ (0, 0) _ (unhide HB) Tryd.underlying30 rfl infoMail rfl ?_)
      | (go_at_call 12; refine (HS _).mono ?_; rintro e w1 ⟨rfl, hz⟩; have hk := (unhide HK).step hz; have hb := (unhide HB).kept hz (by simp); clear HK HB; have HK := hide hk; have HB := hide hb; clear hk hb hz)
      | (go_at_call 27; refine (unhide HN _).mono ?_; rintro e w2 ⟨bw, rfl, hw2, hb2, k2⟩; have hls := LSP.start (unhide HSN) (unhide HB) (unhide HK) hw2 hb2 k2 (unhide HM); have HL := hide hls.1; have HK2 := hide hls.2.1; have HBW := hide hls.2.2; clear hw2 hb2 k2 hls)
      | (go_at_call 28; refine (goL_any (unhide HL)).mono ?_; rintro e w3 ⟨rfl, hq⟩; obtain ⟨F3, hw3, hf3, k3⟩ := hq.done; have HW3 := hide hw3; have hfw := enc_fw (unhide HK2) (unhide HBW) hf3; have HF3 := hide hfw; have HK3 := hide (enc_k3 (unhide HK2) (unhide HBW) k3); clear hw3 hf3 k3 hq hfw HL HB HK)
      | (go_at_call 29; refine (wdone_w (unhide HW6)).mono ?_; rintro e w7 ⟨ea, ec, rfl, ho7, k7⟩; have HO7 := hide ho7; have HK7 := hide k7; clear ho7 k7)
      | (go_at_call 29; refine (wdone_w (unhide HW3)).mono ?_; rintro e w4 ⟨ba, bc, rfl, ho4, k4⟩; have HS4 := hide (Sees.of_own ho4); have HW4 := hide ((unhide HW3).kept k4 (by simp)); have HK4 := hide ((unhide HK3).step k4); clear ho4 k4)
      | (go_at_call 31; refine (unhide HCR _ _ ((unhide HT).kept (unhide HK4) (by simp)) (Or.inl (unhide HS4))).mono ?_; rintro e w5 ⟨rfl, hz⟩; have hz2 := hz.symm; subst hz2; clear hz)
      | (go_at_call 30; refine (unhide HFX _ ⟨_, _⟩ (unhide HW4)).mono ?_; rintro e w6 ⟨rfl, F6, g1, g2, g3⟩; have HW6 := hide g1; have HK6 := hide ((unhide HK4).trans g2 (fun x hx => Or.inr (unhide HF3 x hx))); clear g1 g2 g3))
    go_ret2
    exact ⟨(unhide HK6).step (unhide HK7), Or.inl ⟨unhide HSN, ea, ec, rfl, own_base (unhide HO7) (fun x hx => by have h1 := ((unhide HO7).lt x hx).1; have h2 := (unhide HK6).size; omega)⟩⟩
  | false =>
    rw [hs] at HS
    have HSN := hide hs
    clear hs
    unfold mv
    go_enter Tryd.func11, Tryd.ntmps11
    go_upto_region 1 with fail
    refine world_at (R := fun X => Blk X w.heap.size (mcc p l) 30 ∧ Kept [] w X) ⟨Blk.new _ _ _, (Kept.refl [] w).alloc _⟩ ?_
    rintro X ⟨hbx, hkx⟩
    have HB := hide hbx
    have HK := hide hkx
    clear hbx hkx
    go_wp2_with (first
      | (refine wpList_load_guard 30 _ rfl _ rfl 30 _ (0, 0) _ (unhide HB) Tryd.underlying30 rfl infoMail rfl ?_)
      | (go_at_call 12; refine (HS _).mono ?_; rintro e w1 ⟨rfl, hz⟩; have hk := (unhide HK).step hz; have hb := (unhide HB).kept hz (by simp); clear HK HB; have HK := hide hk; have HB := hide hb; clear hk hb hz))
    go_ret2
    exact ⟨unhide HK, Or.inr ⟨unhide HSN, rfl⟩⟩
end Go.Proofs.YtfhfkpgfnlmfhaaDoor
