/- Texts laid one behind the other: XU8 MAwP MSum MEq XD2 XD3 MAwk MDec RCr. -/
import Derived.Test.YtfhfkpgfnlmfhaaGreatDoorPkBL
import Derived.Test.YtfhfkpgfnlmfhaaGreatDoorPkBD
import Derived.Test.YtfhfkpgfnlmfhaaGreatDoorPkBA
import Derived.Test.YtfhfkpgfnlmfhaaGreatDoorPkY
/- A form with bytes turned: its sum tells. -/
namespace Go.Proofs.YtfhfkpgfnlmfhaaGreatDoor
open Go.RowKit

theorem le4_inj {a b : Nat} (ha : a < 4294967296) (hb : b < 4294967296) (h : le a 4 = le b 4) : a = b := by
  have := congrArg leV h
  rw [leV_le, leV_le] at this
  omega
/-- Bytes with four behind them that are not their sum. -/
theorem decE_wrong {q s : List Nat} (hs : s.length = 4) (h1 : 4 ≤ q.length) (h2 : q.length + 4 ≤ 524288) (hne : s ≠ le (crc q) 4) : decE (q ++ s) = 191 := by
  have hl : (q ++ s).length = q.length + 4 := by rw [List.length_append, hs]
  have hm : (q ++ s).length - 4 = q.length := by omega
  unfold decE
  rw [hm, List.take_left, List.drop_left, hl, if_neg (by omega), if_neg (by omega), if_pos hne]
/-- Up to four bytes side by side of the body turned. -/
theorem turned_body {p : Ml} (hp : snd p = true) (hpr : p.root < 18446744073709551616) (hb : ∀ o, isT o → ∀ x ∈ getT p o, x < 256) {q : List Nat} {k u : Nat} (h : Told (body p) k 4 q u) : (u = 0 ∧ q ++ le (crc (body p)) 4 = enc p) ∨ (u ≠ 0 ∧ decE (q ++ le (crc (body p)) 4) = 191 ∧ q ++ le (crc (body p)) 4 ≠ enc p) := by
  have hbb := body_lt hp hpr hb
  have hl := snd_len hp
  by_cases hu : u = 0
  · refine Or.inl ⟨hu, ?_⟩
    rw [h.none hu]
    rfl
  · have hne := h.sums hu
    have hq := h.len
    refine Or.inr ⟨hu, decE_wrong (le_len _ _) (by omega) (by omega) (fun e => hne (le4_inj (crc_lt hbb) (crc_lt h.byte) e)), fun e => ?_⟩
    have e2 : q ++ le (crc (body p)) 4 = body p ++ le (crc (body p)) 4 := e
    have e3 := (List.append_inj e2 hq).1
    exact hne (by rw [e3])
/-- Bytes of the sum turned. -/
theorem turned_sum {p : Ml} (hp : snd p = true) {s : List Nat} (hs : s.length = 4) : (s = le (crc (body p)) 4 ∧ body p ++ s = enc p) ∨ (s ≠ le (crc (body p)) 4 ∧ decE (body p ++ s) = 191 ∧ body p ++ s ≠ enc p) := by
  have hl := snd_len hp
  by_cases e : s = le (crc (body p)) 4
  · exact Or.inl ⟨e, by rw [e]; rfl⟩
  · refine Or.inr ⟨e, decE_wrong hs (by omega) (by omega) e, fun h => e ?_⟩
    have e2 : body p ++ s = body p ++ le (crc (body p)) 4 := h
    exact List.append_cancel_left e2
end Go.Proofs.YtfhfkpgfnlmfhaaGreatDoor

/- A message that all programs know. -/
namespace Go.Proofs.YtfhfkpgfnlmfhaaGreatDoor
open Go.RowKit

def pA : Ml := ⟨7, 2, 0, 63, 200, 0, [], 0, 0, 0, [], [], 0, 0, false, [], [], 0, 0, 0⟩
def wantB : List Nat := [7, 2, 0, 63, 200, 1]
def wantA : List Nat := [7, 2, 0, 63, 200, 1, 11, 255, 173, 23]
theorem sndA : snd pA = true := by decide
theorem bodyA : body pA = wantB := by
  rw [body_0]
  have hm : mid pA ++ fin pA = [Pc.num 4] := rfl
  rw [hm]
  show [(7 : Int).toNat] ++ ([(2 : Int).toNat] ++ ([(0 : Int).toNat] ++ (form (63 : Int).toNat ++ (form (200 : Int).toNat ++ [])))) = wantB
  rw [form_small (n := (63 : Int).toNat) (by decide), form_big (n := (200 : Int).toNat) (by decide), form_small (n := (200 : Int).toNat / 128) (by decide)]
  rfl
theorem crcA : crc wantB = 397278987 := by decide +kernel
theorem sumA : summed wantB = wantA := by
  unfold summed
  rw [crcA]
  decide +kernel
theorem encA : enc pA = wantA := by unfold enc; rw [bodyA, sumA]
theorem decA : decE wantA = 0 ∧ decM wantA = pA := by
  rw [← encA]
  exact decE_enc sndA (by decide)
theorem decA0 : decE (wantA ++ [0]) = 191 := by
  unfold decE
  rw [if_neg (by decide), if_neg (by decide), if_pos (by decide +kernel)]
theorem byteA : ∀ x ∈ wantA, x < 256 := by decide
theorem byteB : ∀ x ∈ wantB, x < 256 := by decide
theorem byteA0 : ∀ x ∈ wantA ++ [0], x < 256 := by decide
theorem MW.nil (w : World) {p : Ml} (h : ∀ o, isT o → getT p o = []) (hr : p.root < 18446744073709551616) : MW w p nilM := by
  refine ⟨fun o ho => ?_, fun o ho => by rw [h o ho]; simp, fun o ho x hx => (by rw [h o ho] at hx; exact absurd hx (by simp)), hr⟩
  rw [h o ho]
  refine Or.inl (Or.inl ⟨?_, rfl⟩)
  rcases ho with rfl | rfl | rfl | rfl | rfl
  · show Value.slice none p.copy.length 0 = _
    rw [show p.copy = [] from h 6 (by simp [isT])]; rfl
  · show Value.slice none p.key.length 0 = _
    rw [show p.key = [] from h 10 (by simp [isT])]; rfl
  · show Value.slice none p.val.length 0 = _
    rw [show p.val = [] from h 11 (by simp [isT])]; rfl
  · show Value.slice none p.akey.length 0 = _
    rw [show p.akey = [] from h 15 (by simp [isT])]; rfl
  · show Value.slice none p.aval.length 0 = _
    rw [show p.aval = [] from h 16 (by simp [isT])]; rfl
theorem MW.A (w : World) : MW w pA nilM := MW.nil w (by rintro o (rfl | rfl | rfl | rfl | rfl) <;> rfl) (by decide)
theorem MW.zero (w : World) : MW w zeroM nilM := MW.nil w (by rintro o (rfl | rfl | rfl | rfl | rfl) <;> rfl) (by decide)
theorem mv_lit (p : Ml) (l : Lm) : mv p l = .agg #[.int .i64 p.kind, .int .i64 p.frm, .int .i64 p.dst, .int .i64 p.shard, .int .i64 p.epoch, .int .u64 (p.root : Nat), .slice l.ca p.copy.length l.cc, .int .i64 p.client, .int .i64 p.seq, .int .i64 p.okind, .slice l.ka p.key.length l.kc, .slice l.va p.val.length l.vc, .int .i64 p.rev, .int .i64 p.verd, .bool p.done, .slice l.xa p.akey.length l.xc, .slice l.ya p.aval.length l.yc, .int .i64 p.arev, .int .i64 p.aat, .int .i64 p.hint] := rfl
theorem NewV.wide {w W : World} {bs : List Nat} {v : Value} (h : NewV w bs v W) : Wide W v bs := by
  obtain ⟨a, c, rfl, ho⟩ := h
  exact Or.inl (Sees.of_own ho)
/-- How long the lists of what is decoded are. -/
theorem snd_texts {p : Ml} (h : snd p = true) : ∀ o, isT o → (getT p o).length ≤ 262144 := by
  obtain ⟨_, hk⟩ := (snd_iff p).1 h
  have hq : p.copy.length ≤ 262144 ∧ p.key.length ≤ 262144 ∧ p.val.length ≤ 262144 ∧ p.akey.length ≤ 262144 ∧ p.aval.length ≤ 262144 := by
    rcases hk with ⟨_, _, _, _, h5, ⟨_, ⟨_, h6, h7, _⟩, _⟩, _, _, h8⟩ | ⟨_, _, _, _, ⟨_, h5, h6, _⟩, h7, _, _, h8⟩ | ⟨_, h2, _, _, _, _, _, _, ⟨_, h5, h6, _⟩, _, ⟨_, h7, h8, _⟩, _⟩ | ⟨_, ⟨_, _, _, _, _, _, ⟨_, h5, h6, _⟩, _, ⟨_, h7, h8, _⟩, _⟩, _, h9⟩
    · have q := rgt_iff h5
      rw [h6, h7, h8]
      simp
      omega
    · have q := fit_len h7
      rw [h5, h6, h8]
      simp
      omega
    · rw [h5, h6, h7, h8]; simp; exact h2
    · rw [h5, h6, h7, h8, h9]; simp
  rintro o (rfl | rfl | rfl | rfl | rfl)
  · exact hq.1
  · exact hq.2.1
  · exact hq.2.2.1
  · exact hq.2.2.2.1
  · exact hq.2.2.2.2
theorem NewM.mw {w w' : World} {bs : List Nat} {l : Lm} (hb : ∀ x ∈ bs, x < 256) (hn : NewM w (decM bs) l w') : MW w' (decM bs) l := by
  obtain ⟨h1, h2⟩ := decM_byt hb
  refine ⟨fun o ho => (hn.nw o ho).wide, fun o ho => ?_, h2, h1⟩
  by_cases h0 : decE bs = 0
  · have := snd_texts (decode_back hb h0).2 o ho
    omega
  · have hz : decM bs = zeroM := by unfold decM; rw [if_neg h0]
    rw [hz]
    rcases ho with rfl | rfl | rfl | rfl | rfl <;> simp [zeroM, getT]
end Go.Proofs.YtfhfkpgfnlmfhaaGreatDoor

/- The laws' summed. -/
namespace Go.Proofs.YtfhfkpgfnlmfhaaGreatDoor
open Go.RowKit

theorem le4 {c : Nat} (h : c < 4294967296) : le c 4 = [c % 256, c / 256 % 256, c / 65536 % 256, c / 16777216] := by
  show [c / 256 ^ 0 % 256, c / 256 ^ 1 % 256, c / 256 ^ 2 % 256, c / 256 ^ 3 % 256] = _
  have : c / 16777216 % 256 = c / 16777216 := by omega
  simp [this]
theorem news_four (w : World) {c : Nat} (h : c < 4294967296) : Sees (w.alloc (.cells #[.int .u8 ((c : Int) % 256), .int .u8 ((c : Int) / 256 % 256), .int .u8 ((c : Int) / 65536 % 256), .int .u8 ((c : Int) / 16777216)] 5)) (.slice (some ⟨w.heap.size, 0, none⟩) 4 4) (le c 4) := by
  rw [le4 h]
  refine Or.inr ⟨w.heap.size, 0, 4, rfl, by simp, by unfold maxLen; omega, by simp, fun j hj => ?_⟩
  rw [(Blk.new w _ _).cell]
  simp only [List.length_cons, List.length_nil] at hj
  match j, hj with
  | 0, _ => rfl
  | 1, _ => rfl
  | 2, _ => rfl
  | 3, _ => rfl
/-- What summed answers. -/
def SumP (w : World) (bs : List Nat) (e : Ending) (w' : World) : Prop := Kept [] w w' ∧ ∃ a cap, e = .returned (.slice a (summed bs).length cap) ∧ w'.ownsRow w.heap.size 5 1 (.slice a (summed bs).length cap) (summed bs).length (u8s (summed bs))
theorem summed_lt {bs : List Nat} (h : ∀ x ∈ bs, x < 256) : ∀ x ∈ summed bs, x < 256 := by
  intro x hx
  unfold summed at hx
  rcases List.mem_append.1 hx with hx | hx
  · exact h x hx
  · exact le_lt _ _ x hx
end Go.Proofs.YtfhfkpgfnlmfhaaGreatDoor

/- The laws' sameMail, what it says. -/
namespace Go.Proofs.YtfhfkpgfnlmfhaaGreatDoor
open Go.RowKit

theorem eqM_iff (p q : Ml) : eqM p q = true ↔ p = q := by
  constructor
  · intro h
    simp only [eqM, eqHd, eqCl, eqAn, Bool.and_eq_true, beq_iff_eq, decide_eq_true_eq, Int.natCast_inj] at h
    cases p
    cases q
    simp_all
  · rintro rfl
    simp [eqM, eqHd, eqCl, eqAn]
end Go.Proofs.YtfhfkpgfnlmfhaaGreatDoor

/- Decode: bytes of a fit length. -/
namespace Go.Proofs.YtfhfkpgfnlmfhaaGreatDoor
open Go.RowKit

/-- What Decode asks of the bytes: their two parts, the sum in them (v), the sum of what stands ahead (c). -/
structure Dc (w : World) (b off m xc : Nat) (bs : List Nat) (c v : Nat) : Prop where
  len : bs.length = m + 4
  parts : ∀ W, Kept [] w W → Wide W (.slice (some ⟨b, off, none⟩) m xc) (bs.take m) ∧ Wide W (.slice (some ⟨b, off + m, none⟩) 4 (xc - m)) (bs.drop m)
  tab : Tab w
  byt : ∀ x ∈ bs, x < 256
  cl : c < 4294967296
  cc : c = crc (bs.take m)
  vl : v < 4294967296
  vv : v = leV (bs.drop m)
  m5 : 4 ≤ m ∧ m ≤ 524284
theorem Dc.read {w : World} {b off m xc c v : Nat} {bs : List Nat} (h : Dc w b off m xc bs c v) {W : World} (k : Kept [] w W) : Calls Tryz.prog 13 #[.slice (some ⟨b, off + m, none⟩) 4 (xc - m)] W fun e w' => ∃ br F, e = .returned (.pointer (some ⟨br, 0, none⟩)) ∧ Rs w' br F ⟨0, bs.drop m, []⟩ ∧ (∀ x ∈ F, W.heap.size ≤ x) ∧ Kept [] W w' := by
  have e2 : (bs.drop m).length = 4 := by have := h.len; simp; omega
  exact read_w (h.parts W k).2 (by omega) (fun y hy => h.byt y (List.mem_of_mem_drop hy))
theorem Dc.fixed {w : World} {b off m xc c v : Nat} {bs : List Nat} (h : Dc w b off m xc bs c v) {W : World} {br : Nat} {F : List Nat} (hr : Rs W br F ⟨0, bs.drop m, []⟩) : Calls Tryz.prog 14 #[.pointer (some ⟨br, 0, none⟩), .int .i64 4] W fun e w' => e = .returned (.int .u64 (v : Nat)) ∧ Kept F W w' := by
  have e2 : (bs.drop m).length = 4 := by have := h.len; simp; omega
  refine (rfixed_q hr 4).mono ?_
  rintro e w' ⟨rfl, F', _, k, _⟩
  refine ⟨?_, k⟩
  have : (rFixed ⟨0, bs.drop m, []⟩ 4).2 = v := by
    unfold rFixed
    rw [if_neg (by simp), if_neg (by omega), if_neg (by show ¬ ((bs.drop m).length : Int) < 4; omega)]
    show leV ((bs.drop m).take (4 : Int).toNat) = v
    rw [h.vv, List.take_of_length_le (by rw [e2]; decide)]
  rw [this]
theorem Dc.sumc {w : World} {b off m xc c v : Nat} {bs : List Nat} (h : Dc w b off m xc bs c v) {W : World} (k : Kept [] w W) : Calls Tryz.prog 15 #[.slice (some ⟨b, off, none⟩) m xc] W fun e w' => e = .returned (.int .u32 (c : Nat)) ∧ w' = W := by
  have e1 : (bs.take m).length = m := by have := h.len; simp; omega
  have := h.m5
  rw [h.cc]
  exact crc_any (h.tab.kept k (by simp)) (h.parts W k).1 (fun y hy => h.byt y (List.mem_of_mem_take hy)) (by omega)
theorem Dc.rd {w : World} {b off m xc c v : Nat} {bs : List Nat} (h : Dc w b off m xc bs c v) {W : World} (k : Kept [] w W) : Calls Tryz.prog 16 #[.slice (some ⟨b, off, none⟩) m xc] W (RdP W (bs.take m)) := by
  have e1 : (bs.take m).length = m := by have := h.len; simp; omega
  have := h.m5
  exact readM_any W _ _ (h.parts W k).1 (by omega) (fun y hy => h.byt y (List.mem_of_mem_take hy))
theorem Dc.of {w : World} {xa : Option Addr} {xc : Nat} {bs : List Nat} (ht : Tab w) (hx : Wide w (.slice xa bs.length xc) bs) (h8 : 8 ≤ bs.length) (h5 : bs.length ≤ 524288) (hb : ∀ y ∈ bs, y < 256) : ∃ b off m c v, xa = some ⟨b, off, none⟩ ∧ bs.length = m + 4 ∧ m + 4 ≤ xc ∧ xc ≤ maxLen ∧ Dc w b off m xc bs c v := by
  obtain ⟨b, off, rfl, _, g1, g2, g3, g4⟩ := wides hx (by omega)
  obtain ⟨m, hm⟩ : ∃ m, bs.length = m + 4 := ⟨bs.length - 4, by omega⟩
  rw [hm] at g1
  have hv : leV (bs.drop m) < 4294967296 := by
    have := leV_lt (bs.drop m) (fun y hy => hb y (List.mem_of_mem_drop hy))
    rw [show (bs.drop m).length = 4 by simp; omega] at this
    omega
  refine ⟨b, off, m, crc (bs.take m), leV (bs.drop m), rfl, hm, g1, g2, hm, fun W k => ?_, ht, hb, crc_lt (fun y hy => hb y (List.mem_of_mem_take hy)), rfl, hv, rfl, by omega⟩
  exact sees_parts hm g1 g2 (Nat.lt_of_lt_of_le g3 k.size) (fun j hj => by rw [k.cell (p := ⟨b, off + j, none⟩) g3 (by simp)]; exact g4 j hj)
theorem Dc.err {w : World} {b off m xc c v : Nat} {bs : List Nat} (h : Dc w b off m xc bs c v) (hn : v ≠ c) : decE bs = 191 := by
  have := h.m5
  have hl := h.len
  unfold decE
  rw [if_neg (by omega), if_neg (by omega), show bs.length - 4 = m by omega, if_pos]
  intro he
  exact hn (h.vv.trans (((sum_iff (by simp; omega) (fun y hy => h.byt y (List.mem_of_mem_drop hy)) h.cl).2 (by rw [h.cc]; exact he))))
theorem Dc.ok {w : World} {b off m xc c v : Nat} {bs : List Nat} (h : Dc w b off m xc bs c v) (hn : v = c) : decE bs = (if (readM (bs.take m)).2 = true ∧ snd (readM (bs.take m)).1 = true then 0 else 190) ∧ decM bs = (if decE bs = 0 then (readM (bs.take m)).1 else zeroM) := by
  have := h.m5
  have hl := h.len
  have hm : bs.length - 4 = m := by omega
  constructor
  · unfold decE
    rw [if_neg (by omega), if_neg (by omega), hm, if_neg]
    intro he
    apply he
    have := (sum_iff (by simp; omega) (fun y hy => h.byt y (List.mem_of_mem_drop hy)) h.cl).1 (h.vv.symm.trans hn)
    rw [this, h.cc]
  · unfold decM
    rw [hm]

set_option maxRecDepth 100000 in
set_option maxHeartbeats 1600000 in
theorem decode_sum (w : World) (bs : List Nat) (b off m xc c v : Nat) (hd : Dc w b off m xc bs c v) (hc1 : m + 4 ≤ xc) (hn : v ≠ c) : Calls Tryz.prog 6 #[.slice (some ⟨b, off, none⟩) (m + 4) xc] w (DecP w bs) := by
  have HD := hide hd
  have HE := hide (hd.err hn)
  have hm := hd.m5
  have hcl := hd.cl
  have hvl := hd.vl
  have hg1 : ((524288 : Int) < ((m + 4 : Nat) : Int)) = False := eq_false (by omega)
  have hg2 : (((m + 4 : Nat) : Int) < 8) = False := eq_false (by omega)
  have hg3 : ((524288 : Int) < (m : Int) + 4) = False := eq_false (by omega)
  have hg4 : ((m : Int) + 4 < 8) = False := eq_false (by omega)
  have e1 : IntKind.u64.wrap (c : Int) = (c : Int) := by rw [IntKind.wrap_u64]; omega
  have e2 : wrap64 ((m : Int) + 4 - 4) = (m : Int) := by unfold wrap64; omega
  have e3 : wrap64 (m : Int) = (m : Int) := by unfold wrap64; omega
  have hvc : ((v : Int) != (c : Int)) = true := by rw [bne_iff_ne]; omega
  clear hd hn
  go_enter Tryz.func6, Tryz.ntmps6
  go_upto_region 1 with fail
  refine world_at (R := fun X => Blk X w.heap.size (mcc zeroM nilM) 30 ∧ Kept [] w X) ⟨Blk.new _ _ _, (Kept.refl [] w).alloc _⟩ ?_
  rintro X ⟨hR, hK⟩
  have HR := hide hR
  have HK := hide hK
  clear hR hK
  go_wp2_with fail
  go_region_with (first
    | (go_at_call 13; refine ((unhide HD).read (by first | exact unhide HK | exact (unhide HK).drew | exact (unhide HK).drewN _)).mono ?_; rintro e w1 ⟨br, F, rfl, hr1, hf1, k1⟩; have HR1 := hide hr1; have hk1 := (Kept.trans (unhide HK) (show Kept [] X w1 from (by first | exact k1 | exact (Kept.refl [] X).drew.step k1)) (by simp)); have HF1 := hide hf1; have HK1 := hide hk1; have HX1 := hide (show Kept [] X w1 from (by first | exact k1 | exact (Kept.refl [] X).drew.step k1)); clear hr1 hf1 k1 hk1)
    | (go_at_call 14; refine ((unhide HD).fixed (unhide HR1)).mono ?_; rintro e w2 ⟨rfl, k2⟩; have hx2 : Kept [] X w2 := (unhide HX1).trans k2 (fun x hx => Or.inr (unhide HF1 x hx)); have HX2 := hide hx2; clear k2 hx2)
    | (go_at_call 15; refine ((unhide HD).sumc ((unhide HK).step (unhide HX2))).mono ?_; rintro e w3 ⟨rfl, hz⟩; have hz2 := hz.symm; subst hz2; clear hz))
  all_goals
    have hR2 := (unhide HR).kept (unhide HX2) (by simp)
    have hK2 := (unhide HK).step (unhide HX2)
    go_wp2_with (refine wpList_store_self rfl 30 _ _ rfl _ (mcc zeroM nilM) rfl rfl 30 hR2 infoMail (by simp [mcc, Value.oneCell']) ?_)
    refine ret_struct_tmp rfl rfl hR2 Tryz.underlying30 infoMail rfl ?_
    exact DecP.fail (c := 191) hK2 (unhide HE) (by omega)
end Go.Proofs.YtfhfkpgfnlmfhaaGreatDoor

/- Decode: bytes with their right sum. -/
namespace Go.Proofs.YtfhfkpgfnlmfhaaGreatDoor
open Go.RowKit

theorem NewM.kept {w W W' : World} {p : Ml} {l : Lm} (h : NewM w p l W) (k : Kept [] W W') : NewM w p l W' := ⟨fun o ho => (h.nw o ho).kept k (by simp), h.ap⟩
theorem Dc.rd2 {w : World} {b off m xc c v : Nat} {bs : List Nat} (h : Dc w b off m xc bs c v) {p : Ml} {ok : Bool} (hp : (readM (bs.take m)).1 = p) (ho : (readM (bs.take m)).2 = ok) (W : World) (k : Kept [] w W) : Calls Tryz.prog 16 #[.slice (some ⟨b, off, none⟩) m xc] W fun e w' => Kept [] W w' ∧ ∃ l, e = .returned (.tuple #[.agg (mcc p l), .bool ok]) ∧ NewM W p l w' := by
  subst hp ho
  exact h.rd k
theorem DecP.good {w X w2 Z : World} {bs : List Nat} {p : Ml} {l : Lm} (he : decE bs = 0 ∧ decM bs = p) (hk : Kept [] w X) (h3 : Kept [] X Z) (hn : NewM w2 p l Z) (hw : w.heap.size < w2.heap.size) : DecP w bs (.returned (.tuple #[.agg (mcc p l), .int .i64 0])) (Z.setRow w.heap.size (mcc p l)) := by
  have kR : Kept [w.heap.size] Z (Z.setRow w.heap.size (mcc p l)) := (Kept.refl _ Z).setRow (Or.inl (by simp)) _
  refine ⟨(hk.step h3).setRow (Or.inr (Nat.le_refl _)) _, l, ?_, fun o ho => ?_, ?_⟩
  · rw [he.1, he.2]; rfl
  · rw [he.2]
    refine ((hn.nw o ho).kept kR (fun x hx hm => ?_)).from (by omega)
    have := ((hn.nw o ho).lt hx).1
    simp at hm
    omega
  · rw [he.2]; exact hn.ap
set_option maxRecDepth 100000 in
set_option maxHeartbeats 1600000 in
theorem decode_odd (w : World) (bs : List Nat) (b off m xc c v : Nat) (hd : Dc w b off m xc bs c v) (hc1 : m + 4 ≤ xc) (hn : v = c) (ho : (readM (bs.take m)).2 = false) : Calls Tryz.prog 6 #[.slice (some ⟨b, off, none⟩) (m + 4) xc] w (DecP w bs) := by
  have HD := hide hd
  have HE := hide (show decE bs = 190 by have h1 := (hd.ok hn).1; rw [ho] at h1; simpa using h1)
  have hm := hd.m5
  have hcl := hd.cl
  have hvl := hd.vl
  have hg1 : ((524288 : Int) < ((m + 4 : Nat) : Int)) = False := eq_false (by omega)
  have hg2 : (((m + 4 : Nat) : Int) < 8) = False := eq_false (by omega)
  have hg3 : ((524288 : Int) < (m : Int) + 4) = False := eq_false (by omega)
  have hg4 : ((m : Int) + 4 < 8) = False := eq_false (by omega)
  have e1 : IntKind.u64.wrap (c : Int) = (c : Int) := by rw [IntKind.wrap_u64]; omega
  have e2 : wrap64 ((m : Int) + 4 - 4) = (m : Int) := by unfold wrap64; omega
  have e3 : wrap64 (m : Int) = (m : Int) := by unfold wrap64; omega
  have hvc : ((v : Int) != (c : Int)) = false := by rw [hn]; simp
  obtain ⟨p, hp⟩ : ∃ p, (readM (bs.take m)).1 = p := ⟨_, rfl⟩
  have HP := hide hp
  have HRD := hide (Dc.rd2 hd hp ho)
  have HS := fun W l => sound_any W p l

  clear hd hn hp ho
  go_enter Tryz.func6, Tryz.ntmps6
  go_upto_region 1 with fail
  refine world_at (R := fun X => Blk X w.heap.size (mcc zeroM nilM) 30 ∧ Kept [] w X) ⟨Blk.new _ _ _, (Kept.refl [] w).alloc _⟩ ?_
  rintro X ⟨hR, hK⟩
  have HR := hide hR
  have HK := hide hK
  clear hR hK
  go_wp2_with fail
  go_region_with (first
    | (go_at_call 13; refine ((unhide HD).read (by first | exact unhide HK | exact (unhide HK).drew | exact (unhide HK).drewN _)).mono ?_; rintro e w1 ⟨br, F, rfl, hr1, hf1, k1⟩; have HR1 := hide hr1; have hk1 := (Kept.trans (unhide HK) (show Kept [] X w1 from (by first | exact k1 | exact (Kept.refl [] X).drew.step k1)) (by simp)); have HF1 := hide hf1; have HK1 := hide hk1; have HX1 := hide (show Kept [] X w1 from (by first | exact k1 | exact (Kept.refl [] X).drew.step k1)); clear hr1 hf1 k1 hk1)
    | (go_at_call 14; refine ((unhide HD).fixed (unhide HR1)).mono ?_; rintro e w2 ⟨rfl, k2⟩; have hx2 : Kept [] X w2 := (unhide HX1).trans k2 (fun x hx => Or.inr (unhide HF1 x hx)); have HX2 := hide hx2; clear k2 hx2)
    | (go_at_call 15; refine ((unhide HD).sumc ((unhide HK).step (unhide HX2))).mono ?_; rintro e w3 ⟨rfl, hz⟩; have hz2 := hz.symm; subst hz2; clear hz))
  all_goals
    go_wp2_with (first
      | (go_at_call 16; refine (unhide HRD _ ((unhide HK).step (unhide HX2))).mono ?_; rintro e w3 ⟨k3, l, rfl, hnm⟩; have HX3 := hide ((unhide HX2).step k3); have HNM := hide hnm; have HS2 := hide k3.size; clear k3 hnm)
      | (refine wpList_store_row rfl 30 _ _ rfl _ (mcc p l) rfl rfl 30 _ (Blk.new w3 _ _) infoMail rfl (by simp [mcc, Value.oneCell']) ?_; refine world_at (R := fun Z => Blk Z w3.heap.size (mcc p l) 30 ∧ Kept [] w3 Z) ⟨setRow_heap _ _ _ _ _ _ (Blk.new w3 _ _), ((Kept.refl [] w3).alloc _).setRow (Or.inr (Nat.le_refl _)) _⟩ ?_; rintro Z ⟨hzb, hzk⟩; have HB := hide hzb; have HZ := hide hzk; have HX3 := hide ((unhide HX3).step (unhide HZ)); have HNM := hide (NewM.kept (unhide HNM) (unhide HZ)); clear hzb hzk)
      | (refine wpList_load_guard 30 _ rfl _ rfl 30 _ (0, 0) _ (unhide HB) Tryz.underlying30 rfl infoMail rfl ?_)
      | (refine wpList_store_self rfl 30 _ _ rfl _ (mcc zeroM nilM) rfl rfl 30 ((unhide HR).kept (unhide HX3) (by simp)) infoMail (by simp [mcc, Value.oneCell']) ?_))
    refine ret_struct_tmp rfl rfl ((unhide HR).kept (unhide HX3) (by simp)) Tryz.underlying30 infoMail rfl ?_
    exact DecP.fail (c := 190) ((unhide HK).step (unhide HX3)) (unhide HE) (by omega)
set_option maxRecDepth 100000 in
set_option maxHeartbeats 1600000 in
theorem decode_unsound (w : World) (bs : List Nat) (b off m xc c v : Nat) (hd : Dc w b off m xc bs c v) (hc1 : m + 4 ≤ xc) (hn : v = c) (ho : (readM (bs.take m)).2 = true) (hs : snd (readM (bs.take m)).1 = false) : Calls Tryz.prog 6 #[.slice (some ⟨b, off, none⟩) (m + 4) xc] w (DecP w bs) := by
  have HD := hide hd
  have HE := hide (show decE bs = 190 by have h1 := (hd.ok hn).1; rw [ho, hs] at h1; simpa using h1)
  have hm := hd.m5
  have hcl := hd.cl
  have hvl := hd.vl
  have hg1 : ((524288 : Int) < ((m + 4 : Nat) : Int)) = False := eq_false (by omega)
  have hg2 : (((m + 4 : Nat) : Int) < 8) = False := eq_false (by omega)
  have hg3 : ((524288 : Int) < (m : Int) + 4) = False := eq_false (by omega)
  have hg4 : ((m : Int) + 4 < 8) = False := eq_false (by omega)
  have e1 : IntKind.u64.wrap (c : Int) = (c : Int) := by rw [IntKind.wrap_u64]; omega
  have e2 : wrap64 ((m : Int) + 4 - 4) = (m : Int) := by unfold wrap64; omega
  have e3 : wrap64 (m : Int) = (m : Int) := by unfold wrap64; omega
  have hvc : ((v : Int) != (c : Int)) = false := by rw [hn]; simp
  obtain ⟨p, hp⟩ : ∃ p, (readM (bs.take m)).1 = p := ⟨_, rfl⟩
  rw [hp] at hs
  have HP := hide hp
  have HRD := hide (Dc.rd2 hd hp ho)
  have HS := fun W l => sound_any W p l
  rw [hs] at HS

  clear hd hn hp ho hs
  go_enter Tryz.func6, Tryz.ntmps6
  go_upto_region 1 with fail
  refine world_at (R := fun X => Blk X w.heap.size (mcc zeroM nilM) 30 ∧ Kept [] w X) ⟨Blk.new _ _ _, (Kept.refl [] w).alloc _⟩ ?_
  rintro X ⟨hR, hK⟩
  have HR := hide hR
  have HK := hide hK
  clear hR hK
  go_wp2_with fail
  go_region_with (first
    | (go_at_call 13; refine ((unhide HD).read (by first | exact unhide HK | exact (unhide HK).drew | exact (unhide HK).drewN _)).mono ?_; rintro e w1 ⟨br, F, rfl, hr1, hf1, k1⟩; have HR1 := hide hr1; have hk1 := (Kept.trans (unhide HK) (show Kept [] X w1 from (by first | exact k1 | exact (Kept.refl [] X).drew.step k1)) (by simp)); have HF1 := hide hf1; have HK1 := hide hk1; have HX1 := hide (show Kept [] X w1 from (by first | exact k1 | exact (Kept.refl [] X).drew.step k1)); clear hr1 hf1 k1 hk1)
    | (go_at_call 14; refine ((unhide HD).fixed (unhide HR1)).mono ?_; rintro e w2 ⟨rfl, k2⟩; have hx2 : Kept [] X w2 := (unhide HX1).trans k2 (fun x hx => Or.inr (unhide HF1 x hx)); have HX2 := hide hx2; clear k2 hx2)
    | (go_at_call 15; refine ((unhide HD).sumc ((unhide HK).step (unhide HX2))).mono ?_; rintro e w3 ⟨rfl, hz⟩; have hz2 := hz.symm; subst hz2; clear hz))
  all_goals
    go_wp2_with (first
      | (go_at_call 16; refine (unhide HRD _ ((unhide HK).step (unhide HX2))).mono ?_; rintro e w3 ⟨k3, l, rfl, hnm⟩; have HX3 := hide ((unhide HX2).step k3); have HNM := hide hnm; have HS2 := hide k3.size; clear k3 hnm)
      | (refine wpList_store_row rfl 30 _ _ rfl _ (mcc p l) rfl rfl 30 _ (Blk.new w3 _ _) infoMail rfl (by simp [mcc, Value.oneCell']) ?_; refine world_at (R := fun Z => Blk Z w3.heap.size (mcc p l) 30 ∧ Kept [] w3 Z) ⟨setRow_heap _ _ _ _ _ _ (Blk.new w3 _ _), ((Kept.refl [] w3).alloc _).setRow (Or.inr (Nat.le_refl _)) _⟩ ?_; rintro Z ⟨hzb, hzk⟩; have HB := hide hzb; have HZ := hide hzk; have HX3 := hide ((unhide HX3).step (unhide HZ)); have HNM := hide (NewM.kept (unhide HNM) (unhide HZ)); clear hzb hzk)
      | (refine wpList_load_guard 30 _ rfl _ rfl 30 _ (0, 0) _ (unhide HB) Tryz.underlying30 rfl infoMail rfl ?_)
      | (go_at_call 17; refine (HS _ l).mono ?_; rintro e w4 ⟨rfl, hz⟩; have hb := (unhide HB).kept hz (by simp); have hx := (unhide HX3).step hz; have hn4 := NewM.kept (unhide HNM) hz; clear HB HX3 HNM; have HB := hide hb; have HX3 := hide hx; have HNM := hide hn4; clear hb hx hn4 hz)
      | (refine wpList_store_self rfl 30 _ _ rfl _ (mcc zeroM nilM) rfl rfl 30 ((unhide HR).kept (unhide HX3) (by simp)) infoMail (by simp [mcc, Value.oneCell']) ?_))
    refine ret_struct_tmp rfl rfl ((unhide HR).kept (unhide HX3) (by simp)) Tryz.underlying30 infoMail rfl ?_
    exact DecP.fail (c := 190) ((unhide HK).step (unhide HX3)) (unhide HE) (by omega)
set_option maxRecDepth 100000 in
set_option maxHeartbeats 1600000 in
theorem decode_good (w : World) (bs : List Nat) (b off m xc c v : Nat) (hd : Dc w b off m xc bs c v) (hc1 : m + 4 ≤ xc) (hn : v = c) (ho : (readM (bs.take m)).2 = true) (hs : snd (readM (bs.take m)).1 = true) : Calls Tryz.prog 6 #[.slice (some ⟨b, off, none⟩) (m + 4) xc] w (DecP w bs) := by
  have HD := hide hd
  have HE0 : Hid (decE bs = 0 ∧ decM bs = (readM (bs.take m)).1) := by have h1 := (hd.ok hn).1; rw [ho, hs] at h1; have h2 : decE bs = 0 := (by simpa using h1); exact ⟨h2, by rw [(hd.ok hn).2, if_pos h2]⟩
  have hm := hd.m5
  have hcl := hd.cl
  have hvl := hd.vl
  have hg1 : ((524288 : Int) < ((m + 4 : Nat) : Int)) = False := eq_false (by omega)
  have hg2 : (((m + 4 : Nat) : Int) < 8) = False := eq_false (by omega)
  have hg3 : ((524288 : Int) < (m : Int) + 4) = False := eq_false (by omega)
  have hg4 : ((m : Int) + 4 < 8) = False := eq_false (by omega)
  have e1 : IntKind.u64.wrap (c : Int) = (c : Int) := by rw [IntKind.wrap_u64]; omega
  have e2 : wrap64 ((m : Int) + 4 - 4) = (m : Int) := by unfold wrap64; omega
  have e3 : wrap64 (m : Int) = (m : Int) := by unfold wrap64; omega
  have hvc : ((v : Int) != (c : Int)) = false := by rw [hn]; simp
  obtain ⟨p, hp⟩ : ∃ p, (readM (bs.take m)).1 = p := ⟨_, rfl⟩
  rw [hp] at hs
  have HP := hide hp
  have HE : Hid (decE bs = 0 ∧ decM bs = p) := by rw [← hp]; exact unhide HE0
  have HRD := hide (Dc.rd2 hd hp ho)
  have HS := fun W l => sound_any W p l
  rw [hs] at HS

  clear hd hn hp ho hs
  go_enter Tryz.func6, Tryz.ntmps6
  go_upto_region 1 with fail
  refine world_at (R := fun X => Blk X w.heap.size (mcc zeroM nilM) 30 ∧ Kept [] w X) ⟨Blk.new _ _ _, (Kept.refl [] w).alloc _⟩ ?_
  rintro X ⟨hR, hK⟩
  have HR := hide hR
  have HK := hide hK
  clear hR hK
  go_wp2_with fail
  go_region_with (first
    | (go_at_call 13; refine ((unhide HD).read (by first | exact unhide HK | exact (unhide HK).drew | exact (unhide HK).drewN _)).mono ?_; rintro e w1 ⟨br, F, rfl, hr1, hf1, k1⟩; have HR1 := hide hr1; have hk1 := (Kept.trans (unhide HK) (show Kept [] X w1 from (by first | exact k1 | exact (Kept.refl [] X).drew.step k1)) (by simp)); have HF1 := hide hf1; have HK1 := hide hk1; have HX1 := hide (show Kept [] X w1 from (by first | exact k1 | exact (Kept.refl [] X).drew.step k1)); clear hr1 hf1 k1 hk1)
    | (go_at_call 14; refine ((unhide HD).fixed (unhide HR1)).mono ?_; rintro e w2 ⟨rfl, k2⟩; have hx2 : Kept [] X w2 := (unhide HX1).trans k2 (fun x hx => Or.inr (unhide HF1 x hx)); have HX2 := hide hx2; clear k2 hx2)
    | (go_at_call 15; refine ((unhide HD).sumc ((unhide HK).step (unhide HX2))).mono ?_; rintro e w3 ⟨rfl, hz⟩; have hz2 := hz.symm; subst hz2; clear hz))
  all_goals
    go_wp2_with (first
      | (go_at_call 16; refine (unhide HRD _ ((unhide HK).step (unhide HX2))).mono ?_; rintro e w3 ⟨k3, l, rfl, hnm⟩; have HX3 := hide ((unhide HX2).step k3); have HNM := hide hnm; have HS2 := hide k3.size; clear k3 hnm)
      | (refine wpList_store_row rfl 30 _ _ rfl _ (mcc p l) rfl rfl 30 _ (Blk.new w3 _ _) infoMail rfl (by simp [mcc, Value.oneCell']) ?_; refine world_at (R := fun Z => Blk Z w3.heap.size (mcc p l) 30 ∧ Kept [] w3 Z) ⟨setRow_heap _ _ _ _ _ _ (Blk.new w3 _ _), ((Kept.refl [] w3).alloc _).setRow (Or.inr (Nat.le_refl _)) _⟩ ?_; rintro Z ⟨hzb, hzk⟩; have HB := hide hzb; have HZ := hide hzk; have HX3 := hide ((unhide HX3).step (unhide HZ)); have HNM := hide (NewM.kept (unhide HNM) (unhide HZ)); clear hzb hzk)
      | (refine wpList_load_guard 30 _ rfl _ rfl 30 _ (0, 0) _ (unhide HB) Tryz.underlying30 rfl infoMail rfl ?_)
      | (go_at_call 17; refine (HS _ l).mono ?_; rintro e w4 ⟨rfl, hz⟩; have hb := (unhide HB).kept hz (by simp); have hx := (unhide HX3).step hz; have hn4 := NewM.kept (unhide HNM) hz; clear HB HX3 HNM; have HB := hide hb; have HX3 := hide hx; have HNM := hide hn4; clear hb hx hn4 hz)
      | (refine wpList_store_row rfl 30 _ _ rfl w.heap.size (mcc p l) rfl rfl 30 _ ((unhide HR).kept (unhide HX3) (by simp)) infoMail rfl (by simp [mcc, Value.oneCell']) ?_))
    refine ret_struct_tmp rfl rfl (setRow_heap _ _ _ _ _ _ ((unhide HR).kept (unhide HX3) (by simp))) Tryz.underlying30 infoMail rfl ?_
    exact DecP.good (unhide HE) (unhide HK) (unhide HX3) (unhide HNM) (Nat.lt_of_lt_of_le (unhide HR).lt (unhide HX2).size)
theorem decode_any (w : World) (x : Value) (bs : List Nat) (ht : Tab w) (hx : Wide w x bs) (hb : ∀ y ∈ bs, y < 256) : Calls Tryz.prog 6 #[x] w (DecP w bs) := by
  rcases Nat.lt_or_ge 524288 bs.length with h1 | h1
  · exact decode_far w x bs hx h1
  · rcases Nat.lt_or_ge bs.length 8 with h2 | h2
    · exact decode_few w x bs hx h2
    · obtain ⟨xa, xc, rfl⟩ := wide_len hx
      obtain ⟨b, off, m, c, v, rfl, hm, g1, _, hd⟩ := Dc.of ht hx h2 h1 hb
      rw [hm]
      by_cases hn : v = c
      · cases ho : (readM (bs.take m)).2 with
        | false => exact decode_odd w bs b off m xc c v hd g1 hn ho
        | true =>
          cases hs : snd (readM (bs.take m)).1 with
          | false => exact decode_unsound w bs b off m xc c v hd g1 hn ho hs
          | true => exact decode_good w bs b off m xc c v hd g1 hn ho hs
      · exact decode_sum w bs b off m xc c v hd g1 hn
end Go.Proofs.YtfhfkpgfnlmfhaaGreatDoor

/- The laws' awake. -/
namespace Go.Proofs.YtfhfkpgfnlmfhaaGreatDoor
open Go.RowKit

theorem decA_any {w : World} {x : Value} (ht : Tab w) (h : Wide w x wantA) : Calls Tryz.prog 6 #[x] w fun e w' => ∃ l, e = .returned (.tuple #[.agg (mcc pA l), .int .i64 0]) ∧ MW w' pA l ∧ Kept [] w w' := by
  refine (decode_any w x wantA ht h byteA).mono ?_
  rintro e w' ⟨hk, l, rfl, hn⟩
  have hm := hn.mw byteA
  rw [decA.1, decA.2] at *
  exact ⟨l, rfl, hm, hk⟩
theorem decA0_any {w : World} {x : Value} (ht : Tab w) (h : Wide w x (wantA ++ [0])) : Calls Tryz.prog 6 #[x] w fun e w' => ∃ l, e = .returned (.tuple #[.agg (mcc zeroM l), .int .i64 191]) ∧ Kept [] w w' := by
  refine (decode_any w x (wantA ++ [0]) ht h byteA0).mono ?_
  rintro e w' ⟨hk, l, rfl, hn⟩
  have hz : decM (wantA ++ [0]) = zeroM := by unfold decM; rw [decA0, if_neg (by decide)]
  rw [decA0, hz]
  exact ⟨l, rfl, hk⟩
theorem seesB (w : World) : Sees (w.alloc (.cells #[.int .u8 7, .int .u8 2, .int .u8 0, .int .u8 63, .int .u8 200, .int .u8 1] 5)) (.slice (some ⟨w.heap.size, 0, none⟩) 6 6) wantB := by
  refine Or.inr ⟨w.heap.size, 0, 6, rfl, by simp [wantB], by unfold maxLen; omega, by simp, fun j hj => ?_⟩
  rw [(Blk.new w _ _).cell]
  simp only [wantB, List.length_cons, List.length_nil] at hj
  match j, hj with
  | 0, _ => rfl
  | 1, _ => rfl
  | 2, _ => rfl
  | 3, _ => rfl
  | 4, _ => rfl
  | 5, _ => rfl
/-- What awake has when all has been asked. -/
structure AW (w : World) (p q : Value) (b b2 : Nat) (l : Lm) (X : World) : Prop where
  two : MW X pA l
  b1 : Blk X b (mcc pA nilM) 30
  bb : Blk X b2 (mcc pA l) 30
  sp : Sees X p wantA
  sq : Sees X q wantA
  kept : Kept [] w X
theorem AW.go {w : World} {p q : Value} {b b2 : Nat} {l : Lm} {X Y : World} (h : AW w p q b b2 l X) (k : Kept [] X Y) : AW w p q b b2 l Y := ⟨h.two.kept k, h.b1.kept k (by simp), h.bb.kept k (by simp), h.sp.kept k (by simp), h.sq.kept k (by simp), h.kept.step k⟩

end Go.Proofs.YtfhfkpgfnlmfhaaGreatDoor

/- What Decode and Encode answer, case by case. -/
namespace Go.Proofs.YtfhfkpgfnlmfhaaGreatDoor
open Go.RowKit

/-- Why bytes are no form. -/
theorem decE_cases (bs : List Nat) : decE bs = 0 ∨ (decE bs = 3 ∧ 524288 < bs.length) ∨ (decE bs = 190 ∧ bs.length < 8) ∨ (decE bs = 190 ∧ 8 ≤ bs.length ∧ bs.length ≤ 524288) ∨ (decE bs = 191 ∧ (8 ≤ bs.length ∧ bs.length ≤ 524288) ∧ ∀ x, bs ≠ summed x) := by
  unfold decE
  split
  · rename_i h; exact Or.inr (Or.inl ⟨rfl, h⟩)
  · rename_i h1
    split
    · rename_i h; exact Or.inr (Or.inr (Or.inl ⟨rfl, h⟩))
    · rename_i h2
      split
      · rename_i h3
        refine Or.inr (Or.inr (Or.inr (Or.inr ⟨rfl, ⟨by omega, by omega⟩, fun x hx => h3 ?_⟩)))
        rw [hx, (summed_parts x).1, (summed_parts x).2]
      · split
        · exact Or.inl rfl
        · exact Or.inr (Or.inr (Or.inr (Or.inl ⟨rfl, by omega, by omega⟩)))
theorem decM_zero {bs : List Nat} (h : decE bs ≠ 0) : decM bs = zeroM := by unfold decM; rw [if_neg h]
theorem dec_bad {w : World} {x : Value} {bs : List Nat} (ht : Tab w) (hx : Wide w x bs) (hb : ∀ y ∈ bs, y < 256) {c : Nat} (h : decE bs = c) (hc : c ≠ 0) : Calls Tryz.prog 6 #[x] w fun e w' => ∃ l, e = .returned (.tuple #[.agg (mcc zeroM l), .int .i64 (c : Nat)]) ∧ MW w' zeroM l ∧ Kept [] w w' := by
  refine (decode_any w x bs ht hx hb).mono ?_
  rintro e w' ⟨hk, l, rfl, hn⟩
  have hm := hn.mw hb
  have hz := decM_zero (bs := bs) (by omega)
  rw [hz] at hm ⊢
  rw [h]
  exact ⟨l, rfl, hm, hk⟩
theorem dec_good {w : World} {x : Value} {bs : List Nat} (ht : Tab w) (hx : Wide w x bs) (hb : ∀ y ∈ bs, y < 256) (h : decE bs = 0) : Calls Tryz.prog 6 #[x] w fun e w' => ∃ l, e = .returned (.tuple #[.agg (mcc (decM bs) l), .int .i64 0]) ∧ MW w' (decM bs) l ∧ Kept [] w w' := by
  refine (decode_any w x bs ht hx hb).mono ?_
  rintro e w' ⟨hk, l, rfl, hn⟩
  have hm := hn.mw hb
  rw [h]
  exact ⟨l, rfl, hm, hk⟩
theorem same_mail {w : World} {p : Ml} {l m : Lm} (h1 : MW w p l) (h2 : MW w p m) : Calls Tryz.prog 8 #[.agg (mcc p l), .agg (mcc p m)] w fun e w' => e = .returned (.bool true) ∧ Kept [] w w' := by
  have h := sameMail_any h1 h2
  rw [(eqM_iff p p).2 rfl] at h
  exact h
theorem sound_is {w : World} {p : Ml} {l : Lm} : Calls Tryz.prog 17 #[.agg (mcc p l)] w fun e w' => e = .returned (.bool (snd p)) ∧ Kept [] w w' := sound_any w p l
end Go.Proofs.YtfhfkpgfnlmfhaaGreatDoor

/- The document's CRC and Summed. -/
namespace Go.Proofs.YtfhfkpgfnlmfhaaGreatDoor
open Go.RowKit

theorem and_one (v : Nat) (hv : v < 4294967296) : bits .and .u32 (v : Int) 1 = ((v % 2 : Nat) : Int) := by
  have := u32_and_nat v 1 hv (by omega)
  rw [nat_mask1] at this
  simpa using this
theorem stp_of_one {x : Nat} (hx : x < 4294967296) (h : ((x : Int) % 2 == 1) = true) : bits .xor .u32 ((x : Int) / 2) 2197175160 = (stp x : Nat) := by
  have h2 : x % 2 = 1 := by rw [beq_iff_eq] at h; omega
  have := u32_xor_nat (x / 2) 2197175160 (by omega) (by omega)
  unfold stp
  rw [if_pos h2, ← this]
  simp
theorem stp_of_zero {x : Nat} (h : ((x : Int) % 2 == 1) = false) : (x : Int) / 2 = (stp x : Nat) := by
  have h2 : ¬ x % 2 = 1 := by rw [beq_eq_false_iff_ne] at h; omega
  unfold stp
  rw [if_neg h2]; omega

set_option maxRecDepth 100000 in
set_option maxHeartbeats 400000 in
set_option maxRecDepth 100000 in
set_option maxHeartbeats 400000 in
theorem rstep_any (v : Nat) (hv : v < 4294967296) (w : World) :
    Calls Tryz.prog 49 #[.int .u32 v] w fun e w' => e = .returned (.int .u32 (stp v : Nat)) ∧ w' = w := by
  have ha := and_one v hv
  go_enter Tryz.func49, Tryz.ntmps49
  go_wp2
  · rename_i hb
    go_ret
    exact ⟨by rw [← stp_of_one hv hb]; rfl, rfl⟩
  · rename_i hb
    go_ret
    exact ⟨by rw [← stp_of_zero hb]; rfl, rfl⟩

set_option maxRecDepth 100000 in
set_option maxHeartbeats 1000000 in
theorem rcrc_any {w : World} {v : Value} {bs : List Nat} (hs : Wide w v bs) (hb : ∀ x ∈ bs, x < 256) (hl : bs.length ≤ 140737488355328) :
    Calls Tryz.prog 19 #[v] w fun e w' => e = .returned (.int .u32 (crc bs : Nat)) ∧ w' = w := by
  obtain ⟨a, cap, rfl⟩ := wide_len hs
  have hcl : (4294967295 : Nat) < 4294967296 := by omega
  have HG : Hid (crc bs = cpl (takes 4294967295 bs)) := by
    unfold Hid crc grown
    rw [show cpl 0 = 4294967295 by decide]
  have H3 := hide hb
  have H4 := hide hs
  clear hb hs
  generalize hL : bs.length = L at *
  have HL := hide hL
  have hml : L ≤ 9223372036854775807 := by omega
  clear hL
  go_enter Tryz.func19, Tryz.ntmps19
  go_wp2_with fail
  go_loop [3, 4] (fun r i => ∃ k : Nat, k ≤ L ∧ i = .int .i64 k ∧ r = .int .u32 (takes 4294967295 (bs.take k) : Nat)) (fun _ i => L - (intOf i).toNat)
  case atStart => exact ⟨0, by omega, rfl, rfl⟩
  case round =>
    obtain ⟨k, hk, rfl, rfl⟩ := hrel
    have hlt := takes_lt hcl (bs.take k) (fun b hb => unhide H3 b (List.mem_of_mem_take hb))
    by_cases hkl : k < L
    · obtain ⟨b, off, rfl, hc⟩ := (unhide H4).at k (by rw [unhide HL]; exact hkl)
      have hx := getD_lt8 (unhide H3) (show k < bs.length by rw [unhide HL]; exact hkl)
      have HE : Hid (takes 4294967295 (bs.take (k + 1)) = take1 (takes 4294967295 (bs.take k)) (bs.getD k 0)) := takes_succ _ bs k (by rw [unhide HL]; exact hkl)
      generalize bs.getD k 0 = x at hc HE hx
      generalize takes 4294967295 (bs.take k) = r at hlt HE
      have e1 := u32_xor_nat r x hlt (by omega)
      have l1 : r ^^^ x < 4294967296 := Nat.xor_lt_two_pow (n := 32) hlt (by omega)
      have HE2 : Hid (takes 4294967295 (bs.take (k + 1)) = stps 8 (r ^^^ x)) := unhide HE
      clear HE
      generalize r ^^^ x = y at e1 l1 HE2
      go_wp2_with fail
      go_loop [3, 5] (fun r2 i2 => ∃ j : Nat, j ≤ 8 ∧ i2 = .int .i64 j ∧ r2 = .int .u32 (stps j y : Nat)) (fun _ i2 => 8 - (intOf i2).toNat)
      case atStart => exact ⟨0, by omega, rfl, rfl⟩
      case round =>
        obtain ⟨j, hj, rfl, rfl⟩ := hrel
        by_cases hjl : j < 8
        · have l2 := stps_lt j l1
          have HST := hide (rstep_any _ l2)
          rw [← stps_succ'] at HST
          generalize hz : stps (j + 1) y = z at HST
          have HZ := hide hz
          clear hz
          generalize stps j y = t at l2 HST
          go_wp2_with (first | (go_at_call 49; refine (unhide HST _).mono ?_; rintro e w' ⟨rfl, rfl⟩))
          exact ⟨⟨j + 1, by omega, by simp, by rw [unhide HZ]⟩, by simp [intOf]; omega⟩
        · obtain rfl : j = 8 := by omega
          go_wp2
          exact ⟨⟨k + 1, by omega, by simp, by rw [unhide HE2]⟩, by simp [intOf]; omega⟩
    · obtain rfl : k = L := by omega
      have hfull : bs.take k = bs := by rw [← unhide HL, List.take_length]
      rw [hfull] at hlt ⊢
      have e4 : bits .xor .u32 ((takes 4294967295 bs : Nat) : Int) 4294967295 = (cpl (takes 4294967295 bs) : Nat) := u32_xor_nat _ 4294967295 hlt (by omega)
      rw [← unhide HG] at e4
      generalize hgg : crc bs = g at e4
      have HGG := hide hgg
      clear hgg
      generalize takes 4294967295 bs = q at hlt e4
      go_wp2
      go_ret
      exact ⟨by rw [unhide HGG]; rfl, rfl⟩


set_option maxRecDepth 100000 in
set_option maxHeartbeats 400000 in
theorem rsummed_any {w : World} {x : Value} {bs : List Nat} (hx : Wide w x bs) (hb : ∀ y ∈ bs, y < 256) (hl : bs.length + 4 ≤ 140737488355328) : Calls Tryz.prog 9 #[x] w (SumP w bs) := by
  obtain ⟨i0, hi, hz0, hz1, hz2⟩ := info_parts Tryz.info5
  have HI := hide (And.intro hi (And.intro hz0 (And.intro hz1 hz2)))
  have HC := hide (rcrc_any hx hb (by omega))
  have HX := hide hx
  have hcl := crc_lt hb
  obtain ⟨c, hc⟩ : ∃ c, crc bs = c := ⟨_, rfl⟩
  rw [hc] at HC hcl
  obtain ⟨s, hs⟩ : ∃ s, s = bs ++ le c 4 := ⟨_, rfl⟩
  have HSM : Hid (summed bs = s) := by unfold Hid summed; rw [hc, hs]
  obtain ⟨xa, xc, rfl⟩ := wide_len hx
  have HCL := hide hcl
  have HSS := hide hs
  have HL := hide hl
  clear hx hb hc hs hl
  go_enter Tryz.func9, Tryz.ntmps9
  go_upto_region 4 with (first
    | (go_at_call 19; refine (unhide HC).mono ?_; rintro e w1 ⟨rfl, hz⟩; have hz2' := hz.symm; subst hz2'; clear hz)
    | (at_builtin; refine wpList_append_wide _ rfl _ _ 22 rfl w.heap.size 5 i0 (.int .u8 0) Tryz.underlying22 hi hz0 hz1 hz2 rfl _ [] rfl ⟨rfl, Or.inl ⟨rfl, rfl⟩⟩ _ bs rfl (unhide HX) ?c1 ?c2 ?_))
  case c1 => have := unhide HL; simp; omega
  case c2 => simp
  intro v1 w3 hown hg hat
  have hk1 : Kept [] w w3 := (Kept.refl [] w).grown hg (fun k hk => by simp [Value.ownBlock] at hk)
  obtain ⟨a1, c1, hv⟩ := own_len hown
  subst hv
  have hs1 := hk1.size
  have HO1 := hide hown
  have HK := hide hk1
  have HS1 := hide hs1
  clear hown hg hat hk1 hs1
  go_wp2_with (at_builtin; refine wpList_append_sees _ rfl _ _ 22 rfl w.heap.size 5 i0 (.int .u8 0) Tryz.underlying22 hi hz0 hz1 hz2 rfl _ bs rfl ((unhide HO1).alloc _) _ (le c 4) rfl (news_four w3 (unhide HCL)) ?c3 ?c4 ?_)
  case c3 => rw [le_len]; exact unhide HL
  case c4 => rw [World.size_alloc]; exact Nat.le_succ_of_le (unhide HS1)
  intro v2 w4 hown4 hgrow4 hat4
  obtain ⟨a2, c2, hv'⟩ := own_len hown4
  subst hv'
  have HK4 := hide (((unhide HK).alloc _).grown hgrow4 (fun k hk => Or.inr ((unhide HO1).lt k hk).1))
  have HO4 := hide hown4
  clear hown4 hgrow4 hat4
  go_wp2_with fail
  go_ret
  refine ⟨unhide HK4, a2, c2, ?_, ?_⟩
  · rw [unhide HSM, unhide HSS, List.length_append]; rfl
  · have h := unhide HO4
    rw [← List.length_append] at h
    rw [unhide HSM, unhide HSS]; exact h
end Go.Proofs.YtfhfkpgfnlmfhaaGreatDoor
