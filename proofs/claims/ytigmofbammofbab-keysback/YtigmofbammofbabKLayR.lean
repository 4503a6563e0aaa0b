/- Values and rows laid behind bytes. -/
import Derived.Test.YtigmofbammofbabKLayW
namespace Go.Proofs.Ytigmofbammofbab
open Go.RowKit

/-- those of S that were there -/
def Old (S : Nat → Prop) (w : World) : Nat → Prop := fun x => S x ∧ x < w.heap.size
theorem SeesIn.old {S : Nat → Prop} {w : World} {v : Value} {bs : List Nat} (h : SeesIn S w v bs) : SeesIn (Old S w) w v bs := h.mono (fun _ h1 h2 => ⟨h2, h1⟩)
theorem RowV.old {S : Nat → Prop} {w : World} {v : Value} {r : Row} (h : RowV S w v r) : RowV (Old S w) w v r := h.mono (fun _ h1 h2 => ⟨h2, h1⟩)
theorem LayS.avoid {S : Nat → Prop} {B : Nat} {w w' : World} {v v' : Value} {bs' : List Nat} (h : LayS B w v w' v' bs') (hS : ∀ k, v.ownBlock = some k → ¬ S k) : ∀ k, v'.ownBlock = some k → ¬ Old S w k := by
  rintro k hk ⟨h1, h2⟩
  rcases h.place k hk with h3 | h3
  · exact hS k h3 h1
  · omega
theorem LayS.sees {S : Nat → Prop} {B : Nat} {w w' : World} {v v' : Value} {bs' : List Nat} (h : LayS B w v w' v' bs') (hS : ∀ k, v.ownBlock = some k → ¬ S k) {tv : Value} {t : List Nat} (ht : SeesIn S w tv t) : SeesIn (Old S w) w' tv t :=
  ht.old.kept h.kept (fun x hx hm => hS x (by simpa using hx) hm.1)
theorem LayS.row {S : Nat → Prop} {B : Nat} {w w' : World} {v v' : Value} {bs' : List Nat} (h : LayS B w v w' v' bs') (hS : ∀ k, v.ownBlock = some k → ¬ S k) {pv : Value} {p : Row} (ht : RowV S w pv p) : RowV (Old S w) w' pv p :=
  ht.old.kept h.kept (fun x hx hm => hS x (by simpa using hx) hm.1)

theorem blk7 {w : World} {b : Nat} {x0 x1 x2 x3 x4 x5 x6 : Value} {t : TypeId} (h : Blk w b #[x0, x1, x2, x3, x4, x5, x6] t) : w.cell? ⟨b, 0, none⟩ = some x0 ∧ w.cell? ⟨b, 1, none⟩ = some x1 ∧ w.cell? ⟨b, 2, none⟩ = some x2 ∧ w.cell? ⟨b, 3, none⟩ = some x3 ∧ w.cell? ⟨b, 4, none⟩ = some x4 ∧ w.cell? ⟨b, 5, none⟩ = some x5 ∧ w.cell? ⟨b, 6, none⟩ = some x6 :=
  ⟨h.cell 0, h.cell 1, h.cell 2, h.cell 3, h.cell 4, h.cell 5, h.cell 6⟩
/-- the contract of layRow -/
def LayC (r : Row) : Prop := ∀ (S : Nat → Prop) (B : Nat) (w : World) (a : Option Addr) (n cap : Nat) (bs : List Nat) (rv : Value), w.ownsRow B 5 1 (.slice a n cap) n (u8s bs) → bs.length = n → B ≤ w.heap.size → RowV S w rv r → (∀ k, (Value.slice a n cap).ownBlock = some k → ¬ S k) → fine r → n + 2 * (codeR r).length ≤ 140737488355328 →
    Calls Try.prog 27 #[.slice a n cap, rv] w fun e w' => ∃ a' n' cap', e = .returned (.slice a' n' cap') ∧ (bs ++ codeR r).length = n' ∧ LayS B w (.slice a n cap) w' (.slice a' n' cap') (bs ++ codeR r)

theorem esc_ge (l : List Nat) : l.length ≤ (esc l).length := by
  induction l with
  | nil => simp
  | cons b r ih => unfold esc; split <;> simp <;> omega
theorem codeV_len (h : Hd) (pc : List Nat) (hk : h.kind = 6) : (body h pc) = esc h.text ++ [0] := by unfold body; rw [hk]; simp

set_option maxRecDepth 100000 in
set_option maxHeartbeats 4000000 in
theorem layValue_1 {S : Nat → Prop} {B : Nat} {w : World} {a : Option Addr} {n cap : Nat} {bs : List Nat} {h : Hd} {tv pv : Value} {p : Row} (ho : w.ownsRow B 5 1 (.slice a n cap) n (u8s bs)) (hn : bs.length = n) (hB : B ≤ w.heap.size) (hok : h.ok) (hkk : h.kind = 1) (ht : SeesIn S w tv h.text) (hp : RowV S w pv p) (hf : h.kind = 7 → fine p) (hC : LayC p) (hS : ∀ k, (Value.slice a n cap).ownBlock = some k → ¬ S k) (hl : n + 2 * (body h (codeR p)).length + 1 ≤ 140737488355328) :
    Calls Try.prog 35 #[.slice a n cap, aggV h tv pv] w fun e w' => ∃ a' n' cap', e = .returned (.slice a' n' cap') ∧ (bs ++ (h.kind.toNat :: body h (codeR p))).length = n' ∧ LayS B w (.slice a n cap) w' (.slice a' n' cap') (bs ++ (h.kind.toNat :: body h (codeR p))) := by
  have hsf := fun (w : World) (a : Addr) (m : Nat) (md : Mode) => run_store Try.prog w a (.float .f64 m) md rfl
  have hsc := fun (w : World) (a : Addr) (m n : Nat) (md : Mode) => run_store Try.prog w a (.complex .f64 m n) md rfl
  obtain ⟨kind, bb, n', re, prr, im, text⟩ := h
  have HT := hide ht
  have HP := hide hp
  obtain ⟨⟨ta, tc, htv, -⟩, -⟩ := ht
  obtain ⟨pa, pc, hpv, -⟩ := hp
  subst htv hpv
  have HLB := hide ((LayS.refl (bs := bs) (by rw [hn]; exact ho)).alloc (.cells #[.int .i64 kind, .bool bb, .int .i64 n', .float .f64 re, .complex .f64 prr im, .slice ta text.length tc, .slice pa p.len pc] 48))
  have HBK := hide (Blk.new w #[.int .i64 kind, .bool bb, .int .i64 n', .float .f64 re, .complex .f64 prr im, .slice ta text.length tc, .slice pa p.len pc] 48)
  have HLS0 := hide (LayS.refl (unhide HLB).own)
  have HNB : Hid (w.heap.size ∉ (Value.slice a n cap).ownBlock.toList) := by
    intro hm
    have := (ho.lt _ (by simpa using hm)).2
    omega
  unfold aggV
  obtain ⟨-, -, o1, o2, o3, o4, o5, -⟩ := hok
  simp only at *
  have HN := hide hn
  have HF := hide hf
  have HC := hide hC
  have HS := hide hS
  have HO := hide ho
  clear hn hf hC hS ho
  obtain ⟨X1, hX1⟩ : ∃ X1, bs ++ [kind.toNat] = X1 := ⟨_, rfl⟩
  have HX1 := hide hX1
  have HX1l : Hid (X1.length = n + 1) := by unfold Hid; rw [← hX1, List.length_append, unhide HN]; rfl
  have HX1b : Hid (bs.length + [kind.toNat].length ≤ 140737488355328) := by unfold Hid; rw [unhide HN]; simp; omega
  have HR : Hid (bs ++ (kind.toNat :: body ⟨kind, bb, n', re, prr, im, text⟩ (codeR p)) = X1 ++ body ⟨kind, bb, n', re, prr, im, text⟩ (codeR p)) := by unfold Hid; rw [← hX1]; simp
  rw [unhide HR]
  clear HR hX1
  generalize hPL : p.len = PL at *
  have HPL := hide hPL
  generalize hTL : text.length = TL at *
  have HTL := hide hTL
  clear hPL hTL
  subst hkk
  · have HLA := hide ((unhide HLS0).alloc (.cells #[.int .u8 1] 5))
    have HS1 : Hid (Sees (World.alloc (w.alloc (.cells #[.int .i64 1, .bool bb, .int .i64 n', .float .f64 re, .complex .f64 prr im, .slice ta TL tc, .slice pa PL pc] 48)) (.cells #[.int .u8 1] 5)) (.slice (some ⟨World.heap (w.alloc (.cells #[.int .i64 1, .bool bb, .int .i64 n', .float .f64 re, .complex .f64 prr im, .slice ta TL tc, .slice pa PL pc] 48)) |>.size, 0, none⟩) 1 1) [(1 : Int).toNat]) := sees_one _ 1 (by omega)
    simp only [World.size_alloc] at HS1
    have HBD : Hid (body ⟨1, bb, n', re, prr, im, text⟩ (codeR p) = []) := by unfold Hid body; simp
    rw [unhide HBD] at hl ⊢
    rw [List.append_nil]
    go_enter Try.func35, Try.ntmps35
    go_wp2_with (at_builtin; refine wpList_append_lay _ rfl (.tmp 5) _ rfl rfl HLA rfl HS1 HX1b ((unhide HLA).hb ((unhide HLB).base hB)) (n + 1) X1 HX1 HX1l ?_)
    intro a2 c2 w2 HL2
    have HBK2 := hide ((unhide HBK).kept (unhide HL2).kept (unhide HNB))
    have HNB2 : Hid (w.heap.size ∉ (Value.slice a2 (n + 1) c2).ownBlock.toList) := by
      intro hm
      rcases (unhide HL2).place _ (by simpa using hm) with h | h
      · exact unhide HNB (by simp [h])
      · simp at h; omega
    replace HL2 := hide ((unhide HLB).trans (unhide HL2))
    obtain ⟨c0, c1, c2', c3', c4', c5, c6⟩ := blk7 (unhide HBK2)
    go_wp2
    go_ret
    exact ⟨a2, n + 1, c2, rfl, unhide HX1l, unhide HL2⟩
set_option maxRecDepth 100000 in
set_option maxHeartbeats 4000000 in
theorem layValue_2 {S : Nat → Prop} {B : Nat} {w : World} {a : Option Addr} {n cap : Nat} {bs : List Nat} {h : Hd} {tv pv : Value} {p : Row} (ho : w.ownsRow B 5 1 (.slice a n cap) n (u8s bs)) (hn : bs.length = n) (hB : B ≤ w.heap.size) (hok : h.ok) (hkk : h.kind = 2) (ht : SeesIn S w tv h.text) (hp : RowV S w pv p) (hf : h.kind = 7 → fine p) (hC : LayC p) (hS : ∀ k, (Value.slice a n cap).ownBlock = some k → ¬ S k) (hl : n + 2 * (body h (codeR p)).length + 1 ≤ 140737488355328) :
    Calls Try.prog 35 #[.slice a n cap, aggV h tv pv] w fun e w' => ∃ a' n' cap', e = .returned (.slice a' n' cap') ∧ (bs ++ (h.kind.toNat :: body h (codeR p))).length = n' ∧ LayS B w (.slice a n cap) w' (.slice a' n' cap') (bs ++ (h.kind.toNat :: body h (codeR p))) := by
  have hsf := fun (w : World) (a : Addr) (m : Nat) (md : Mode) => run_store Try.prog w a (.float .f64 m) md rfl
  have hsc := fun (w : World) (a : Addr) (m n : Nat) (md : Mode) => run_store Try.prog w a (.complex .f64 m n) md rfl
  obtain ⟨kind, bb, n', re, prr, im, text⟩ := h
  have HT := hide ht
  have HP := hide hp
  obtain ⟨⟨ta, tc, htv, -⟩, -⟩ := ht
  obtain ⟨pa, pc, hpv, -⟩ := hp
  subst htv hpv
  have HLB := hide ((LayS.refl (bs := bs) (by rw [hn]; exact ho)).alloc (.cells #[.int .i64 kind, .bool bb, .int .i64 n', .float .f64 re, .complex .f64 prr im, .slice ta text.length tc, .slice pa p.len pc] 48))
  have HBK := hide (Blk.new w #[.int .i64 kind, .bool bb, .int .i64 n', .float .f64 re, .complex .f64 prr im, .slice ta text.length tc, .slice pa p.len pc] 48)
  have HLS0 := hide (LayS.refl (unhide HLB).own)
  have HNB : Hid (w.heap.size ∉ (Value.slice a n cap).ownBlock.toList) := by
    intro hm
    have := (ho.lt _ (by simpa using hm)).2
    omega
  unfold aggV
  obtain ⟨-, -, o1, o2, o3, o4, o5, -⟩ := hok
  simp only at *
  have HN := hide hn
  have HF := hide hf
  have HC := hide hC
  have HS := hide hS
  have HO := hide ho
  clear hn hf hC hS ho
  obtain ⟨X1, hX1⟩ : ∃ X1, bs ++ [kind.toNat] = X1 := ⟨_, rfl⟩
  have HX1 := hide hX1
  have HX1l : Hid (X1.length = n + 1) := by unfold Hid; rw [← hX1, List.length_append, unhide HN]; rfl
  have HX1b : Hid (bs.length + [kind.toNat].length ≤ 140737488355328) := by unfold Hid; rw [unhide HN]; simp; omega
  have HR : Hid (bs ++ (kind.toNat :: body ⟨kind, bb, n', re, prr, im, text⟩ (codeR p)) = X1 ++ body ⟨kind, bb, n', re, prr, im, text⟩ (codeR p)) := by unfold Hid; rw [← hX1]; simp
  rw [unhide HR]
  clear HR hX1
  generalize hPL : p.len = PL at *
  have HPL := hide hPL
  generalize hTL : text.length = TL at *
  have HTL := hide hTL
  clear hPL hTL
  subst hkk
  · have HLA := hide ((unhide HLS0).alloc (.cells #[.int .u8 2] 5))
    have HS1 : Hid (Sees (World.alloc (w.alloc (.cells #[.int .i64 2, .bool bb, .int .i64 n', .float .f64 re, .complex .f64 prr im, .slice ta TL tc, .slice pa PL pc] 48)) (.cells #[.int .u8 2] 5)) (.slice (some ⟨World.heap (w.alloc (.cells #[.int .i64 2, .bool bb, .int .i64 n', .float .f64 re, .complex .f64 prr im, .slice ta TL tc, .slice pa PL pc] 48)) |>.size, 0, none⟩) 1 1) [(2 : Int).toNat]) := sees_one _ 2 (by omega)
    simp only [World.size_alloc] at HS1
    have HBD : Hid (body ⟨2, bb, n', re, prr, im, text⟩ (codeR p) = [bitOf bb]) := by unfold Hid body; simp
    rw [unhide HBD] at hl ⊢
    have HPB := hide (pbool_any bb)
    have hq : bitOf bb < 256 := by unfold bitOf; split <;> omega
    obtain ⟨X2, hX2⟩ : ∃ X2, X1 ++ [bitOf bb] = X2 := ⟨_, rfl⟩
    have HX2 := hide hX2
    have HX2l : Hid (X2.length = n + 2) := by unfold Hid; rw [← hX2, List.length_append, unhide HX1l]; rfl
    have HX2b : Hid (X1.length + [bitOf bb].length ≤ 140737488355328) := by unfold Hid; rw [unhide HX1l]; simp at hl ⊢; omega
    rw [hX2]
    clear hX2
    generalize bitOf bb = q at *
    go_enter Try.func35, Try.ntmps35
    go_wp2_with (at_builtin; refine wpList_append_lay _ rfl (.tmp 5) _ rfl rfl HLA rfl HS1 HX1b ((unhide HLA).hb ((unhide HLB).base hB)) (n + 1) X1 HX1 HX1l ?_)
    intro a2 c2 w2 HL2
    have HBK2 := hide ((unhide HBK).kept (unhide HL2).kept (unhide HNB))
    have HNB2 : Hid (w.heap.size ∉ (Value.slice a2 (n + 1) c2).ownBlock.toList) := by
      intro hm
      rcases (unhide HL2).place _ (by simpa using hm) with h | h
      · exact unhide HNB (by simp [h])
      · simp at h; omega
    replace HL2 := hide ((unhide HLB).trans (unhide HL2))
    obtain ⟨c0, c1, c2', c3', c4', c5, c6⟩ := blk7 (unhide HBK2)
    have HLA2 := hide ((unhide HL2).alloc (.cells #[.int .u8 (q : Int)] 5))
    have HS2 := hide (sees_one w2 q hq)
    go_wp2_with (first | (go_at_call 39; refine (unhide HPB _).mono ?_; rintro e w' ⟨rfl, hq⟩; have hq' := hq.symm; subst hq') | (at_builtin; refine wpList_append_lay _ rfl _ _ rfl rfl HLA2 rfl HS2 HX2b ((unhide HLA2).hb hB) (n + 2) X2 HX2 HX2l ?_))
    intro a3 c3 w3 HL3
    go_wp2
    go_ret
    exact ⟨a3, n + 2, c3, rfl, unhide HX2l, unhide HL3⟩
set_option maxRecDepth 100000 in
set_option maxHeartbeats 4000000 in
theorem layValue_3 {S : Nat → Prop} {B : Nat} {w : World} {a : Option Addr} {n cap : Nat} {bs : List Nat} {h : Hd} {tv pv : Value} {p : Row} (ho : w.ownsRow B 5 1 (.slice a n cap) n (u8s bs)) (hn : bs.length = n) (hB : B ≤ w.heap.size) (hok : h.ok) (hkk : h.kind = 3) (ht : SeesIn S w tv h.text) (hp : RowV S w pv p) (hf : h.kind = 7 → fine p) (hC : LayC p) (hS : ∀ k, (Value.slice a n cap).ownBlock = some k → ¬ S k) (hl : n + 2 * (body h (codeR p)).length + 1 ≤ 140737488355328) :
    Calls Try.prog 35 #[.slice a n cap, aggV h tv pv] w fun e w' => ∃ a' n' cap', e = .returned (.slice a' n' cap') ∧ (bs ++ (h.kind.toNat :: body h (codeR p))).length = n' ∧ LayS B w (.slice a n cap) w' (.slice a' n' cap') (bs ++ (h.kind.toNat :: body h (codeR p))) := by
  have hsf := fun (w : World) (a : Addr) (m : Nat) (md : Mode) => run_store Try.prog w a (.float .f64 m) md rfl
  have hsc := fun (w : World) (a : Addr) (m n : Nat) (md : Mode) => run_store Try.prog w a (.complex .f64 m n) md rfl
  obtain ⟨kind, bb, n', re, prr, im, text⟩ := h
  have HT := hide ht
  have HP := hide hp
  obtain ⟨⟨ta, tc, htv, -⟩, -⟩ := ht
  obtain ⟨pa, pc, hpv, -⟩ := hp
  subst htv hpv
  have HLB := hide ((LayS.refl (bs := bs) (by rw [hn]; exact ho)).alloc (.cells #[.int .i64 kind, .bool bb, .int .i64 n', .float .f64 re, .complex .f64 prr im, .slice ta text.length tc, .slice pa p.len pc] 48))
  have HBK := hide (Blk.new w #[.int .i64 kind, .bool bb, .int .i64 n', .float .f64 re, .complex .f64 prr im, .slice ta text.length tc, .slice pa p.len pc] 48)
  have HLS0 := hide (LayS.refl (unhide HLB).own)
  have HNB : Hid (w.heap.size ∉ (Value.slice a n cap).ownBlock.toList) := by
    intro hm
    have := (ho.lt _ (by simpa using hm)).2
    omega
  unfold aggV
  obtain ⟨-, -, o1, o2, o3, o4, o5, -⟩ := hok
  simp only at *
  have HN := hide hn
  have HF := hide hf
  have HC := hide hC
  have HS := hide hS
  have HO := hide ho
  clear hn hf hC hS ho
  obtain ⟨X1, hX1⟩ : ∃ X1, bs ++ [kind.toNat] = X1 := ⟨_, rfl⟩
  have HX1 := hide hX1
  have HX1l : Hid (X1.length = n + 1) := by unfold Hid; rw [← hX1, List.length_append, unhide HN]; rfl
  have HX1b : Hid (bs.length + [kind.toNat].length ≤ 140737488355328) := by unfold Hid; rw [unhide HN]; simp; omega
  have HR : Hid (bs ++ (kind.toNat :: body ⟨kind, bb, n', re, prr, im, text⟩ (codeR p)) = X1 ++ body ⟨kind, bb, n', re, prr, im, text⟩ (codeR p)) := by unfold Hid; rw [← hX1]; simp
  rw [unhide HR]
  clear HR hX1
  generalize hPL : p.len = PL at *
  have HPL := hide hPL
  generalize hTL : text.length = TL at *
  have HTL := hide hTL
  clear hPL hTL
  subst hkk
  · have HLA := hide ((unhide HLS0).alloc (.cells #[.int .u8 3] 5))
    have HS1 : Hid (Sees (World.alloc (w.alloc (.cells #[.int .i64 3, .bool bb, .int .i64 n', .float .f64 re, .complex .f64 prr im, .slice ta TL tc, .slice pa PL pc] 48)) (.cells #[.int .u8 3] 5)) (.slice (some ⟨World.heap (w.alloc (.cells #[.int .i64 3, .bool bb, .int .i64 n', .float .f64 re, .complex .f64 prr im, .slice ta TL tc, .slice pa PL pc] 48)) |>.size, 0, none⟩) 1 1) [(3 : Int).toNat]) := sees_one _ 3 (by omega)
    simp only [World.size_alloc] at HS1
    have HBD : Hid (body ⟨3, bb, n', re, prr, im, text⟩ (codeR p) = be8 (placeI n')) := by unfold Hid body; simp
    rw [unhide HBD] at hl ⊢
    have HPI := hide (pint_any n' o1 o2)
    have hl2 : n + 1 + 8 ≤ 140737488355328 := by rw [be8_length] at hl; simp at hl; omega
    generalize placeI n' = q at *
    go_enter Try.func35, Try.ntmps35
    go_wp2_with (at_builtin; refine wpList_append_lay _ rfl (.tmp 5) _ rfl rfl HLA rfl HS1 HX1b ((unhide HLA).hb ((unhide HLB).base hB)) (n + 1) X1 HX1 HX1l ?_)
    intro a2 c2 w2 HL2
    have HBK2 := hide ((unhide HBK).kept (unhide HL2).kept (unhide HNB))
    have HNB2 : Hid (w.heap.size ∉ (Value.slice a2 (n + 1) c2).ownBlock.toList) := by
      intro hm
      rcases (unhide HL2).place _ (by simpa using hm) with h | h
      · exact unhide HNB (by simp [h])
      · simp at h; omega
    replace HL2 := hide ((unhide HLB).trans (unhide HL2))
    obtain ⟨c0, c1, c2', c3', c4', c5, c6⟩ := blk7 (unhide HBK2)
    have HLW := hide (layWord_any (B := B) (w := w2) (a := a2) (n := n + 1) (cap := c2) (bs := X1) (by have := (unhide HL2).own; rw [unhide HX1l] at this; exact this) (unhide HX1l) ((unhide HL2).base hB) hl2 q)
    go_wp2_with (first | (go_at_call 41; refine (unhide HPI _).mono ?_; rintro e w' ⟨rfl, hq⟩; have hq' := hq.symm; subst hq') | (go_at_call 40; refine (unhide HLW).mono ?_; rintro e w3 ⟨a3, c3, rfl, hl3⟩; have HL3 := hide ((unhide HL2).trans hl3); clear hl3))
    go_ret
    exact ⟨a3, n + 1 + 8, c3, rfl, by rw [List.length_append, unhide HX1l]; rfl, unhide HL3⟩
set_option maxRecDepth 100000 in
set_option maxHeartbeats 4000000 in
theorem layValue_4 {S : Nat → Prop} {B : Nat} {w : World} {a : Option Addr} {n cap : Nat} {bs : List Nat} {h : Hd} {tv pv : Value} {p : Row} (ho : w.ownsRow B 5 1 (.slice a n cap) n (u8s bs)) (hn : bs.length = n) (hB : B ≤ w.heap.size) (hok : h.ok) (hkk : h.kind = 4) (ht : SeesIn S w tv h.text) (hp : RowV S w pv p) (hf : h.kind = 7 → fine p) (hC : LayC p) (hS : ∀ k, (Value.slice a n cap).ownBlock = some k → ¬ S k) (hl : n + 2 * (body h (codeR p)).length + 1 ≤ 140737488355328) :
    Calls Try.prog 35 #[.slice a n cap, aggV h tv pv] w fun e w' => ∃ a' n' cap', e = .returned (.slice a' n' cap') ∧ (bs ++ (h.kind.toNat :: body h (codeR p))).length = n' ∧ LayS B w (.slice a n cap) w' (.slice a' n' cap') (bs ++ (h.kind.toNat :: body h (codeR p))) := by
  have hsf := fun (w : World) (a : Addr) (m : Nat) (md : Mode) => run_store Try.prog w a (.float .f64 m) md rfl
  have hsc := fun (w : World) (a : Addr) (m n : Nat) (md : Mode) => run_store Try.prog w a (.complex .f64 m n) md rfl
  obtain ⟨kind, bb, n', re, prr, im, text⟩ := h
  have HT := hide ht
  have HP := hide hp
  obtain ⟨⟨ta, tc, htv, -⟩, -⟩ := ht
  obtain ⟨pa, pc, hpv, -⟩ := hp
  subst htv hpv
  have HLB := hide ((LayS.refl (bs := bs) (by rw [hn]; exact ho)).alloc (.cells #[.int .i64 kind, .bool bb, .int .i64 n', .float .f64 re, .complex .f64 prr im, .slice ta text.length tc, .slice pa p.len pc] 48))
  have HBK := hide (Blk.new w #[.int .i64 kind, .bool bb, .int .i64 n', .float .f64 re, .complex .f64 prr im, .slice ta text.length tc, .slice pa p.len pc] 48)
  have HLS0 := hide (LayS.refl (unhide HLB).own)
  have HNB : Hid (w.heap.size ∉ (Value.slice a n cap).ownBlock.toList) := by
    intro hm
    have := (ho.lt _ (by simpa using hm)).2
    omega
  unfold aggV
  obtain ⟨-, -, o1, o2, o3, o4, o5, -⟩ := hok
  simp only at *
  have HN := hide hn
  have HF := hide hf
  have HC := hide hC
  have HS := hide hS
  have HO := hide ho
  clear hn hf hC hS ho
  obtain ⟨X1, hX1⟩ : ∃ X1, bs ++ [kind.toNat] = X1 := ⟨_, rfl⟩
  have HX1 := hide hX1
  have HX1l : Hid (X1.length = n + 1) := by unfold Hid; rw [← hX1, List.length_append, unhide HN]; rfl
  have HX1b : Hid (bs.length + [kind.toNat].length ≤ 140737488355328) := by unfold Hid; rw [unhide HN]; simp; omega
  have HR : Hid (bs ++ (kind.toNat :: body ⟨kind, bb, n', re, prr, im, text⟩ (codeR p)) = X1 ++ body ⟨kind, bb, n', re, prr, im, text⟩ (codeR p)) := by unfold Hid; rw [← hX1]; simp
  rw [unhide HR]
  clear HR hX1
  generalize hPL : p.len = PL at *
  have HPL := hide hPL
  generalize hTL : text.length = TL at *
  have HTL := hide hTL
  clear hPL hTL
  subst hkk
  · have HLA := hide ((unhide HLS0).alloc (.cells #[.int .u8 4] 5))
    have HS1 : Hid (Sees (World.alloc (w.alloc (.cells #[.int .i64 4, .bool bb, .int .i64 n', .float .f64 re, .complex .f64 prr im, .slice ta TL tc, .slice pa PL pc] 48)) (.cells #[.int .u8 4] 5)) (.slice (some ⟨World.heap (w.alloc (.cells #[.int .i64 4, .bool bb, .int .i64 n', .float .f64 re, .complex .f64 prr im, .slice ta TL tc, .slice pa PL pc] 48)) |>.size, 0, none⟩) 1 1) [(4 : Int).toNat]) := sees_one _ 4 (by omega)
    simp only [World.size_alloc] at HS1
    have HBD : Hid (body ⟨4, bb, n', re, prr, im, text⟩ (codeR p) = be8 (placeR re)) := by unfold Hid body; simp
    rw [unhide HBD] at hl ⊢
    have HPI := hide (preal_any re o3)
    have hl2 : n + 1 + 8 ≤ 140737488355328 := by rw [be8_length] at hl; simp at hl; omega
    generalize placeR re = q at *
    go_enter Try.func35, Try.ntmps35
    go_wp2_with (at_builtin; refine wpList_append_lay _ rfl (.tmp 5) _ rfl rfl HLA rfl HS1 HX1b ((unhide HLA).hb ((unhide HLB).base hB)) (n + 1) X1 HX1 HX1l ?_)
    intro a2 c2 w2 HL2
    have HBK2 := hide ((unhide HBK).kept (unhide HL2).kept (unhide HNB))
    have HNB2 : Hid (w.heap.size ∉ (Value.slice a2 (n + 1) c2).ownBlock.toList) := by
      intro hm
      rcases (unhide HL2).place _ (by simpa using hm) with h | h
      · exact unhide HNB (by simp [h])
      · simp at h; omega
    replace HL2 := hide ((unhide HLB).trans (unhide HL2))
    obtain ⟨c0, c1, c2', c3', c4', c5, c6⟩ := blk7 (unhide HBK2)
    have HLW := hide (layWord_any (B := B) (w := w2) (a := a2) (n := n + 1) (cap := c2) (bs := X1) (by have := (unhide HL2).own; rw [unhide HX1l] at this; exact this) (unhide HX1l) ((unhide HL2).base hB) hl2 q)
    go_wp2_with (first | (go_at_call 42; refine (unhide HPI _).mono ?_; rintro e w' ⟨rfl, hq⟩; have hq' := hq.symm; subst hq') | (go_at_call 40; refine (unhide HLW).mono ?_; rintro e w3 ⟨a3, c3, rfl, hl3⟩; have HL3 := hide ((unhide HL2).trans hl3); clear hl3))
    go_ret
    exact ⟨a3, n + 1 + 8, c3, rfl, by rw [List.length_append, unhide HX1l]; rfl, unhide HL3⟩
set_option maxRecDepth 100000 in
set_option maxHeartbeats 4000000 in
theorem layValue_5 {S : Nat → Prop} {B : Nat} {w : World} {a : Option Addr} {n cap : Nat} {bs : List Nat} {h : Hd} {tv pv : Value} {p : Row} (ho : w.ownsRow B 5 1 (.slice a n cap) n (u8s bs)) (hn : bs.length = n) (hB : B ≤ w.heap.size) (hok : h.ok) (hkk : h.kind = 5) (ht : SeesIn S w tv h.text) (hp : RowV S w pv p) (hf : h.kind = 7 → fine p) (hC : LayC p) (hS : ∀ k, (Value.slice a n cap).ownBlock = some k → ¬ S k) (hl : n + 2 * (body h (codeR p)).length + 1 ≤ 140737488355328) :
    Calls Try.prog 35 #[.slice a n cap, aggV h tv pv] w fun e w' => ∃ a' n' cap', e = .returned (.slice a' n' cap') ∧ (bs ++ (h.kind.toNat :: body h (codeR p))).length = n' ∧ LayS B w (.slice a n cap) w' (.slice a' n' cap') (bs ++ (h.kind.toNat :: body h (codeR p))) := by
  have hsf := fun (w : World) (a : Addr) (m : Nat) (md : Mode) => run_store Try.prog w a (.float .f64 m) md rfl
  have hsc := fun (w : World) (a : Addr) (m n : Nat) (md : Mode) => run_store Try.prog w a (.complex .f64 m n) md rfl
  obtain ⟨kind, bb, n', re, prr, im, text⟩ := h
  have HT := hide ht
  have HP := hide hp
  obtain ⟨⟨ta, tc, htv, -⟩, -⟩ := ht
  obtain ⟨pa, pc, hpv, -⟩ := hp
  subst htv hpv
  have HLB := hide ((LayS.refl (bs := bs) (by rw [hn]; exact ho)).alloc (.cells #[.int .i64 kind, .bool bb, .int .i64 n', .float .f64 re, .complex .f64 prr im, .slice ta text.length tc, .slice pa p.len pc] 48))
  have HBK := hide (Blk.new w #[.int .i64 kind, .bool bb, .int .i64 n', .float .f64 re, .complex .f64 prr im, .slice ta text.length tc, .slice pa p.len pc] 48)
  have HLS0 := hide (LayS.refl (unhide HLB).own)
  have HNB : Hid (w.heap.size ∉ (Value.slice a n cap).ownBlock.toList) := by
    intro hm
    have := (ho.lt _ (by simpa using hm)).2
    omega
  unfold aggV
  obtain ⟨-, -, o1, o2, o3, o4, o5, -⟩ := hok
  simp only at *
  have HN := hide hn
  have HF := hide hf
  have HC := hide hC
  have HS := hide hS
  have HO := hide ho
  clear hn hf hC hS ho
  obtain ⟨X1, hX1⟩ : ∃ X1, bs ++ [kind.toNat] = X1 := ⟨_, rfl⟩
  have HX1 := hide hX1
  have HX1l : Hid (X1.length = n + 1) := by unfold Hid; rw [← hX1, List.length_append, unhide HN]; rfl
  have HX1b : Hid (bs.length + [kind.toNat].length ≤ 140737488355328) := by unfold Hid; rw [unhide HN]; simp; omega
  have HR : Hid (bs ++ (kind.toNat :: body ⟨kind, bb, n', re, prr, im, text⟩ (codeR p)) = X1 ++ body ⟨kind, bb, n', re, prr, im, text⟩ (codeR p)) := by unfold Hid; rw [← hX1]; simp
  rw [unhide HR]
  clear HR hX1
  generalize hPL : p.len = PL at *
  have HPL := hide hPL
  generalize hTL : text.length = TL at *
  have HTL := hide hTL
  clear hPL hTL
  subst hkk
  · have HLA := hide ((unhide HLS0).alloc (.cells #[.int .u8 5] 5))
    have HS1 : Hid (Sees (World.alloc (w.alloc (.cells #[.int .i64 5, .bool bb, .int .i64 n', .float .f64 re, .complex .f64 prr im, .slice ta TL tc, .slice pa PL pc] 48)) (.cells #[.int .u8 5] 5)) (.slice (some ⟨World.heap (w.alloc (.cells #[.int .i64 5, .bool bb, .int .i64 n', .float .f64 re, .complex .f64 prr im, .slice ta TL tc, .slice pa PL pc] 48)) |>.size, 0, none⟩) 1 1) [(5 : Int).toNat]) := sees_one _ 5 (by omega)
    simp only [World.size_alloc] at HS1
    have HBD : Hid (body ⟨5, bb, n', re, prr, im, text⟩ (codeR p) = be8 (placeR prr) ++ be8 (placeR im)) := by unfold Hid body; simp
    rw [unhide HBD] at hl ⊢
    have HPI := hide (preal_any prr o4)
    have HPJ := hide (preal_any im o5)
    have hl2 : n + 1 + 8 + 8 ≤ 140737488355328 := by rw [List.length_append, be8_length, be8_length] at hl; simp at hl; omega
    generalize placeR prr = q at *
    generalize placeR im = q2 at *
    rw [← List.append_assoc]
    obtain ⟨X2, hX2⟩ : ∃ X2, X1 ++ be8 q = X2 := ⟨_, rfl⟩
    have HX2 := hide hX2
    have HX2l : Hid (X2.length = n + 1 + 8) := by unfold Hid; rw [← hX2, List.length_append, unhide HX1l]; rfl
    rw [hX2]
    clear hX2
    go_enter Try.func35, Try.ntmps35
    go_wp2_with (at_builtin; refine wpList_append_lay _ rfl (.tmp 5) _ rfl rfl HLA rfl HS1 HX1b ((unhide HLA).hb ((unhide HLB).base hB)) (n + 1) X1 HX1 HX1l ?_)
    intro a2 c2 w2 HL2
    have HBK2 := hide ((unhide HBK).kept (unhide HL2).kept (unhide HNB))
    have HNB2 : Hid (w.heap.size ∉ (Value.slice a2 (n + 1) c2).ownBlock.toList) := by
      intro hm
      rcases (unhide HL2).place _ (by simpa using hm) with h | h
      · exact unhide HNB (by simp [h])
      · simp at h; omega
    replace HL2 := hide ((unhide HLB).trans (unhide HL2))
    obtain ⟨c0, c1, c2', c3', c4', c5, c6⟩ := blk7 (unhide HBK2)
    have HLW := hide (layWord_any (B := B) (w := w2) (a := a2) (n := n + 1) (cap := c2) (bs := X1) (by have := (unhide HL2).own; rw [unhide HX1l] at this; exact this) (unhide HX1l) ((unhide HL2).base hB) (by omega) q)
    rw [unhide HX2] at HLW
    go_wp2_with (first | (go_at_call 42; refine (unhide HPI _).mono ?_; rintro e w' ⟨rfl, hq⟩; have hq' := hq.symm; subst hq'; clear HPI) | (go_at_call 42; refine (unhide HPJ _).mono ?_; rintro e w' ⟨rfl, hq⟩; have hq' := hq.symm; subst hq') | (go_at_call 40; refine (unhide HLW).mono ?_; rintro e w3 ⟨a3, c3, rfl, hl3⟩; have HL3 := hide ((unhide HL2).trans hl3); have hbk3 := (unhide HBK2).kept hl3.kept (unhide HNB2); have c43 := (blk7 hbk3).2.2.2.2.1; clear hl3 hbk3; have HLW2 := hide (layWord_any (B := B) (w := w3) (a := a3) (n := n + 1 + 8) (cap := c3) (bs := X2) (by have := (unhide HL3).own; rw [unhide HX2l] at this; exact this) (unhide HX2l) ((unhide HL3).base hB) (by omega) q2); clear HLW) | (go_at_call 40; refine (unhide HLW2).mono ?_; rintro e w4 ⟨a4, c4, rfl, hl4⟩; have HL4 := hide ((unhide HL3).trans hl4); clear hl4))
    go_ret
    exact ⟨a4, n + 1 + 8 + 8, c4, rfl, by rw [List.length_append, unhide HX2l]; rfl, unhide HL4⟩
set_option maxRecDepth 100000 in
set_option maxHeartbeats 4000000 in
theorem layValue_6 {S : Nat → Prop} {B : Nat} {w : World} {a : Option Addr} {n cap : Nat} {bs : List Nat} {h : Hd} {tv pv : Value} {p : Row} (ho : w.ownsRow B 5 1 (.slice a n cap) n (u8s bs)) (hn : bs.length = n) (hB : B ≤ w.heap.size) (hok : h.ok) (hkk : h.kind = 6) (ht : SeesIn S w tv h.text) (hp : RowV S w pv p) (hf : h.kind = 7 → fine p) (hC : LayC p) (hS : ∀ k, (Value.slice a n cap).ownBlock = some k → ¬ S k) (hl : n + 2 * (body h (codeR p)).length + 1 ≤ 140737488355328) :
    Calls Try.prog 35 #[.slice a n cap, aggV h tv pv] w fun e w' => ∃ a' n' cap', e = .returned (.slice a' n' cap') ∧ (bs ++ (h.kind.toNat :: body h (codeR p))).length = n' ∧ LayS B w (.slice a n cap) w' (.slice a' n' cap') (bs ++ (h.kind.toNat :: body h (codeR p))) := by
  have hsf := fun (w : World) (a : Addr) (m : Nat) (md : Mode) => run_store Try.prog w a (.float .f64 m) md rfl
  have hsc := fun (w : World) (a : Addr) (m n : Nat) (md : Mode) => run_store Try.prog w a (.complex .f64 m n) md rfl
  obtain ⟨kind, bb, n', re, prr, im, text⟩ := h
  have HT := hide ht
  have HP := hide hp
  obtain ⟨⟨ta, tc, htv, -⟩, -⟩ := ht
  obtain ⟨pa, pc, hpv, -⟩ := hp
  subst htv hpv
  have HLB := hide ((LayS.refl (bs := bs) (by rw [hn]; exact ho)).alloc (.cells #[.int .i64 kind, .bool bb, .int .i64 n', .float .f64 re, .complex .f64 prr im, .slice ta text.length tc, .slice pa p.len pc] 48))
  have HBK := hide (Blk.new w #[.int .i64 kind, .bool bb, .int .i64 n', .float .f64 re, .complex .f64 prr im, .slice ta text.length tc, .slice pa p.len pc] 48)
  have HLS0 := hide (LayS.refl (unhide HLB).own)
  have HNB : Hid (w.heap.size ∉ (Value.slice a n cap).ownBlock.toList) := by
    intro hm
    have := (ho.lt _ (by simpa using hm)).2
    omega
  unfold aggV
  obtain ⟨-, -, o1, o2, o3, o4, o5, -⟩ := hok
  simp only at *
  have HN := hide hn
  have HF := hide hf
  have HC := hide hC
  have HS := hide hS
  have HO := hide ho
  clear hn hf hC hS ho
  obtain ⟨X1, hX1⟩ : ∃ X1, bs ++ [kind.toNat] = X1 := ⟨_, rfl⟩
  have HX1 := hide hX1
  have HX1l : Hid (X1.length = n + 1) := by unfold Hid; rw [← hX1, List.length_append, unhide HN]; rfl
  have HX1b : Hid (bs.length + [kind.toNat].length ≤ 140737488355328) := by unfold Hid; rw [unhide HN]; simp; omega
  have HR : Hid (bs ++ (kind.toNat :: body ⟨kind, bb, n', re, prr, im, text⟩ (codeR p)) = X1 ++ body ⟨kind, bb, n', re, prr, im, text⟩ (codeR p)) := by unfold Hid; rw [← hX1]; simp
  rw [unhide HR]
  clear HR hX1
  generalize hPL : p.len = PL at *
  have HPL := hide hPL
  generalize hTL : text.length = TL at *
  have HTL := hide hTL
  clear hPL hTL
  subst hkk
  · have HLA := hide ((unhide HLS0).alloc (.cells #[.int .u8 6] 5))
    have HS1 : Hid (Sees (World.alloc (w.alloc (.cells #[.int .i64 6, .bool bb, .int .i64 n', .float .f64 re, .complex .f64 prr im, .slice ta TL tc, .slice pa PL pc] 48)) (.cells #[.int .u8 6] 5)) (.slice (some ⟨World.heap (w.alloc (.cells #[.int .i64 6, .bool bb, .int .i64 n', .float .f64 re, .complex .f64 prr im, .slice ta TL tc, .slice pa PL pc] 48)) |>.size, 0, none⟩) 1 1) [(6 : Int).toNat]) := sees_one _ 6 (by omega)
    simp only [World.size_alloc] at HS1
    have HBD : Hid (body ⟨6, bb, n', re, prr, im, text⟩ (codeR p) = esc text ++ [0]) := by unfold Hid body; simp
    rw [unhide HBD] at hl ⊢
    have hl2 : n + 1 + 2 * TL + 1 ≤ 140737488355328 := by have := esc_ge text; rw [unhide HTL] at this; rw [List.length_append] at hl; simp at hl; omega
    go_enter Try.func35, Try.ntmps35
    go_wp2_with (at_builtin; refine wpList_append_lay _ rfl (.tmp 5) _ rfl rfl HLA rfl HS1 HX1b ((unhide HLA).hb ((unhide HLB).base hB)) (n + 1) X1 HX1 HX1l ?_)
    intro a2 c2 w2 HL2
    have HBK2 := hide ((unhide HBK).kept (unhide HL2).kept (unhide HNB))
    have HNB2 : Hid (w.heap.size ∉ (Value.slice a2 (n + 1) c2).ownBlock.toList) := by
      intro hm
      rcases (unhide HL2).place _ (by simpa using hm) with h | h
      · exact unhide HNB (by simp [h])
      · simp at h; omega
    replace HL2 := hide ((unhide HLB).trans (unhide HL2))
    obtain ⟨c0, c1, c2', c3', c4', c5, c6⟩ := blk7 (unhide HBK2)
    have HTT := hide ((unhide HL2).sees (unhide HS) (unhide HT))
    have HLT := hide (layText_any (B := B) (w := w2) (a := a2) (n := n + 1) (cap := c2) (bs := X1) (by have := (unhide HL2).own; rw [unhide HX1l] at this; exact this) (unhide HX1l) ((unhide HL2).base hB) (unhide HTT) ((unhide HL2).avoid (unhide HS)) (by rw [unhide HTL]; exact hl2))
    go_wp2_with (first | (go_at_call 43; refine (unhide HLT).mono ?_; rintro e w3 ⟨a3, n3, c3, rfl, hn3, hl3⟩; have HL3 := hide ((unhide HL2).trans hl3); have HN3 := hide hn3; clear hl3 hn3))
    go_ret
    exact ⟨a3, n3, c3, rfl, (unhide HN3).symm, unhide HL3⟩
set_option maxRecDepth 100000 in
set_option maxHeartbeats 4000000 in
theorem layValue_7 {S : Nat → Prop} {B : Nat} {w : World} {a : Option Addr} {n cap : Nat} {bs : List Nat} {h : Hd} {tv pv : Value} {p : Row} (ho : w.ownsRow B 5 1 (.slice a n cap) n (u8s bs)) (hn : bs.length = n) (hB : B ≤ w.heap.size) (hok : h.ok) (hkk : h.kind = 7) (ht : SeesIn S w tv h.text) (hp : RowV S w pv p) (hf : h.kind = 7 → fine p) (hC : LayC p) (hS : ∀ k, (Value.slice a n cap).ownBlock = some k → ¬ S k) (hl : n + 2 * (body h (codeR p)).length + 1 ≤ 140737488355328) :
    Calls Try.prog 35 #[.slice a n cap, aggV h tv pv] w fun e w' => ∃ a' n' cap', e = .returned (.slice a' n' cap') ∧ (bs ++ (h.kind.toNat :: body h (codeR p))).length = n' ∧ LayS B w (.slice a n cap) w' (.slice a' n' cap') (bs ++ (h.kind.toNat :: body h (codeR p))) := by
  have hsf := fun (w : World) (a : Addr) (m : Nat) (md : Mode) => run_store Try.prog w a (.float .f64 m) md rfl
  have hsc := fun (w : World) (a : Addr) (m n : Nat) (md : Mode) => run_store Try.prog w a (.complex .f64 m n) md rfl
  obtain ⟨kind, bb, n', re, prr, im, text⟩ := h
  have HT := hide ht
  have HP := hide hp
  obtain ⟨⟨ta, tc, htv, -⟩, -⟩ := ht
  obtain ⟨pa, pc, hpv, -⟩ := hp
  subst htv hpv
  have HLB := hide ((LayS.refl (bs := bs) (by rw [hn]; exact ho)).alloc (.cells #[.int .i64 kind, .bool bb, .int .i64 n', .float .f64 re, .complex .f64 prr im, .slice ta text.length tc, .slice pa p.len pc] 48))
  have HBK := hide (Blk.new w #[.int .i64 kind, .bool bb, .int .i64 n', .float .f64 re, .complex .f64 prr im, .slice ta text.length tc, .slice pa p.len pc] 48)
  have HLS0 := hide (LayS.refl (unhide HLB).own)
  have HNB : Hid (w.heap.size ∉ (Value.slice a n cap).ownBlock.toList) := by
    intro hm
    have := (ho.lt _ (by simpa using hm)).2
    omega
  unfold aggV
  obtain ⟨-, -, o1, o2, o3, o4, o5, -⟩ := hok
  simp only at *
  have HN := hide hn
  have HF := hide hf
  have HC := hide hC
  have HS := hide hS
  have HO := hide ho
  clear hn hf hC hS ho
  obtain ⟨X1, hX1⟩ : ∃ X1, bs ++ [kind.toNat] = X1 := ⟨_, rfl⟩
  have HX1 := hide hX1
  have HX1l : Hid (X1.length = n + 1) := by unfold Hid; rw [← hX1, List.length_append, unhide HN]; rfl
  have HX1b : Hid (bs.length + [kind.toNat].length ≤ 140737488355328) := by unfold Hid; rw [unhide HN]; simp; omega
  have HR : Hid (bs ++ (kind.toNat :: body ⟨kind, bb, n', re, prr, im, text⟩ (codeR p)) = X1 ++ body ⟨kind, bb, n', re, prr, im, text⟩ (codeR p)) := by unfold Hid; rw [← hX1]; simp
  rw [unhide HR]
  clear HR hX1
  generalize hPL : p.len = PL at *
  have HPL := hide hPL
  generalize hTL : text.length = TL at *
  have HTL := hide hTL
  clear hPL hTL
  subst hkk
  · have HLA := hide ((unhide HLS0).alloc (.cells #[.int .u8 7] 5))
    have HS1 : Hid (Sees (World.alloc (w.alloc (.cells #[.int .i64 7, .bool bb, .int .i64 n', .float .f64 re, .complex .f64 prr im, .slice ta TL tc, .slice pa PL pc] 48)) (.cells #[.int .u8 7] 5)) (.slice (some ⟨World.heap (w.alloc (.cells #[.int .i64 7, .bool bb, .int .i64 n', .float .f64 re, .complex .f64 prr im, .slice ta TL tc, .slice pa PL pc] 48)) |>.size, 0, none⟩) 1 1) [(7 : Int).toNat]) := sees_one _ 7 (by omega)
    simp only [World.size_alloc] at HS1
    have HBD : Hid (body ⟨7, bb, n', re, prr, im, text⟩ (codeR p) = codeR p ++ [0]) := by unfold Hid body; simp
    rw [unhide HBD] at hl ⊢
    have hl2 : n + 1 + 2 * (codeR p).length + 1 ≤ 140737488355328 := by simp at hl; omega
    rw [← List.append_assoc]
    have hXl : (X1 ++ codeR p).length = n + 1 + (codeR p).length := by rw [List.length_append, unhide HX1l]
    have HXL := hide hXl
    clear hXl
    obtain ⟨X2, hX2⟩ : ∃ X2, X1 ++ codeR p = X2 := ⟨_, rfl⟩
    rw [hX2] at HXL ⊢
    have HX2 := hide hX2
    clear hX2
    obtain ⟨X3, hX3⟩ : ∃ X3, X2 ++ [0] = X3 := ⟨_, rfl⟩
    rw [hX3]
    have HX3 := hide hX3
    have HX3l : Hid (X3.length = X2.length + 1) := by unfold Hid; rw [← hX3]; simp
    have HX3b : Hid (X2.length + [0].length ≤ 140737488355328) := by unfold Hid; rw [unhide HXL]; simp; omega
    clear hX3
    go_enter Try.func35, Try.ntmps35
    go_wp2_with (at_builtin; refine wpList_append_lay _ rfl (.tmp 5) _ rfl rfl HLA rfl HS1 HX1b ((unhide HLA).hb ((unhide HLB).base hB)) (n + 1) X1 HX1 HX1l ?_)
    intro a2 c2 w2 HL2
    have HBK2 := hide ((unhide HBK).kept (unhide HL2).kept (unhide HNB))
    have HNB2 : Hid (w.heap.size ∉ (Value.slice a2 (n + 1) c2).ownBlock.toList) := by
      intro hm
      rcases (unhide HL2).place _ (by simpa using hm) with h | h
      · exact unhide HNB (by simp [h])
      · simp at h; omega
    replace HL2 := hide ((unhide HLB).trans (unhide HL2))
    obtain ⟨c0, c1, c2', c3', c4', c5, c6⟩ := blk7 (unhide HBK2)
    have HRW := hide ((unhide HL2).row (unhide HS) (unhide HP))
    have HLR := hide (unhide HC _ B w2 a2 (n + 1) c2 X1 _ (by have := (unhide HL2).own; rw [unhide HX1l] at this; exact this) (unhide HX1l) ((unhide HL2).base hB) (unhide HRW) ((unhide HL2).avoid (unhide HS)) (unhide HF (by first | trivial | rfl)) (by omega))
    rw [unhide HX2] at HLR
    go_wp2_with (first | (go_at_call 27; refine (unhide HLR).mono ?_; rintro e w3 ⟨a3, n3, c3, rfl, hn3, hl3⟩; have HL3 := hide (((unhide HL2).trans hl3).alloc (.cells #[.int .u8 0] 5)); clear hl3; rw [hn3] at HX3l; clear hn3; have HS3 : Hid (Sees (w3.alloc (.cells #[.int .u8 0] 5)) (.slice (some ⟨w3.heap.size, 0, none⟩) 1 1) [0]) := sees_one w3 0 (by omega)) | (at_builtin; refine wpList_append_lay _ rfl _ _ rfl rfl HL3 rfl HS3 HX3b ((unhide HL3).hb hB) (n3 + 1) X3 HX3 HX3l ?_))
    intro a4 c4 w4 HL4
    go_wp2
    go_ret
    exact ⟨a4, n3 + 1, c4, rfl, unhide HX3l, unhide HL4⟩

theorem layValue_any {S : Nat → Prop} {B : Nat} {w : World} {a : Option Addr} {n cap : Nat} {bs : List Nat} {h : Hd} {tv pv : Value} {p : Row} (ho : w.ownsRow B 5 1 (.slice a n cap) n (u8s bs)) (hn : bs.length = n) (hB : B ≤ w.heap.size) (hok : h.ok) (hk1 : 1 ≤ h.kind) (hk7 : h.kind ≤ 7) (ht : SeesIn S w tv h.text) (hp : RowV S w pv p) (hf : h.kind = 7 → fine p) (hC : LayC p) (hS : ∀ k, (Value.slice a n cap).ownBlock = some k → ¬ S k) (hl : n + 2 * (body h (codeR p)).length + 1 ≤ 140737488355328) :
    Calls Try.prog 35 #[.slice a n cap, aggV h tv pv] w fun e w' => ∃ a' n' cap', e = .returned (.slice a' n' cap') ∧ (bs ++ (h.kind.toNat :: body h (codeR p))).length = n' ∧ LayS B w (.slice a n cap) w' (.slice a' n' cap') (bs ++ (h.kind.toNat :: body h (codeR p))) := by
  obtain e | e | e | e | e | e | e : h.kind = 1 ∨ h.kind = 2 ∨ h.kind = 3 ∨ h.kind = 4 ∨ h.kind = 5 ∨ h.kind = 6 ∨ h.kind = 7 := by omega
  · exact layValue_1 ho hn hB hok e ht hp hf hC hS hl
  · exact layValue_2 ho hn hB hok e ht hp hf hC hS hl
  · exact layValue_3 ho hn hB hok e ht hp hf hC hS hl
  · exact layValue_4 ho hn hB hok e ht hp hf hC hS hl
  · exact layValue_5 ho hn hB hok e ht hp hf hC hS hl
  · exact layValue_6 ho hn hB hok e ht hp hf hC hS hl
  · exact layValue_7 ho hn hB hok e ht hp hf hC hS hl

set_option maxRecDepth 100000 in
set_option maxHeartbeats 1000000 in
theorem layRow_any (r : Row) : LayC r := by
  refine Row.parts_ind (fun r hC => ?_) r
  intro S B w a n cap bs rv ho hn hB hr hS hf hl
  have HR := hide hr
  obtain ⟨ra, rc, rfl, h1, h2, h3⟩ := hr
  have hml : r.len ≤ 9223372036854775807 := by unfold maxLen at h2; omega
  have H3 := hide h3
  have HC := hide hC
  have HO := hide ho
  have HN := hide hn
  have HS := hide hS
  have HF := hide hf
  clear h3 hC ho hn hS hf
  generalize hL : r.len = L at *
  have HL := hide hL
  clear hL
  have hsf := fun (w : World) (a : Addr) (m : Nat) (md : Mode) => run_store Try.prog w a (.float .f64 m) md rfl
  have hsc := fun (w : World) (a : Addr) (m n : Nat) (md : Mode) => run_store Try.prog w a (.complex .f64 m n) md rfl
  have HCL := hide hl
  clear hl
  go_enter Try.func27, Try.ntmps27
  go_wp2_with fail
  go_loopw [0, 9] (fun p i wr => ∃ (k : Nat) (s : Row) (a' : Option Addr) (n' cap' : Nat) (X : List Nat), i = .int .i64 k ∧ p = .slice a' n' cap' ∧ k + s.len = L ∧ X ++ codeR s = bs ++ codeR r ∧ X.length = n' ∧ n ≤ n' ∧ fine s ∧ PartsOk LayC s ∧ (s = .nil ∨ ∃ b off, ra = some ⟨b, off, none⟩ ∧ b < w.heap.size ∧ S b ∧ AtV S w s b (off + k * 7)) ∧ LayS B w (.slice a n cap) wr (.slice a' n' cap') X) (fun _ i _ => L - (intOf i).toNat)
  case atStart => exact ⟨0, r, a, n, cap, bs, rfl, rfl, by rw [unhide HL]; omega, rfl, unhide HN, Nat.le_refl _, unhide HF, unhide HC, by
      rcases unhide H3 with h | ⟨b, off, q1, q2, q4, q3⟩
      · exact Or.inl h
      · exact Or.inr ⟨b, off, q1, q2, q4, by simpa using q3⟩, LayS.refl (by rw [unhide HN]; exact unhide HO)⟩
  case round =>
    obtain ⟨k, s, a', n', cap', X, rfl, rfl, hk, hX, hXl, hnn, hfs, hps, hat, hls⟩ := hrel
    have HLS := hide hls
    have HX := hide hX
    have HXL := hide hXl
    clear hls hX hXl
    cases s with
    | nil =>
      simp only [Row.len, Nat.add_zero] at hk
      subst hk
      have hx2 : X = bs ++ codeR r := by have := unhide HX; simpa [codeR] using this
      subst hx2
      have t1 : ((k : Int) < (k : Int)) = False := by simp
      go_wp2
      go_ret
      exact ⟨a', n', cap', rfl, by have := unhide HXL; simpa using this, unhide HLS⟩
    | cons h p s =>
      simp only [Row.len] at hk
      obtain ⟨hC1, hC2⟩ := hps
      obtain ⟨f1, f2, f3, f4⟩ := hfs
      rcases hat with hat | ⟨b, off, hra, hb, hSb, hat⟩
      · cases hat
      subst hra
      rw [AtV_cons] at hat
      obtain ⟨⟨hok, tv, pv, hc, ht, hpv⟩, hrest⟩ := hat
      have hbF : b ∉ (Value.slice a n cap).ownBlock.toList := fun hm => unhide HS b (by simpa using hm) hSb
      have hc' := hc.kept (unhide HLS).kept hb hbF
      have ht' := (unhide HLS).sees (unhide HS) ht
      have hp' := (unhide HLS).row (unhide HS) hpv
      have HAT : Hid (s = .nil ∨ ∃ b' off', (some ⟨b, off, none⟩ : Option Addr) = some ⟨b', off', none⟩ ∧ b' < w.heap.size ∧ S b' ∧ AtV S w s b' (off' + (k + 1) * 7)) := Or.inr ⟨b, off, rfl, hb, hSb, by rw [show off + (k + 1) * 7 = off + k * 7 + 7 by omega]; exact hrest⟩
      rw [codeR_cons, ← List.append_assoc] at HX
      have hlen : n' + 2 * (body h (codeR p)).length + 1 ≤ 140737488355328 := by
        have e1 := congrArg List.length (unhide HX)
        have e2 := unhide HCL
        have e3 := unhide HN
        simp only [List.length_append, List.length_cons] at e1
        rw [unhide HXL, e3] at e1
        omega
      have W0 : Hid (LayS B w (.slice a n cap) (wr.alloc (.cells #[.int .i64 h.kind, .bool h.b, .int .i64 h.n, .float .f64 h.re, .complex .f64 h.pr h.im, tv, pv] 48)) (.slice a' n' cap') X) := (unhide HLS).alloc _
      have k0 : Kept [] wr (wr.alloc (.cells #[.int .i64 h.kind, .bool h.b, .int .i64 h.n, .float .f64 h.re, .complex .f64 h.pr h.im, tv, pv] 48)) := (Kept.refl [] wr).alloc _
      have HLV := hide (layValue_any (B := B) (by have := (unhide W0).own; rw [unhide HXL] at this; exact this) (unhide HXL) ((unhide W0).base hB) hok f1 f2 (ht'.kept k0 (by simp)) (hp'.kept k0 (by simp)) f3 hC1 ((unhide HLS).avoid (unhide HS)) hlen)
      have HC2 := hide hC2
      have HF4 := hide f4
      obtain ⟨c0, c1, c2, c3, c4, c5, c6⟩ := hc'
      obtain ⟨pa, pc, hpv1, -⟩ := hpv
      obtain ⟨⟨ta, tc, htv1, -⟩, -⟩ := ht
      clear hrest hC1 hC2 hp' ht' hc f4 f3 hok f1 f2 k0 hbF hlen
      subst hpv1 htv1
      generalize p.len = PL at *
      obtain ⟨kind, bb, nn, re, prr, im, text⟩ := h
      unfold aggV at HLV
      simp only at *
      generalize text.length = TL at *
      have t1 : (k : Int) < (L : Int) := by omega
      generalize hcd : kind.toNat :: body ⟨kind, bb, nn, re, prr, im, text⟩ (codeR p) = cd at *
      clear hcd
      go_wp2_with (first | (go_at_call 35; refine (unhide HLV).mono ?_; rintro e w3 ⟨a3, n3, c3', rfl, hn3, hl3⟩; have HL3 := hide ((unhide W0).trans hl3); have HN3 := hide hn3; have hnn3 : n ≤ n3 := (by rw [List.length_append, unhide HXL] at hn3; omega); clear hl3 hn3))
      exact ⟨⟨k + 1, s, a3, n3, c3', X ++ cd, by simp, rfl, by omega, unhide HX, unhide HN3, hnn3, unhide HF4, unhide HC2, unhide HAT, unhide HL3⟩, by simp [intOf]; omega⟩

set_option maxRecDepth 100000 in
set_option maxHeartbeats 1000000 in
/-- Encode -/
theorem encode_any {S : Nat → Prop} {w : World} {v : Value} {r : Row} (hr : RowV S w v r) (hl : 2 * (codeR r).length ≤ 140737488355328) :
    Calls Try.prog 10 #[v] w fun e w' => Kept [] w w' ∧ ((faultR r 0 = 0 ∧ ∃ a n cap, e = .returned (.tuple #[.slice a n cap, .int .i64 0]) ∧ (codeR r).length = n ∧ w'.ownsRow w.heap.size 5 1 (.slice a n cap) n (u8s (codeR r))) ∨ (faultR r 0 ≠ 0 ∧ e = .returned (.tuple #[.slice none 0 0, .int .i64 (faultR r 0 : Nat)]))) := by
  have HFA := hide (fault_any r S w v 0 hr (by omega))
  have HR := hide hr
  obtain ⟨a, cap, rfl, -⟩ := hr
  generalize r.len = L at *
  by_cases hf : faultR r 0 = 0
  · rw [hf] at HFA
    have HF := hide hf
    clear hf
    go_enter Try.func10, Try.ntmps10
    go_wp2_with (first | (go_at_call 26; refine (unhide HFA).mono ?_; rintro e w1 ⟨rfl, hk1⟩; have HK1 := hide hk1; have HLR := hide (layRow_any r (Old S w) w1.heap.size w1 none 0 0 [] _ (own_nil w1 _) rfl (Nat.le_refl _) ((unhide HR).old.kept hk1 (by simp)) (by simp [Value.ownBlock]) (fine_of_fault (unhide HF)) (by omega)); clear hk1) | (go_at_call 27; refine (unhide HLR).mono ?_; rintro e w2 ⟨a2, n2, c2, rfl, hn2, hl2⟩; have HL2 := hide hl2; have HN2 := hide hn2; clear hl2 hn2))
    go_ret2
    refine ⟨(unhide HK1).trans (unhide HL2).kept (by simp [Value.ownBlock]), Or.inl ⟨unhide HF, a2, n2, c2, rfl, ?_, ?_⟩⟩
    · have := unhide HN2; simpa using this
    · have h1 := (unhide HL2).own
      have h2 := unhide HN2
      rw [List.nil_append] at h1 h2
      rw [h2] at h1
      rcases h1.2 with ⟨q1, q2⟩ | ⟨g, cap', cur, q1, q2, q3⟩
      · exact ⟨h1.1, Or.inl ⟨q1, q2⟩⟩
      · exact ⟨h1.1, Or.inr ⟨g, cap', cur, q1, Nat.le_trans (unhide HK1).size q2, q3⟩⟩
  · have hlt := faultR_lt r 0
    have HF := hide hf
    clear hf HR
    generalize faultR r 0 = fp at *
    have t3 : ((fp : Int) != 0) = true := by have := unhide HF; simp; omega
    go_enter Try.func10, Try.ntmps10
    go_wp2_with (first | (go_at_call 26; refine (unhide HFA).mono ?_; rintro e w1 ⟨rfl, hk1⟩; have HK1 := hide hk1; clear hk1))
    go_ret2
    exact ⟨unhide HK1, Or.inr ⟨unhide HF, rfl⟩⟩
end Go.Proofs.Ytigmofbammofbab
