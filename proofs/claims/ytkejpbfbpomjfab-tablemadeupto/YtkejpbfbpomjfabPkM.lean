/- Texts laid one behind the other: CSiz CTab CTabB. -/
import Derived.Test.YtkejpbfbpomjfabPkL
import Derived.Test.YtkejpbfbpomjfabPkF
import Derived.Laws.Bits64b
import Derived.Deep.RegionHeld3
import Derived.Test.YtkejpbfbpomjfabPkJ
/- Sizes of numbers, texts and rows in the form. -/
namespace Go.Proofs.Ytkejpbfbpomjfab.tre
open Go.RowKit

theorem or_half (n : Nat) : (n ||| 1) / 2 = n / 2 := by rw [Nat.or_div_two]; simp
theorem or_pos (n : Nat) : n ||| 1 ≠ 0 := by
  intro h
  have := Nat.or_mod_two_eq_one (a := n) (b := 1)
  rw [h] at this
  simp at this
theorem bits7 : ∀ n : Fin 128, (Lib.bitLen (n.val ||| 1) + 6) / 7 = 1 := by decide +kernel
theorem or_lt {n : Nat} (h : n < 9223372036854775808) : n ||| 1 < 18446744073709551616 := by
  have := or_half n
  omega
theorem bits_form (n : Nat) : n < 9223372036854775808 → (Lib.bitLen (n ||| 1) + 6) / 7 = (form n).length := by
  induction n using Nat.strongRecOn with
  | _ n ih =>
    intro h
    by_cases hs : n < 128
    · rw [form_small hs]; exact bits7 ⟨n, hs⟩
    · have ho := or_half n
      have hl := or_lt h
      have hd : (n ||| 1) / 2 ^ 7 = n / 128 := by omega
      rw [Lib.bitLen_shift 7 (n ||| 1) (by omega) hl, hd]
      have h1 : n / 128 ≠ 0 := by omega
      have he : Lib.bitLen (n / 128) = Lib.bitLen (n / 128 ||| 1) := by
        have h2 := or_lt (n := n / 128) (by omega)
        rw [Lib.bitLen_half _ h1 (by omega), Lib.bitLen_half _ (or_pos _) h2, or_half]
      have := ih (n / 128) (by omega) (by omega)
      rw [he, form_big (by omega), List.length_cons, ← this]
      omega
theorem bits_le (n : Nat) (h : n < 9223372036854775808) : Lib.bitLen (n ||| 1) ≤ 70 := by
  have h1 := bits_form n h
  have h2 := form_le10 n (by omega)
  omega
set_option maxRecDepth 100000 in
theorem sizeOfNum_any (w : World) (n : Nat) (h : n < 9223372036854775808) : Calls Try.prog 61 #[.int .i64 (n : Int)] w fun e w' => e = .returned (.int .i64 ((form n).length : Int)) ∧ w' = w := by
  have HL := fun W => hide (len64_any W ((n ||| 1 : Nat) : Int) (by omega) (by have := or_lt h; omega))
  have hb := bits_form n h
  have hl := bits_le n h
  rw [Int.toNat_natCast] at HL
  generalize Lib.bitLen (n ||| 1) = L at *
  have ho : bits .or .u64 (n : Int) 1 = ((n ||| 1 : Nat) : Int) := bits_or_u64_nat n 1 (by omega) (by omega)
  have hq : ((L : Int) + 6) / 7 = ((form n).length : Int) := by omega
  clear hb
  go_enter Try.func61, Try.ntmps61
  go_wp2_with (first | (go_at_call 80; refine (unhide (HL _)).mono ?_; rintro e w3 ⟨rfl, hq3⟩; have hq' := hq3.symm; subst hq'))
  go_ret
  refine ⟨ret_int ?_, rfl⟩
  omega
set_option maxRecDepth 100000 in
theorem sizeOfText_any (w : World) (t : ByteArray) (h : t.size ≤ 1048576) : Calls Try.prog 86 #[.string t] w fun e w' => e = .returned (.int .i64 (((form t.size).length + t.size : Nat) : Int)) ∧ w' = w := by
  have HN := hide (sizeOfNum_any w t.size (by omega))
  have h10 := form_le10 t.size (by omega)
  generalize (form t.size).length = f at *
  go_enter Try.func86, Try.ntmps86
  go_wp2_with (first | (go_at_call 61; refine (unhide HN).mono ?_; rintro e w3 ⟨rfl, hq3⟩; have hq' := hq3.symm; subst hq'))
  go_ret
  refine ⟨ret_int ?_, rfl⟩
  omega
/-- how many bytes a row has in the form -/
def rowSz (e : ByteArray × VT) : Nat := (form e.1.size).length + e.1.size + ((form e.2.1.size).length + e.2.1.size) + (form e.2.2.toNat).length
set_option maxRecDepth 100000 in
theorem sizeOfRow_any (w : World) (k : ByteArray) (x : VT) (hk : k.size ≤ 1048576) (hx : x.1.size ≤ 1048576) (h0 : 0 ≤ x.2) (h1 : x.2 ≤ 1099511627776) : Calls Try.prog 73 #[.string k, .agg #[.string x.1, .int .i64 x.2]] w fun e w' => e = .returned (.int .i64 (rowSz (k, x) : Int)) ∧ Kept [] w w' := by
  obtain ⟨x1, x2⟩ := x
  obtain ⟨n, rfl⟩ : ∃ n : Nat, x2 = (n : Int) := ⟨x2.toNat, by simp only at h0; omega⟩
  have HK := fun W => hide (sizeOfText_any W k hk)
  have HX := fun W => hide (sizeOfText_any W x1 hx)
  have HN := fun W => hide (sizeOfNum_any W n (by simp only at h1; omega))
  have hf1 := form_le10 k.size (by omega)
  have hf2 := form_le10 x1.size (by simp only at hx; omega)
  have hf3 := form_le10 n (by simp only at h1; omega)
  unfold rowSz
  simp only [Int.toNat_natCast]
  simp only at hx
  generalize (form k.size).length = f1 at *
  generalize (form x1.size).length = f2 at *
  generalize (form n).length = f3 at *
  generalize k.size = s1 at *
  generalize x1.size = s2 at *
  have hbx := Blk.new w #[.string x1, .int .i64 (n : Int)] 73
  have d0 : (w.alloc (.cells #[.string x1, .int .i64 (n : Int)] 73)).cell? ⟨w.heap.size, 0, none⟩ = some (.string x1) := hbx.cell 0
  have d1 : (w.alloc (.cells #[.string x1, .int .i64 (n : Int)] 73)).cell? ⟨w.heap.size, 1, none⟩ = some (.int .i64 (n : Int)) := hbx.cell 1
  clear hbx
  go_enter Try.func73, Try.ntmps73
  go_wp2_with fail
  go_region_held3 (fun w' => w'.cell? ⟨w.heap.size, 0, none⟩ = some (.string x1) ∧ w'.cell? ⟨w.heap.size, 1, none⟩ = some (.int .i64 (n : Int))) (go_keep) (first
    | (go_at_call 86; refine (unhide (HK _)).mono ?_; rintro e w3 ⟨rfl, hq3⟩; have hq' := hq3.symm; subst hq'; clear HK)
    | (go_at_call 86; refine (unhide (HX _)).mono ?_; rintro e w3 ⟨rfl, hq3⟩; have hq' := hq3.symm; subst hq')
    | (go_at_call 61; refine (unhide (HN _)).mono ?_; rintro e w3 ⟨rfl, hq3⟩; have hq' := hq3.symm; subst hq'))
  all_goals go_wp2
  all_goals
    go_ret
    refine ⟨ret_int ?_, ((Kept.refl _ _).alloc _).drew⟩
    (try simp only [IntKind.wrap_i64])
    omega
end Go.Proofs.Ytkejpbfbpomjfab.tre

/- A table in memory: its rows, a row taken out, a row put in. -/
namespace Go.Proofs.Ytkejpbfbpomjfab.tre
open Go.RowKit

structure Tb where
  t : TI
  rev : Nat
def bodyOf (L : List (ByteArray × VT)) : Nat := (L.map rowSz).sum
theorem body_app (A B : List (ByteArray × VT)) : bodyOf (A ++ B) = bodyOf A + bodyOf B := by simp [bodyOf]
theorem body_cons (e : ByteArray × VT) (B : List (ByteArray × VT)) : bodyOf (e :: B) = rowSz e + bodyOf B := by simp [bodyOf]
/-- a row that may be -/
def Rw (e : ByteArray × VT) : Prop := e.1.size ≤ 64 ∧ e.2.1.size ≤ 256 ∧ 0 ≤ e.2.2 ∧ e.2.2 ≤ 1099511627776
structure Rok (t : TI) : Prop where
  rise : Rise t.list
  size : t.size ≤ 1099511627776
  rows : ∀ e ∈ t.list, Rw e
theorem row_le {e : ByteArray × VT} (h : Rw e) : rowSz e ≤ 350 := by
  obtain ⟨h1, h2, h3, h4⟩ := h
  have a := form_le10 e.1.size (by omega)
  have b := form_le10 e.2.1.size (by omega)
  have c := form_le10 e.2.2.toNat (by omega)
  unfold rowSz
  omega
theorem body_le : ∀ {L : List (ByteArray × VT)}, (∀ e ∈ L, Rw e) → bodyOf L ≤ 350 * L.length
  | [], _ => by simp [bodyOf]
  | e :: L, h => by
    have a := row_le (h e (List.mem_cons_self ..))
    have b := body_le (L := L) (fun x hx => h x (List.mem_cons_of_mem _ hx))
    rw [body_cons, List.length_cons]
    omega
theorem Rok.body {t : TI} (h : Rok t) : bodyOf t.list ≤ 384829069721600 := by
  have a := body_le h.rows
  rw [Tr.list_length] at a
  have := h.size
  omega
/-- where a key stands -/
theorem row_cases {t : TI} (h : Rise t.list) (k : ByteArray) :
    (∃ x, t.find k = some (k, x) ∧ t.list = lowL k t.list ++ (k, x) :: highL k t.list) ∨ (t.find k = none ∧ t.list = lowL k t.list ++ highL k t.list) := by
  have hs := low_rest k h
  have hf := Tr.find_list t k h
  have hr := rise_rest k h
  have hm : ∀ x ∈ restL k t.list, klt x.1 k = false := fun x hx => mem_rest hx
  have hhl : highL k t.list = highL k (restL k t.list) := by
    conv => lhs; rw [← hs]
    rw [highL_append, highL_none (fun x hx => klt_asym (mem_low hx)), List.nil_append]
  generalize restL k t.list = R at *
  cases R with
  | nil =>
    right
    refine ⟨hf, ?_⟩
    rw [hhl]
    have : highL k ([] : List (ByteArray × VT)) = [] := rfl
    rw [this]
    exact hs.symm
  | cons e R =>
    have he := hm e (List.mem_cons_self ..)
    have hR : ∀ x ∈ R, klt e.1 x.1 = true := (List.pairwise_cons.1 hr).1
    simp only [List.head?_cons] at hf
    by_cases hk : klt k e.1 = true
    · right
      rw [if_pos hk] at hf
      refine ⟨hf, ?_⟩
      rw [hhl, highL_all (fun x hx => by
        rcases List.mem_cons.1 hx with rfl | hx
        · exact hk
        · exact klt_tr hk (hR x hx))]
      exact hs.symm
    · left
      rw [if_neg hk] at hf
      replace hk : klt k e.1 = false := by simpa using hk
      have hkk : e.1 = k := klt_tri he hk
      have he2 : e = (k, e.2) := Prod.ext hkk rfl
      refine ⟨e.2, by rw [hf, ← he2], ?_⟩
      have hh : highL k (e :: R) = R := by
        have h1 : highL k (e :: R) = highL k [e] ++ highL k R := highL_append k [e] R
        rw [h1, highL_all (A := R) (fun x hx => by rw [← hkk]; exact hR x hx), highL_none (A := [e]) (fun x hx => by rw [List.mem_singleton] at hx; subst hx; exact hk)]
        rfl
      rw [hhl, hh, ← he2]
      exact hs.symm
theorem without_none (k : ByteArray) : ∀ t : TI, t.find k = none → t.without k = (t, false)
  | .nil, _ => rfl
  | .node l k' x' r, h => by
    unfold Tr.find at h
    unfold Tr.without
    by_cases h1 : KOrd.lt k k' = true
    · rw [if_pos h1] at h ⊢
      rw [without_none k l h]
      rfl
    · rw [if_neg h1] at h ⊢
      by_cases h2 : KOrd.lt k' k = true
      · rw [if_pos h2] at h ⊢
        rw [without_none k r h]
        rfl
      · rw [if_neg h2] at h
        cases h
/-- blocks that are no nodes and no trees -/
def Off (w : World) (F : List Nat) : Prop := ∀ x ∈ F, ∀ cs, ¬ Blk w x cs 118 ∧ ¬ Blk w x cs 123
theorem Nd.keep {F : List Nat} {w w' : World} {t : TI} {p : Option Addr} (h : Nd w p t) (hk : Kept F w w') (ho : Off w F) : Nd w' p t := by
  induction t generalizing p with
  | nil => exact h
  | node l k x r ihl ihr =>
    obtain ⟨b, pl, pr, h1, h2, h3, h4⟩ := h
    exact ⟨b, pl, pr, h1, h2.kept hk (fun hx => (ho b hx _).1 h2), ihl h3, ihr h4⟩
theorem Tt.keep {F : List Nat} {w w' : World} {t : TI} {q : Option Addr} (h : Tt w q t) (hk : Kept F w w') (ho : Off w F) : Tt w' q t := by
  rcases h with ⟨h1, h2⟩ | ⟨b, p, h1, h2, h3⟩
  · exact Or.inl ⟨h1, h2⟩
  · exact Or.inr ⟨b, p, h1, h2.kept hk (fun hx => (ho b hx _).2 h2), h3.keep hk ho⟩
def Tab (w : World) (b : Nat) (T : Tb) : Prop := ∃ q, Blk w b #[.pointer q, .int .i64 (T.rev : Int), .int .i64 (bodyOf T.t.list : Int)] 66 ∧ Tt w q T.t
theorem off_ty {w : World} {b : Nat} {cs : Array Value} {ty : TypeId} (h : Blk w b cs ty) (h1 : ty ≠ 118) (h2 : ty ≠ 123) : Off w [b] := by
  intro x hx c
  rw [List.mem_singleton] at hx
  subst hx
  unfold Blk at *
  rw [h]
  constructor <;> intro e <;> simp only [Option.some.injEq, Obj.cells.injEq] at e
  · exact h1 e.2.1
  · exact h2 e.2.1
theorem Tab.off {w : World} {b : Nat} {T : Tb} (h : Tab w b T) : Off w [b] := by
  obtain ⟨q, hb, -⟩ := h
  exact off_ty hb (by decide) (by decide)
theorem Tab.keep {F : List Nat} {w w' : World} {b : Nat} {T : Tb} (h : Tab w b T) (hk : Kept F w w') (hb : b ∉ F) (ho : Off w F) : Tab w' b T := by
  obtain ⟨q, h1, h2⟩ := h
  exact ⟨q, h1.kept hk hb, h2.keep hk ho⟩
theorem Tab.kept {w w' : World} {b : Nat} {T : Tb} (h : Tab w b T) (hk : Kept [] w w') : Tab w' b T := h.keep hk (by simp) (fun x hx => by cases hx)
theorem world_at {R C : World → Prop} {x : World} (h : R x) (H : ∀ wr, R wr → C wr) : C x := H x h
theorem box3 {W : World} {b : Nat} {x y z : Value} {t : TypeId} (h : Blk W b #[x, y, z] t) : W.cell? ⟨b, 0, none⟩ = some x ∧ W.cell? ⟨b, 1, none⟩ = some y ∧ W.cell? ⟨b, 2, none⟩ = some z := ⟨h.cell 0, h.cell 1, h.cell 2⟩
theorem _root_.Go.Proofs.Ytkejpbfbpomjfab.Kept.step {F : List Nat} {a b c : World} (h : Kept F a b) (k : Kept [] b c) : Kept F a c := h.trans k (fun _ hx => by cases hx)
end Go.Proofs.Ytkejpbfbpomjfab.tre

/- A row taken out of a table; a row put in. -/
namespace Go.Proofs.Ytkejpbfbpomjfab.tre
open Go.RowKit

set_option maxRecDepth 100000 in
theorem remove_any {w : World} {b : Nat} {T : Tb} (h : Tab w b T) (hr : Rok T.t) (k : ByteArray) (hk : k.size ≤ 1048576) :
    Calls Try.prog 71 #[.pointer (some ⟨b, 0, none⟩), .string k] w fun e w' => e = .returned (.tuple #[]) ∧ Tab w' b ⟨(T.t.without k).1, T.rev⟩ ∧ Kept [b] w w' := by
  have HO := hide h.off
  obtain ⟨q, hb, ht⟩ := h
  have hbl := hb.lt
  have hz := hr.size
  have hbd := hr.body
  have hwl := (Tr.without_list T.t k hr.rise).1
  have HG : ∀ W, Kept [] w W → Hid _ := fun W (hk : Kept [] w W) => hide (Get_any k (ht.kept hk))
  rcases row_cases hr.rise k with ⟨x, hf, hl⟩ | ⟨hf, hl⟩
  · have hx : Rw (k, x) := hr.rows _ (by rw [hl]; simp)
    have hsum : bodyOf T.t.list = bodyOf (T.t.without k).1.list + rowSz (k, x) := by
      rw [hwl]
      conv => lhs; rw [hl]
      rw [body_app, body_cons, body_app]; omega
    rw [hf] at HG
    have HD : ∀ W, Kept [] w W → Hid _ := fun W (hk : Kept [] w W) => hide (Delete_any k (ht.kept hk) (by omega))
    have HS := fun W => hide (sizeOfRow_any W k x hk (by have := hx.2.1; simp only at this; omega) hx.2.2.1 hx.2.2.2)
    obtain ⟨x1, x2⟩ := x
    simp only [fv, Option.getD_some, Option.isSome_some] at HG
    simp only at HS
    generalize rowSz (k, x1, x2) = sz at *
    generalize (T.t.without k).1 = t2 at *
    generalize (T.t.without k).2 = f2 at *
    obtain ⟨t, rev⟩ := T
    simp only at *
    have hsub : IntKind.i64.wrap ((bodyOf t.list : Int) - (sz : Int)) = (bodyOf t2.list : Int) := by rw [hsum, IntKind.wrap_i64]; omega
    have HSUB := hide hsub
    clear hsub
    generalize bodyOf t.list = bd at *
    obtain ⟨c0, c1, c2⟩ := box3 hb
    have HB := hide hb
    clear hb ht hf hl hwl hx hr hsum
    go_enter Try.func71, Try.ntmps71
    go_wp2_with (first
      | (go_at_call 79; refine (unhide (HG _ (Kept.refl [] w))).mono ?_; rintro e w3 ⟨rfl, hq⟩
         have HQ3 := hide hq.size
         have HK3 := hide (hq.alloc (.cells #[.string x1, .int .i64 x2] 73))
         have HX3 := hide (Blk.new w3 #[.string x1, .int .i64 x2] 73)
         have HB3 := hide ((unhide HB).kept (unhide HK3) (by simp))
         obtain ⟨c0', c1', c2'⟩ := box3 (unhide HB3)
         clear hq)
      | (go_at_call 84; refine (unhide (HD _ (unhide HK3))).mono ?_; rintro e w4 ⟨q4, rfl, ht4, hq⟩
         have HK4 := hide ((unhide HK3).step hq)
         have HT4 := hide ht4
         have hb4 := (unhide HB3).kept hq (by simp)
         have hx4 := (unhide HX3).kept hq (by simp)
         have HB4 := hide hb4
         have HX4 := hide hx4
         obtain ⟨e0, e1, e2⟩ := box3 hb4
         have f0 := hb4.frozen 0
         have y0 := hx4.cell 0
         have y1 := hx4.cell 1
         clear hq ht4 hb4 hx4)
      | fail)
    refine world_at (R := fun X => Blk X b #[.pointer q4, .int .i64 (rev : Int), .int .i64 (bd : Int)] 66 ∧ Blk X w3.heap.size #[.string x1, .int .i64 x2] 73 ∧ Tt X q4 t2 ∧ Kept [b] w X) ?_ ?_
    · refine ⟨(unhide HB4).set 0 _, (unhide HX4).other _ ?_ _, ?_, ?_⟩
      · have := unhide HQ3; show w3.heap.size ≠ b; omega
      · exact (unhide HT4).keep ((Kept.refl [b] w4).setCell (p := ⟨b, 0, none⟩) (Or.inl (by simp)) _) (off_ty (unhide HB4) (by decide) (by decide))
      · exact ((unhide HK4).mono (by simp)).setCell (Or.inl (by simp)) _
    clear c0' c1' c2' e0 e1 e2 f0 y0 y1
    rintro X ⟨hbX, hxX, htX, hkX⟩
    have c2X : X.cell? ⟨b, 2, none⟩ = some (.int .i64 (bd : Int)) := hbX.cell 2
    have y0 : X.cell? ⟨w3.heap.size, 0, none⟩ = some (.string x1) := hxX.cell 0
    have y1 : X.cell? ⟨w3.heap.size, 1, none⟩ = some (.int .i64 x2) := hxX.cell 1
    have HBX := hide hbX
    have HXX := hide hxX
    have HTX := hide htX
    have HKX := hide hkX
    clear hbX hxX htX hkX
    go_region_with (first
      | (go_at_call 73; refine (unhide (HS _)).mono ?_; rintro e w5 ⟨rfl, hq⟩
         have HQ5 := hide hq
         have hb5 := (show Blk X.drew b _ _ from unhide HBX).kept hq (by simp)
         have c5 : w5.cell? ⟨b, 2, none⟩ = some (.int .i64 (bd : Int)) := hb5.cell 2
         have f5 := hb5.frozen 2
         have HB5 := hide hb5
         clear hq hb5))
    all_goals
      go_end0
      refine ⟨rfl, ⟨q4, ?_, ?_⟩, ?_⟩
      · rw [unhide HSUB]; exact (unhide HB5).set 2 _
      · exact ((show Tt X.drew q4 t2 from (unhide HTX).kept (Kept.refl [] X).drew).kept (unhide HQ5)).keep ((Kept.refl [b] w5).setCell (p := ⟨b, 2, none⟩) (Or.inl (by simp)) _) (off_ty (unhide HB5) (by decide) (by decide))
      · exact ((unhide HKX).drew.step (unhide HQ5)).setCell (Or.inl (by simp)) _
  · have hw := without_none k T.t hf
    rw [hw]
    rw [hf] at HG
    simp only [fv, Option.getD_none, Option.isSome_none] at HG
    obtain ⟨c0, c1, c2⟩ := box3 hb
    have HT := hide (show Tab w b T from ⟨q, hb, ht⟩)
    clear hb ht hf hl hwl hr hw
    go_enter Try.func71, Try.ntmps71
    go_wp2_with (first
      | (go_at_call 79; refine (unhide (HG _ (Kept.refl [] w))).mono ?_; rintro e w3 ⟨rfl, hq⟩
         have HK3 := hide (hq.alloc (.cells #[.string ByteArray.empty, .int .i64 0] 73))
         clear hq))
    (try simp only [Exit.inBlock, Exit.then])
    refine bodyPost_ret (results_none rfl _ _ _) rfl ?_
    exact ⟨rfl, (unhide HT).kept (unhide HK3), (unhide HK3).mono (by simp)⟩
/-- rows behind a key's last row is out -/
theorem Rok.without {t : TI} (h : Rok t) (k : ByteArray) : Rok (t.without k).1 := by
  refine ⟨Tr.rise_without t k h.rise, by have := t.without_size k; have := h.size; omega, fun e he => ?_⟩
  rw [(Tr.without_list t k h.rise).1] at he
  refine h.rows e ?_
  rcases List.mem_append.1 he with he | he
  · exact (List.mem_filter.1 he).1
  · exact (List.mem_filter.1 he).1
/-- a row of that key is no longer there -/
def setT (t : TI) (k : ByteArray) (x : VT) : TI := (t.without k).1.put k x
theorem set_list {t : TI} (h : Rise t.list) (k : ByteArray) (x : VT) : (setT t k x).list = lowL k t.list ++ (k, x) :: highL k t.list := by
  have hr := Tr.rise_without t k h
  unfold setT
  rw [Tr.put_list _ k x hr, (Tr.without_list t k h).1, lowL_append, highL_append, lowL_all (fun e he => mem_low he), lowL_none (fun e he => klt_asym (mem_high he)), highL_none (fun e he => klt_asym (mem_low he)), highL_all (fun e he => mem_high he)]
  simp
set_option maxRecDepth 100000 in
set_option maxHeartbeats 2000000 in
theorem tput_any {w : World} {b : Nat} {T : Tb} (h : Tab w b T) (hr : Rok T.t) (k : ByteArray) (x : VT) (hx : Rw (k, x)) (hz : T.t.size < 1099511627776) :
    Calls Try.prog 51 #[.pointer (some ⟨b, 0, none⟩), .string k, .agg #[.string x.1, .int .i64 x.2]] w fun e w' => e = .returned (.tuple #[]) ∧ Tab w' b ⟨setT T.t k x, T.rev⟩ ∧ Kept [b] w w' := by
  obtain ⟨x1, x2⟩ := x
  have hrw := hr.without k
  have hsz := T.t.without_size k
  have hbd := hrw.body
  have hrl := row_le hx
  have hsum : bodyOf (setT T.t k (x1, x2)).list = bodyOf (T.t.without k).1.list + rowSz (k, x1, x2) := by
    rw [set_list hr.rise, (Tr.without_list T.t k hr.rise).1, body_app, body_cons, body_app]; omega
  have hk : k.size ≤ 1048576 := by have := hx.1; simp only at this; omega
  have HR := fun W (hT : Tab W b T) => hide (remove_any hT hr k hk)
  have HP := fun W q (hT : Tt W q (T.t.without k).1) => hide (Put_any k (x1, x2) hT (by omega))
  have HS := fun W => hide (sizeOfRow_any W k (x1, x2) hk (by have := hx.2.1; simp only at this ⊢; omega) hx.2.2.1 hx.2.2.2)
  have HT := hide h
  have hbl : b < w.heap.size := by obtain ⟨q, hb, -⟩ := h; exact hb.lt
  have hadd : IntKind.i64.wrap ((bodyOf (T.t.without k).1.list : Int) + (rowSz (k, x1, x2) : Int)) = (bodyOf (setT T.t k (x1, x2)).list : Int) := by rw [hsum, IntKind.wrap_i64]; omega
  have HADD := hide hadd
  rw [show (T.t.without k).1.put k (x1, x2) = setT T.t k (x1, x2) from rfl] at HP
  clear hadd hsum hrw hsz hbd hr hx h hz
  generalize rowSz (k, x1, x2) = sz at *
  generalize (T.t.without k).1 = t1 at *
  generalize setT T.t k (x1, x2) = t2 at *
  obtain ⟨t, rev⟩ := T
  simp only at *
  go_enter Try.func51, Try.ntmps51
  go_wp2_with (first
    | (go_at_call 71; refine (unhide (HR _ ((unhide HT).kept ((Kept.refl [] w).alloc _)))).mono ?_; rintro e w3 ⟨rfl, ⟨q3, hb3, ht3⟩, hk3⟩
       have hx3 := (Blk.new w #[.string x1, .int .i64 x2] 73).kept hk3 (by simp; omega)
       have HB3 := hide hb3
       have HX3 := hide hx3
       have HT3 := hide ht3
       have HK3 := hide (((Kept.refl [b] w).alloc _).trans hk3 (by simp))
       have c0 : w3.cell? ⟨b, 0, none⟩ = some (.pointer q3) := hb3.cell 0
       have f0 := hb3.frozen 0
       have y0 : w3.cell? ⟨w.heap.size, 0, none⟩ = some (.string x1) := hx3.cell 0
       have y1 : w3.cell? ⟨w.heap.size, 1, none⟩ = some (.int .i64 x2) := hx3.cell 1
       clear hb3 hx3 ht3 hk3 HR)
    | fail)
  go_region_with (first
    | (go_at_call 72; refine (unhide (HP _ _ (show Tt w3.drew q3 t1 from (unhide HT3).kept (Kept.refl [] w3).drew))).mono ?_; rintro e w4 ⟨q4, rfl, ht4, hq⟩
       have hb4 := (show Blk w3.drew b _ _ from unhide HB3).kept hq (by simp)
       have hx4 := (show Blk w3.drew _ _ _ from unhide HX3).kept hq (by simp)
       have f4 := hb4.frozen 0
       have e4 : w4.cell? ⟨b, 0, none⟩ = some (.pointer q3) := hb4.cell 0
       have HB4 := hide hb4
       have HX4 := hide hx4
       have HT4 := hide ht4
       have HK4 := hide ((unhide HK3).drew.step hq)
       clear hb4 hx4 ht4 hq))
  all_goals
    refine world_at (R := fun X => Blk X b #[.pointer q4, .int .i64 (rev : Int), .int .i64 (bodyOf t1.list : Int)] 66 ∧ Blk X w.heap.size #[.string x1, .int .i64 x2] 73 ∧ Tt X q4 t2 ∧ Kept [b] w X) ?_ ?_
    · refine ⟨(unhide HB4).set 0 _, (unhide HX4).other _ (by show w.heap.size ≠ b; omega) _, ?_, ?_⟩
      · exact (unhide HT4).keep ((Kept.refl [b] w4).setCell (p := ⟨b, 0, none⟩) (Or.inl (by simp)) _) (off_ty (unhide HB4) (by decide) (by decide))
      · exact (unhide HK4).setCell (Or.inl (by simp)) _
    clear c0 f0 y0 y1 f4 e4
    rintro X ⟨hbX, hxX, htX, hkX⟩
    have c2X : X.cell? ⟨b, 2, none⟩ = some (.int .i64 (bodyOf t1.list : Int)) := hbX.cell 2
    have y0 : X.cell? ⟨w.heap.size, 0, none⟩ = some (.string x1) := hxX.cell 0
    have y1 : X.cell? ⟨w.heap.size, 1, none⟩ = some (.int .i64 x2) := hxX.cell 1
    have HBX := hide hbX
    have HTX := hide htX
    have HKX := hide hkX
    clear hbX hxX htX hkX
    go_wp2_with fail
    go_region_with (first
      | (go_at_call 73; refine (unhide (HS _)).mono ?_; rintro e w5 ⟨rfl, hq⟩
         have HQ5 := hide hq
         have hb5 := (show Blk X.drew b _ _ from unhide HBX).kept hq (by simp)
         have c5 : w5.cell? ⟨b, 2, none⟩ = some (.int .i64 (bodyOf t1.list : Int)) := hb5.cell 2
         have f5 := hb5.frozen 2
         have HB5 := hide hb5
         clear hq hb5))
    all_goals
      go_end0
      refine ⟨rfl, ⟨q4, ?_, ?_⟩, ?_⟩
      · rw [unhide HADD]; exact (unhide HB5).set 2 _
      · exact ((show Tt X.drew q4 t2 from (unhide HTX).kept (Kept.refl [] X).drew).kept (unhide HQ5)).keep ((Kept.refl [b] w5).setCell (p := ⟨b, 2, none⟩) (Or.inl (by simp)) _) (off_ty (unhide HB5) (by decide) (by decide))
      · exact ((unhide HKX).drew.step (unhide HQ5)).setCell (Or.inl (by simp)) _
end Go.Proofs.Ytkejpbfbpomjfab.tre
