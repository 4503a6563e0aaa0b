/- Texts laid one behind the other: PKeep PApart LForm LBack. -/
import Derived.Test.YtocmgfmfalaebabPkT
import Derived.Test.YtocmgfmfalaebabPkU
/- Rows of bytes of the call's own; append that leaves what was there. -/
namespace Go.Proofs.Ytocmgfmfalaebab
open Go.RowKit

def b8s (l : List Int) : List Value := l.map (Value.int .u8)
theorem b8s_length (l : List Int) : (b8s l).length = l.length := by simp [b8s]
theorem b8s_append (l m : List Int) : b8s (l ++ m) = b8s l ++ b8s m := by simp [b8s]
theorem b8s_at (l : List Int) {j : Nat} (hj : j < l.length) : (b8s l)[j]? = some (.int .u8 (l.getD j 0)) := by
  simp [b8s, List.getElem?_eq_getElem hj]
theorem b8s_set (l : List Int) (k : Nat) (x : Int) : b8s (l.set k x) = (b8s l).set k (.int .u8 x) := by simp [b8s, List.map_set]
theorem info5p : (Try.prog.info? 5).map (fun i => (i.zero, i.size, i.bytes)) = some (some (.int .u8 0), 1, 1) := by kernel_rfl
theorem cell_one_new (w : World) (v : Value) (t : TypeId) : ∀ j u, [v][j]? = some u → (w.alloc (.cells #[v] t)).cell? ((⟨w.heap.size, 0, none⟩ : Addr).add j) = some u := by
  intro j u hj
  match j, hj with
  | 0, hj => simp at hj; subst hj; have := blk1 (Blk.new w #[v] t); simp [Addr.add]

theorem rowI_of_own {w : World} {base n : Nat} {v : Value} {l : List Int} (h : w.ownsRow base 5 1 v n (b8s l)) (hn : 0 < n) :
    ∃ g cap, v = .slice (some ⟨g, 0, none⟩) n cap ∧ base ≤ g ∧ g < w.heap.size ∧ n ≤ cap ∧ cap ≤ maxLen := by
  rcases h.2 with ⟨_, h2⟩ | ⟨g, cap, cur, hv, hb, hg, hc, hm, _⟩
  · omega
  · exact ⟨g, cap, hv, hb, (Array.getElem?_eq_some_iff.1 hg).1, hc, hm⟩
theorem ownI_cell {w : World} {base n g cap : Nat} {l : List Int} (h : w.ownsRow base 5 1 (.slice (some ⟨g, 0, none⟩) n cap) n (b8s l)) {k : Nat} (hk : k < l.length) :
    w.cell? ⟨g, k, none⟩ = some (.int .u8 (l.getD k 0)) := by
  have := h.cells (g := g) rfl k (.int .u8 (l.getD k 0)) (b8s_at l hk)
  have hadd : (⟨g, 0, none⟩ : Addr).add k = ⟨g, k, none⟩ := by unfold Addr.add; split <;> simp_all
  rw [hadd] at this
  exact this
theorem ownI_frozen {w : World} {base n g cap : Nat} {xs : List Value} (h : w.ownsRow base 5 1 (.slice (some ⟨g, 0, none⟩) n cap) n xs) (k : Nat) : w.frozen? ⟨g, k, none⟩ = false := by
  rcases h.2 with ⟨h1, _⟩ | ⟨g', cap', cur, hv, hb, hg, _⟩
  · cases h1
  · cases hv
    exact Blk.frozen hg k
theorem ownI_set {w : World} {base n g cap : Nat} {l : List Int} (h : w.ownsRow base 5 1 (.slice (some ⟨g, 0, none⟩) n cap) n (b8s l)) (k : Nat) (y : Int) :
    (w.setCell ⟨g, k, none⟩ (.int .u8 y)).ownsRow base 5 1 (.slice (some ⟨g, 0, none⟩) n cap) n (b8s (l.set k y)) := by
  refine ⟨by rw [b8s_length, List.length_set, ← b8s_length]; exact h.1, ?_⟩
  rcases h.2 with ⟨h1, _⟩ | ⟨g', cap', cur, hv, hb, hg, hc, hm, hs, ht⟩
  · cases h1
  · cases hv
    refine Or.inr ⟨g, cap, cur.setIfInBounds k (.int .u8 y), rfl, hb, Blk.set hg k _, hc, hm, by simpa using hs, ?_⟩
    rw [b8s_set, ← ht]
    rw [Array.toList_setIfInBounds, List.take_set]

/-- one number more: the row's first cells stay where they lay -/
theorem run_append_keep {P : Program} (w : World) (base : Nat) (t ty : TypeId) (i : TypeInfo) (z : Value) (ht : P.underlying t = some (.slice 5)) (hi : P.info? 5 = some i) (hz : i.zero = some z)
    (hsize : i.size = 1) (hby : i.bytes = 1) (hzs : z.cells.size = 1)
    (v : Value) (n : Nat) (xs : List Value) (hown : w.ownsRow base 5 1 v n xs) (a : Addr) (x : Value) (hx1 : x.oneCell' = true) (hnews : ∀ j u, [x][j]? = some u → w.cell? (a.add j) = some u)
    (h63 : n + 1 ≤ 17592186044416) (hbase : base ≤ w.heap.size) :
    ∃ v' w', (Builtin.append_ #[t, t] ty #[v, .slice (some a) 1 1]).run P w = .ok v' w' ∧ w'.ownsRow base 5 1 v' (n + 1) (xs ++ [x]) ∧ w.grownBy w' v.ownBlock ∧ (v'.ownBlock = v.ownBlock ∨ v'.ownBlock = some w.heap.size) ∧
      (∀ b, v.ownBlock = some b → ∀ k, k < n → w'.cell? ⟨b, k, none⟩ = w.cell? ⟨b, k, none⟩) := by
  have h1 : ∀ u ∈ [x], u.oneCell' = true := by intro u hu; simp at hu; rw [hu]; exact hx1
  obtain ⟨v', w', hr, h2, h3, _, h5⟩ := run_append_own_at (P := P) w base t ty 5 i z 1 1 ht hi hz hsize hby hzs (by decide) v n xs hown a 1 1 [x] rfl hnews h1 (by unfold maxLen; omega) (by omega) hbase
  refine ⟨v', w', hr, h2, h3, h5, ?_⟩
  intro b hb k hk
  rcases hown.2 with ⟨rfl, _⟩ | ⟨g, cap, cur, hv, hbg, hg, hnc, hcm, hcs, htake⟩
  · cases hb
  · subst hv
    have hbg2 : g = b := by simpa [Value.ownBlock] using hb
    subst hbg2
    have hadd : ∀ k, (⟨g, 0, none⟩ : Addr).add k = ⟨g, k, none⟩ := fun k => by unfold Addr.add; split <;> simp_all
    have hxl : xs.length = n := by have := hown.1; omega
    have hold : w.cell? ⟨g, k, none⟩ = xs[k]? := by
      have := hown.cells (g := g) rfl k xs[k] (List.getElem?_eq_getElem (by omega))
      rw [hadd] at this
      rw [this, List.getElem?_eq_getElem (by omega)]
    by_cases hroom : n + 1 ≤ cap
    · have hfit : n * i.size + [x].length ≤ cur.size := by rw [hsize, hcs]; simp; omega
      have hr2 := run_append_room (P := P) w t ty 5 i ht hi g n cap cur hg a 1 1 [x] (by rw [hsize]; rfl) hnews h1 hroom hfit
      rw [hr] at hr2
      injection hr2 with e1 e2
      subst e1
      have := h2.cells (g := g) rfl k xs[k] (by rw [List.getElem?_append_left (by omega)]; exact List.getElem?_eq_getElem (by omega))
      rw [hadd] at this
      rw [this, hold, List.getElem?_eq_getElem (by omega)]
    · have holds : ∀ j u, xs[j]? = some u → w.cell? ((⟨g, 0, none⟩ : Addr).add j) = some u := hown.cells (g := g) rfl
      have hr2 := run_append_grow (P := P) w t ty 5 i z ht hi hz ⟨g, 0, none⟩ n cap xs (by rw [hsize]; exact hown.1) holds a 1 1 [x] (by rw [hsize]; rfl) hnews (by omega) (by omega) (growslice_fits (by omega) (by rw [hby]; omega))
      rw [hr] at hr2
      injection hr2 with e1 e2
      subst e2
      have hgl : g < w.heap.size := (Array.getElem?_eq_some_iff.1 hg).1
      exact World.cell?_of_block (w := w) (heap_alloc_old w.drew _ hgl)

theorem wpList_append_keep {P : Program} (w : World) {ops : Array Oper} {rest : List Oper} {o : Oper} {a : Act} {Q : Exit → Act → World → Prop} (hgd : o.guard = none) (s x : Operand) (t : TypeId)
    (ho : o.op = .call { callee := .builtin .append, args := #[s, x], argTypes := #[t, t] })
    (base : Nat) (i : TypeInfo) (z : Value) (ht : P.underlying t = some (.slice 5)) (hi : P.info? 5 = some i) (hz : i.zero = some z)
    (hsize : i.size = 1) (hby : i.bytes = 1) (hzs : z.cells.size = 1)
    (v : Value) (n : Nat) (xs : List Value) (hs : a.eval s = v) (hown : w.ownsRow base 5 1 v n xs) (ad : Addr) (y : Value) (hy1 : y.oneCell' = true) (hxv : a.eval x = .slice (some ad) 1 1) (hnews : ∀ j u, [y][j]? = some u → w.cell? (ad.add j) = some u)
    (h63 : n + 1 ≤ 17592186044416) (hbase : base ≤ w.heap.size)
    (h : ∀ v' w', w'.ownsRow base 5 1 v' (n + 1) (xs ++ [y]) → w.grownBy w' v.ownBlock → (v'.ownBlock = v.ownBlock ∨ v'.ownBlock = some w.heap.size) → (∀ b, v.ownBlock = some b → ∀ k, k < n → w'.cell? ⟨b, k, none⟩ = w.cell? ⟨b, k, none⟩) → wpList P ops Q rest (a.put o.dst v') w') :
    wpList P ops Q (o :: rest) a w := by
  refine wpList_plain hgd fun K hK => ?_
  obtain ⟨v', w', hr, h2, h3, h4, h5⟩ := run_append_keep (P := P) w base t o.type i z ht hi hz hsize hby hzs v n xs hown ad y hy1 hnews h63 hbase
  unfold Oper.wp execOp
  simp only [ho, resolve, invoke, builtin, Sem.run_bind, Sem.run_pure, Result.andThen_ok, List.map_toArray, List.map_cons, List.map_nil, hs, hxv, hr]
  exact hK _ _ (h v' w' h2 h3 h4 h5)

/-- The slice v reads as f, for N numbers. -/
def RdB (w : World) (v : Value) (N : Nat) (f : Nat → Int) : Prop :=
  (∃ a cap, v = .slice a N cap) ∧ N ≤ 9223372036854775807 ∧ (N = 0 ∨ ∃ b cap, v = .slice (some ⟨b, 0, none⟩) N cap ∧ b < w.heap.size ∧ ∀ k, k < N → w.cell? ⟨b, k, none⟩ = some (.int .u8 (f k)))
theorem RdB.kept {F : List Nat} {w w' : World} {v : Value} {N : Nat} {f : Nat → Int} (h : RdB w v N f) (hk : Kept F w w') (hn : ∀ b, v.ownBlock = some b → b ∉ F) : RdB w' v N f := by
  refine ⟨h.1, h.2.1, ?_⟩
  rcases h.2.2 with h0 | ⟨b, cap, hv, hb, hc⟩
  · exact Or.inl h0
  · refine Or.inr ⟨b, cap, hv, Nat.lt_of_lt_of_le hb hk.size, fun k hk' => ?_⟩
    rw [hk.cell (p := ⟨b, k, none⟩) hb (hn b (by rw [hv]; rfl))]
    exact hc k hk'
theorem RdB.of_own {w : World} {base : Nat} {v : Value} {l : List Int} {N : Nat} (hl : l.length = N) (h : w.ownsRow base 5 1 v N (b8s l)) {f : Nat → Int} (hf : ∀ k, k < N → l.getD k 0 = f k) : RdB w v N f := by
  rcases h.2 with ⟨hv, h0⟩ | ⟨g, cap, cur, hv, hb, hg, hc, hm, _⟩
  · exact ⟨⟨none, 0, by rw [hv, h0]⟩, by omega, Or.inl h0⟩
  · refine ⟨⟨_, _, hv⟩, by unfold maxLen at hm; omega, Or.inr ⟨g, cap, hv, (Array.getElem?_eq_some_iff.1 hg).1, fun k hk => ?_⟩⟩
    subst hv
    rw [ownI_cell h (by omega), hf k hk]
theorem RdB.cell {w : World} {v : Value} {N : Nat} {f : Nat → Int} (h : RdB w v N f) {k : Nat} (hk : k < N) : ∃ b cap, v = .slice (some ⟨b, 0, none⟩) N cap ∧ b < w.heap.size ∧ w.cell? ⟨b, k, none⟩ = some (.int .u8 (f k)) := by
  rcases h.2.2 with h0 | ⟨b, cap, hv, hb, hc⟩
  · omega
  · exact ⟨b, cap, hv, hb, hc k hk⟩
end Go.Proofs.Ytocmgfmfalaebab

/- apart: lists that share no memory. -/
namespace Go.Proofs.Ytocmgfmfalaebab
open Go.RowKit

def m1 (i k : Nat) : Int := (37 * (i : Int) + 5 * (k : Int) + 11) % 256
def m2 (i t : Nat) : Int := (101 * (i : Int) + 3 * (t : Int) + 60) % 256
theorem info22p : (Try.prog.info? 22).map (fun i => (i.zero, i.size, i.bytes)) = some (some (.slice none 0 0), 1, 24) := by kernel_rfl

/-- what one list is gone on with -/
def app (q : Nat) : Nat → List Int
  | 0 => []
  | t + 1 => app q t ++ [m2 q t]
theorem app_length (q t : Nat) : (app q t).length = t := by
  induction t with
  | zero => rfl
  | succ t ih => simp [app, ih]
theorem app_at (q : Nat) {t n : Nat} (h : t < n) : (app q n).getD t 0 = m2 q t := by
  induction n with
  | zero => omega
  | succ n ih =>
    by_cases e : t = n
    · subst e
      simp [app, app_length]
    · have := ih (by omega)
      rw [app, List.getD, List.getElem?_append_left (by rw [app_length]; omega)]
      exact this
theorem kept_grown {w w' : World} {row : Option Nat} (h : w.grownBy w' row) : Kept row.toList w w' :=
  (Kept.refl _ w).grown h (fun k hk => Or.inl (by rw [hk]; simp))

/-- rows of the call's own, each in its own block -/
structure Aps (w : World) (m ab base : Nat) (V : Nat → Value) (N : Nat → Nat) (F : List Nat) : Prop where
  few : m ≤ 4194304
  abl : ab < w.heap.size
  all : ∀ i, i < m → w.cell? ⟨ab, i, none⟩ = some (V i)
  room : ∀ i, i < m → N i + 80 ≤ 17592186044416
  dis : ∀ i j, i < m → j < m → i ≠ j → ∀ b, (V i).ownBlock = some b → (V j).ownBlock ≠ some b
  inF : ∀ i, i < m → ∀ b, (V i).ownBlock = some b → b ∈ F
  notF : ab ∉ F
  bl : ∀ i, i < m → ∀ b, (V i).ownBlock = some b → b < w.heap.size

set_option maxRecDepth 100000 in
set_option maxHeartbeats 4000000 in
theorem apart_any {w : World} {m mc ab base : Nat} {V : Nat → Value} {N : Nat → Nat} {F : List Nat} (A : Aps w m ab base V N F) (hb : base ≤ w.heap.size) (X : Nat → List Int) (hX : ∀ i, i < m → w.ownsRow base 5 1 (V i) (N i) (b8s (X i))) :
    Calls Try.prog 14 #[.slice (some ⟨ab, 0, none⟩) m mc] w fun e w' => e = .returned (.bool true) ∧ Kept F w w' := by
  have HA := hide A
  have HX := hide hX
  have hm := A.few
  obtain ⟨i3, hi, hz0, hz1, hz2⟩ := info_parts info5p
  have HI3 := hide (⟨hi, hz0, hz1, hz2⟩ : _ ∧ _ ∧ _ ∧ _)
  clear hi hz0 hz1 hz2
  obtain ⟨i22, hi, hz0, hz1, hz2⟩ := info_parts info22p
  have HI22 := hide (⟨hi, hz0, hz1, hz2⟩ : _ ∧ _ ∧ _ ∧ _)
  clear hi hz0 hz1 hz2
  have HALL : Hid (∀ wx, Kept F w wx → ∀ i, i < m → wx.cell? ⟨ab, i, none⟩ = some (V i)) := fun wx hk i hi => (hk.cell (p := ⟨ab, i, none⟩) A.abl A.notF).trans (A.all i hi)
  clear A hX
  go_enter Try.func14, Try.ntmps14
  go_wp2_with fail
  go_loopw [3] (fun s wr => ∃ i : Nat, i ≤ m ∧ s = .int .i64 i ∧ Kept F w wr ∧ ∃ X' : Nat → List Int, (∀ j, j < m → wr.ownsRow base 5 1 (V j) (N j) (b8s (X' j))) ∧ ∀ j, j < i → ∀ k, k < N j → (X' j).getD k 0 = m1 j k) (fun s _ => m - (intOf s).toNat)
  case atStart => exact ⟨0, by omega, rfl, Kept.refl _ _, X, unhide HX, fun j hj => by omega⟩
  case round =>
    obtain ⟨i, hi, rfl, hk, X', hX', hdone⟩ := hrel
    by_cases him : i < m
    · have t1 : ((i : Int) < (m : Int)) = True := by simp; omega
      obtain ⟨av, cv, hVi⟩ := own_len (hX' i him)
      have HVI := hide hVi
      have hNi := (unhide HA).room i him
      have HK := hide hk
      have HX' := hide hX'
      have HD := hide hdone
      clear hk hX' hdone hVi
      refine world_at (R := fun W => Kept F w W ∧ (∀ j, j < m → W.ownsRow base 5 1 (V j) (N j) (b8s (X' j)))) ⟨unhide HK, unhide HX'⟩ ?_
      clear HK HX'
      rintro W ⟨hk, hX'⟩
      have HK := hide hk
      have HX' := hide hX'
      clear hk hX'
      generalize hn : N i = n at *
      have HN := hide hn
      clear hn
      go_wp2_with fail
      go_loopw [4] (fun s wr => ∃ k : Nat, k ≤ n ∧ s = .int .i64 k ∧ Kept F w wr ∧ ∃ Y : List Int, (∀ j, j < m → wr.ownsRow base 5 1 (V j) (N j) (b8s (if j = i then Y else X' j))) ∧ ∀ q, q < k → Y.getD q 0 = m1 i q) (fun s _ => n - (intOf s).toNat)
      case atStart =>
        refine ⟨0, by omega, rfl, unhide HK, X' i, fun j hj => ?_, fun q hq => by omega⟩
        by_cases e : j = i
        · rw [if_pos e, e]; have := unhide HX' i him; exact this
        · rw [if_neg e]; exact unhide HX' j hj
      case round =>
        obtain ⟨k, hkn, rfl, hk2, Y, hY, hYd⟩ := hrel
        have hc := unhide HALL wr hk2 i him
        rw [unhide HVI] at hc
        by_cases hkl : k < n
        · have hYi := hY i him
          rw [if_pos rfl, unhide HN, unhide HVI] at hYi
          have hYl : Y.length = n := by have := hYi.1; rw [b8s_length] at this; omega
          obtain ⟨g, c, hg, hg1, hg2, -, -⟩ := rowI_of_own hYi (by omega)
          have ea : av = some ⟨g, 0, none⟩ := by cases hg; rfl
          have ec : c = cv := by cases hg; rfl
          subst ea ec
          have hcell := ownI_cell hYi (k := k) (by omega)
          have hfr := ownI_frozen hYi k
          have hne : g ≠ ab := fun e => (unhide HA).notF (by rw [← e]; exact (unhide HA).inF i him g (by rw [unhide HVI]; rfl))
          have HNX : Hid (Kept F w (wr.setCell ⟨g, k, none⟩ (.int .u8 (m1 i k))) ∧ (∀ j, j < m → (wr.setCell ⟨g, k, none⟩ (.int .u8 (m1 i k))).ownsRow base 5 1 (V j) (N j) (b8s (if j = i then Y.set k (m1 i k) else X' j))) ∧ ∀ q, q < k + 1 → (Y.set k (m1 i k)).getD q 0 = m1 i q) := by
            refine ⟨hk2.setCell (Or.inl ((unhide HA).inF i him g (by rw [unhide HVI]; rfl))) _, fun j hj => ?_, fun q hq => ?_⟩
            · by_cases e : j = i
              · rw [if_pos e, e, unhide HN, unhide HVI]; exact ownI_set hYi k _
              · have h9 := hY j hj
                rw [if_neg e] at h9 ⊢
                refine own_kept h9 (F := [g]) ((Kept.refl [g] wr).setCell (Or.inl (by simp)) _) (fun b hb' => ?_)
                have := (unhide HA).dis j i hj him e b hb'
                rw [unhide HVI] at this
                intro hm'
                simp at hm'
                subst hm'
                exact this rfl
            · by_cases e : q = k
              · rw [e, List.getD, List.getElem?_set_self (by omega)]; rfl
              · rw [List.getD, List.getElem?_set_ne (fun e' => e e'.symm)]; exact hYd q (by omega)
          have HM : Hid (m1 i k = (37 * (i : Int) + 5 * (k : Int) + 11) % 256) := rfl
          generalize m1 i k = mm at *
          clear hY hYi hYd hg hk2
          have t2 : ((k : Int) < (n : Int)) = True := by simp; omega
          have e1 : IntKind.i64.wrap (37 * (i : Int)) = 37 * (i : Int) := by rw [IntKind.wrap_i64]; omega
          have e1b : IntKind.i64.wrap (5 * (k : Int)) = 5 * (k : Int) := by rw [IntKind.wrap_i64]; omega
          have e2 : IntKind.i64.wrap (37 * (i : Int) + 5 * (k : Int)) = 37 * (i : Int) + 5 * (k : Int) := by rw [IntKind.wrap_i64]; omega
          have e2b : IntKind.i64.wrap (37 * (i : Int) + 5 * (k : Int) + 11) = 37 * (i : Int) + 5 * (k : Int) + 11 := by rw [IntKind.wrap_i64]; omega
          have e3 : IntKind.u8.wrap (37 * (i : Int) + 5 * (k : Int) + 11) = mm := by rw [IntKind.wrap_u8]; exact (unhide HM).symm
          generalize Y.getD k 0 = y0 at hcell
          go_wp2
          obtain ⟨q1, q2, q3⟩ := unhide HNX
          exact ⟨⟨k + 1, by omega, by simp, q1, Y.set k mm, q2, q3⟩, by simp [intOf]; omega⟩
        · obtain rfl : k = n := by omega
          have t2 : ((k : Int) < (k : Int)) = False := by simp
          have HREL : Hid (Kept F w wr ∧ (∀ j, j < m → wr.ownsRow base 5 1 (V j) (N j) (b8s ((fun j => if j = i then Y else X' j) j))) ∧ ∀ j, j < i + 1 → ∀ q, q < N j → ((fun j => if j = i then Y else X' j) j).getD q 0 = m1 j q) := by
            refine ⟨hk2, hY, fun j hj q hq => ?_⟩
            show (if j = i then Y else X' j).getD q 0 = m1 j q
            by_cases e : j = i
            · rw [if_pos e, e]; rw [e, unhide HN] at hq; exact hYd q hq
            · rw [if_neg e]; exact unhide HD j (by omega) q hq
          clear hY hYd hk2
          go_wp2
          obtain ⟨q1, q2, q3⟩ := unhide HREL
          exact ⟨⟨i + 1, by omega, by simp, q1, _, q2, q3⟩, by simp [intOf]; omega⟩
    · obtain rfl : i = m := by omega
      have t1 : ((i : Int) < (i : Int)) = False := by simp
      refine world_at (R := fun W => Kept F w W ∧ (∀ j, j < i → W.ownsRow base 5 1 (V j) (N j) (b8s (X' j)))) ⟨hk, hX'⟩ ?_
      clear hk hX' HX
      rintro W ⟨hk, hX'⟩
      have HK := hide hk
      have HX := hide hX'
      have HD := hide hdone
      have hWs := hk.size
      clear hk hX' hdone
      go_wp2_with fail
      -- all are gone on with
      go_loopw [5, 6] (fun r s wr => ∃ (q : Nat) (G : Nat → Value), q ≤ i ∧ s = .int .i64 q ∧ Kept F w wr ∧ W.heap.size ≤ wr.heap.size ∧
        wr.ownsRow W.heap.size 22 1 r q ((List.range q).map G) ∧
        (∀ j, j < i → RdB wr (V j) (N j) (m1 j)) ∧ (∀ j, q ≤ j → j < i → wr.ownsRow base 5 1 (V j) (N j) (b8s (X' j))) ∧
        (∀ j, j < q → ∃ b c, G j = .slice (some ⟨b, 0, none⟩) (N j + 80) c ∧ b < wr.heap.size ∧ some b ≠ r.ownBlock ∧ (∀ j', q ≤ j' → j' < i → (V j').ownBlock ≠ some b) ∧ ∀ t, t < 80 → wr.cell? ⟨b, N j + t, none⟩ = some (.int .u8 (m2 j t)))) (fun _ s _ => i - (intOf s).toNat)
      case atStart =>
        refine ⟨0, fun _ => .slice none 0 0, by omega, rfl, unhide HK, Nat.le_refl _, World.ownsRow_nil _ _ _ _, fun j hj => ?_, fun j _ hj => unhide HX j hj, fun j hj => by omega⟩
        have h9 := unhide HX j hj
        refine RdB.of_own ?_ h9 (fun k hk => unhide HD j hj k hk)
        have := h9.1; rw [b8s_length] at this; omega
      case round =>
        obtain ⟨q, G, hqi, rfl, hk, hsz, ho, hR, hO, hG⟩ := hrel
        by_cases hql : q < i
        · have hOq := hO q (Nat.le_refl _) hql
          obtain ⟨av, cv, hVq⟩ := own_len hOq
          have HVQ := hide hVq
          have hNq := (unhide HA).room q hql
          have hXl : (X' q).length = N q := by have := hOq.1; rw [b8s_length] at this; omega
          refine world_at (R := fun W1 => Kept F w W1 ∧ W.heap.size ≤ W1.heap.size ∧ W1.ownsRow W.heap.size 22 1 u5 q ((List.range q).map G) ∧ (∀ j, j < i → RdB W1 (V j) (N j) (m1 j)) ∧ (∀ j, q ≤ j → j < i → W1.ownsRow base 5 1 (V j) (N j) (b8s (X' j))) ∧ (∀ j, j < q → ∃ b c, G j = .slice (some ⟨b, 0, none⟩) (N j + 80) c ∧ b < W1.heap.size ∧ some b ≠ u5.ownBlock ∧ (∀ j', q ≤ j' → j' < i → (V j').ownBlock ≠ some b) ∧ ∀ t, t < 80 → W1.cell? ⟨b, N j + t, none⟩ = some (.int .u8 (m2 j t)))) ⟨hk, hsz, ho, hR, hO, hG⟩ ?_
          clear hk hsz ho hR hO hG hOq hVq
          rintro W1 ⟨hk, hsz, ho, hR, hO, hG⟩
          have HK1 := hide hk
          have HSZ := hide hsz
          have HO1 := hide ho
          have HR1 := hide hR
          have HOV := hide hO
          have HG1 := hide hG
          obtain ⟨ra, rc, hr5⟩ := own_len ho
          subst hr5
          have hc := unhide HALL W1 hk q hql
          rw [unhide HVQ] at hc
          have HXL := hide hXl
          clear hk hsz ho hR hO hG hXl
          have t2 : ((q : Int) < (i : Int)) = True := by simp; omega
          have e1 : IntKind.i64.wrap (101 * (q : Int)) = 101 * (q : Int) := by rw [IntKind.wrap_i64]; omega
          generalize hn : N q = n at *
          have HN := hide hn
          clear hn
          go_wp2_with fail
          go_loopw [7, 8] (fun g s wx => ∃ t : Nat, t ≤ 80 ∧ s = .int .i64 t ∧ wx.ownsRow base 5 1 g (n + t) (b8s (X' q ++ app q t)) ∧ Kept (V q).ownBlock.toList W1 wx ∧ (g.ownBlock = (V q).ownBlock ∨ ∃ b, g.ownBlock = some b ∧ W1.heap.size ≤ b) ∧ RdB wx (V q) n (m1 q)) (fun _ s _ => 80 - (intOf s).toNat)
          case atStart =>
            refine ⟨0, by omega, rfl, ?_, Kept.refl _ _, Or.inl (by rw [unhide HVQ]), ?_⟩
            · have h9 := unhide HOV q (Nat.le_refl _) hql
              rw [unhide HN, unhide HVQ] at h9
              simpa [app] using h9
            · have h9 := unhide HR1 q hql
              rw [unhide HN] at h9
              exact h9
          case round =>
            obtain ⟨t, ht, rfl, hog, hkx, hlo, hrd⟩ := hrel
            have HOG := hide hog
            have HKX := hide hkx
            have HLO := hide hlo
            have HRD := hide hrd
            obtain ⟨ga, gc, rfl⟩ := own_len hog
            clear hog hkx hlo hrd
            by_cases ht8 : t < 80
            · have t3 : ((t : Int) < 80) = True := by simp; omega
              have HM : Hid (m2 q t = (101 * (q : Int) + 3 * (t : Int) + 60) % 256) := rfl
              have HAP : Hid (app q (t + 1) = app q t ++ [m2 q t]) := rfl
              generalize m2 q t = mm at *
              have e1c : IntKind.i64.wrap (3 * (t : Int)) = 3 * (t : Int) := by rw [IntKind.wrap_i64]; omega
              have e2 : IntKind.i64.wrap (101 * (q : Int) + 3 * (t : Int)) = 101 * (q : Int) + 3 * (t : Int) := by rw [IntKind.wrap_i64]; omega
              have e2c : IntKind.i64.wrap (101 * (q : Int) + 3 * (t : Int) + 60) = 101 * (q : Int) + 3 * (t : Int) + 60 := by rw [IntKind.wrap_i64]; omega
              have e3 : IntKind.u8.wrap (101 * (q : Int) + 3 * (t : Int) + 60) = mm := by rw [IntKind.wrap_u8]; exact (unhide HM).symm
              have hbw : base ≤ wr.heap.size + 1 := by
                have h1 := (unhide HKX).size
                have h2 := (unhide HK1).size
                omega
              go_wp2_with (first
                | (at_builtin; refine wpList_append_keep _ rfl _ _ 22 rfl base i3 (.int .u8 0) Try.underlying22 (unhide HI3).1 (unhide HI3).2.1 (unhide HI3).2.2.1 (unhide HI3).2.2.2 rfl _ _ _ rfl ((unhide HOG).alloc _) ⟨wr.heap.size, 0, none⟩ (.int .u8 mm) rfl rfl (cell_one_new _ _ _) (by omega) (by rw [World.size_alloc]; exact hbw) ?_))
              intro g2 w2 ho2 hg2 hl2 hc2
              obtain ⟨g2a, g2c, rfl⟩ := own_len ho2
              have HREL : Hid (w2.ownsRow base 5 1 (.slice g2a (n + t + 1) g2c) (n + (t + 1)) (b8s (X' q ++ app q (t + 1))) ∧ Kept (V q).ownBlock.toList W1 w2 ∧ ((Value.slice g2a (n + t + 1) g2c).ownBlock = (V q).ownBlock ∨ ∃ b, (Value.slice g2a (n + t + 1) g2c).ownBlock = some b ∧ W1.heap.size ≤ b) ∧ RdB w2 (V q) n (m1 q)) := by
                refine ⟨?_, ?_, ?_, ?_⟩
                · rw [unhide HAP, ← List.append_assoc, b8s_append]; exact ho2
                · refine ((unhide HKX).alloc _).grown hg2 (fun k hk => ?_)
                  rcases unhide HLO with h1 | ⟨b, h1, h2⟩
                  · left; rw [← h1, hk]; simp
                  · right; rw [h1] at hk; cases hk; exact h2
                · rcases hl2 with h1 | h1
                  · rw [h1]; exact unhide HLO
                  · right; refine ⟨_, h1, ?_⟩; have := (unhide HKX).size; simp; omega
                · by_cases hn0 : n = 0
                  · exact ⟨(unhide HRD).1, (unhide HRD).2.1, Or.inl hn0⟩
                  · have hra := (unhide HRD).kept ((Kept.refl [] wr).alloc (.cells #[.int .u8 mm] 5)) (by simp)
                    by_cases hsame : (Value.slice ga (n + t) gc).ownBlock = (V q).ownBlock
                    · obtain ⟨hv1, hv2, hv3⟩ := hra
                      refine ⟨hv1, hv2, ?_⟩
                      rcases hv3 with h0 | ⟨b, cap, hvv, hbl, hcc⟩
                      · exact Or.inl h0
                      · refine Or.inr ⟨b, cap, hvv, Nat.lt_of_lt_of_le hbl hg2.size, fun k hk => ?_⟩
                        rw [hc2 b (by rw [hsame, hvv]; rfl) k (by omega)]
                        exact hcc k hk
                    · refine hra.kept (kept_grown hg2) (fun b hb => ?_)
                      intro hm'
                      rw [Option.mem_toList] at hm'
                      exact hsame (by rw [hb]; exact hm')
              clear ho2 hg2 hl2 hc2
              go_wp2
              obtain ⟨q1, q2, q3, q4⟩ := unhide HREL
              exact ⟨⟨t + 1, by omega, by simp, q1, q2, q3, q4⟩, by simp [intOf]; omega⟩
            · have ht80 : t = 80 := by omega
              have HT80 := hide ht80
              have t3 : ((t : Int) < 80) = False := by simp; omega
              clear ht80 ht8 ht
              have hkF : Kept F w wr := (unhide HK1).trans (unhide HKX) (fun b hb => by rw [Option.mem_toList] at hb; exact Or.inl ((unhide HA).inF q hql b hb))
              have hVlt : ∀ j, j < i → ∀ b, (V j).ownBlock = some b → b < w.heap.size := (unhide HA).bl
              have hrblk : ∀ b, (Value.slice ra q rc).ownBlock = some b → W.heap.size ≤ b ∧ b < W1.heap.size := fun b hb => (unhide HO1).lt b hb
              have hor : wr.ownsRow W.heap.size 22 1 (.slice ra q rc) q ((List.range q).map G) := own_kept (unhide HO1) (unhide HKX) (fun b hb hm' => by
                rw [Option.mem_toList] at hm'
                have h1 := hVlt q hql b hm'
                have h2 := (hrblk b hb).1
                omega)
              obtain ⟨gb, gcap, hgv, hgb1, hgb2, -, -⟩ := rowI_of_own (unhide HOG) (by have := unhide HT80; omega)
              have ega : ga = some ⟨gb, 0, none⟩ := by cases hgv; rfl
              subst ega
              clear hgv
              have hgblk : (Value.slice (some ⟨gb, 0, none⟩) (n + t) gc).ownBlock = some gb := rfl
              have hgr : (Value.slice ra q rc).ownBlock ≠ some gb := fun e => by
                have h1 := hrblk gb e
                rcases unhide HLO with h2 | ⟨b, h2, h3⟩
                · rw [hgblk] at h2; have := hVlt q hql gb h2.symm; omega
                · rw [hgblk] at h2; cases h2; omega
              have HOR := hide hor
              have HKF := hide hkF
              have HGR := hide (⟨hgr, hgb2, hrblk, hVlt⟩ : _ ∧ _ ∧ _ ∧ _)
              have hWwr : W.heap.size ≤ wr.heap.size := Nat.le_trans (unhide HSZ) (unhide HKX).size
              have HWW := hide hWwr
              clear hor hkF hgr hgb2 hrblk hVlt hgblk hgb1
              go_wp2_with (first
                | (at_builtin; refine wpList_append_own_at _ rfl _ _ 41 rfl W.heap.size 22 i22 (.slice none 0 0) 1 24 Try.underlying41 (unhide HI22).1 (unhide HI22).2.1 (unhide HI22).2.2.1 (unhide HI22).2.2.2 rfl (by decide) _ _ _ rfl ((unhide HOR).alloc _) ⟨wr.heap.size, 0, none⟩ 1 1 [.slice (some ⟨gb, 0, none⟩) (n + t) gc] rfl rfl (cell_one_new _ _ _) (by simp [Value.oneCell']) (by unfold maxLen; omega) (by omega) (by rw [World.size_alloc]; have := unhide HWW; omega) ?_))
              intro r2 w2 ho2 hg2 hn2 hl2
              obtain ⟨r2a, r2c, rfl⟩ := own_len ho2
              have HREL : Hid (Kept F w w2 ∧ W.heap.size ≤ w2.heap.size ∧ w2.ownsRow W.heap.size 22 1 (.slice r2a (q + 1) r2c) (q + 1) ((List.range (q + 1)).map (fun j => if j = q then .slice (some ⟨gb, 0, none⟩) (n + t) gc else G j)) ∧
                  (∀ j, j < i → RdB w2 (V j) (N j) (m1 j)) ∧ (∀ j, q + 1 ≤ j → j < i → w2.ownsRow base 5 1 (V j) (N j) (b8s (X' j))) ∧
                  (∀ j, j < q + 1 → ∃ b c, (fun j => if j = q then Value.slice (some ⟨gb, 0, none⟩) (n + t) gc else G j) j = .slice (some ⟨b, 0, none⟩) (N j + 80) c ∧ b < w2.heap.size ∧ some b ≠ (Value.slice r2a (q + 1) r2c).ownBlock ∧ (∀ j', q + 1 ≤ j' → j' < i → (V j').ownBlock ≠ some b) ∧ ∀ t, t < 80 → w2.cell? ⟨b, N j + t, none⟩ = some (.int .u8 (m2 j t)))) := by
                obtain ⟨hgr, hgb2, hrblk, hVlt⟩ := unhide HGR
                have hT := unhide HT80
                have hkr : Kept (Value.slice ra q rc).ownBlock.toList wr w2 := ((Kept.refl _ wr).alloc _).grown hg2 (fun k hk => Or.inl (by rw [hk]; simp))
                have hks := (unhide HK1).size
                have hkx1 := (unhide HKX).size
                have hsz1 := unhide HSZ
                have hnotr : ∀ b, b < W.heap.size → b ∉ (Value.slice ra q rc).ownBlock.toList := fun b hb hm' => by
                  rw [Option.mem_toList] at hm'
                  have := (hrblk b hm').1
                  omega
                have hr2b : ∀ b, (Value.slice r2a (q + 1) r2c).ownBlock = some b → (Value.slice ra q rc).ownBlock = some b ∨ wr.heap.size < b := fun b hb => by
                  rcases hl2 with h1 | h1
                  · left; rw [← h1]; exact hb
                  · right; rw [h1] at hb; cases hb; simp
                refine ⟨(unhide HKF).trans hkr (fun b hb => ?_), Nat.le_trans (unhide HWW) hkr.size, ?_, fun j hj => ?_, fun j hj1 hj2 => ?_, fun j hj => ?_⟩
                · rw [Option.mem_toList] at hb
                  have := (hrblk b hb).1
                  right; omega
                · have e9 : (List.range (q + 1)).map (fun j => if j = q then Value.slice (some ⟨gb, 0, none⟩) (n + t) gc else G j) = (List.range q).map G ++ [.slice (some ⟨gb, 0, none⟩) (n + t) gc] := by
                    rw [List.range_succ, List.map_append]
                    congr 1
                    · refine List.map_congr_left (fun a ha => ?_)
                      rw [if_neg (by have := List.mem_range.1 ha; omega)]
                    · simp
                  rw [e9]; exact ho2
                · by_cases e : j = q
                  · rw [e, unhide HN]
                    refine (unhide HRD).kept hkr (fun b hb => hnotr b ?_)
                    have := hVlt q hql b hb; omega
                  · refine ((unhide HR1 j hj).kept (unhide HKX) (fun b hb hm' => ?_)).kept hkr (fun b hb => hnotr b ?_)
                    · rw [Option.mem_toList] at hm'
                      exact (unhide HA).dis j q hj hql e b hb hm'
                    · have := hVlt j hj b hb; omega
                · refine own_kept (own_kept (unhide HOV j (by omega) hj2) (unhide HKX) (fun b hb hm' => ?_)) hkr (fun b hb => hnotr b ?_)
                  · rw [Option.mem_toList] at hm'
                    exact (unhide HA).dis j q hj2 hql (by omega) b hb hm'
                  · have := hVlt j hj2 b hb; omega
                · show ∃ b c, (if j = q then Value.slice (some ⟨gb, 0, none⟩) (n + t) gc else G j) = .slice (some ⟨b, 0, none⟩) (N j + 80) c ∧ _
                  by_cases e : j = q
                  · rw [if_pos e, e, unhide HN, hT]
                    refine ⟨gb, gc, rfl, Nat.lt_of_lt_of_le hgb2 hkr.size, ?_, ?_, ?_⟩
                    · intro e2
                      rcases hr2b gb e2.symm with h1 | h1
                      · exact hgr h1
                      · omega
                    · intro j' hj1 hj2 e2
                      rcases unhide HLO with h2 | ⟨b, h2, h3⟩
                      · have h4 : (V q).ownBlock = some gb := h2.symm
                        exact (unhide HA).dis q j' hql hj2 (by omega) gb h4 e2
                      · have h4 : gb = b := by simpa [Value.ownBlock] using h2
                        have := hVlt j' hj2 gb e2
                        omega
                    · intro t' ht'
                      have h9 : gb ∉ (Value.slice ra q rc).ownBlock.toList := fun hm' => by
                        rw [Option.mem_toList] at hm'
                        exact hgr hm'
                      rw [hkr.cell (p := ⟨gb, n + t', none⟩) hgb2 h9]
                      have h8 := ownI_cell (unhide HOG) (k := n + t') (by rw [List.length_append, app_length, unhide HXL]; omega)
                      rw [h8, List.getD, List.getElem?_append_right (by rw [unhide HXL]; omega), unhide HXL, show n + t' - n = t' by omega, ← List.getD, hT, app_at q ht']
                  · rw [if_neg e]
                    obtain ⟨b, c, h2, h3, h4, h5, h6⟩ := unhide HG1 j (by omega)
                    refine ⟨b, c, h2, ?_, ?_, fun j' hj1 hj2 => h5 j' (by omega) hj2, fun t' ht' => ?_⟩
                    · have := hkr.size; omega
                    · intro e2
                      rcases hr2b b e2.symm with h7 | h7
                      · exact h4 h7.symm
                      · omega
                    · have h7 : b ∉ (V q).ownBlock.toList := fun hm' => by
                        rw [Option.mem_toList] at hm'
                        exact h5 q (Nat.le_refl _) hql hm'
                      have h8 : b ∉ (Value.slice ra q rc).ownBlock.toList := fun hm' => by
                        rw [Option.mem_toList] at hm'
                        exact h4 hm'.symm
                      rw [hkr.cell (p := ⟨b, N j + t', none⟩) (by show b < _; omega) h8, (unhide HKX).cell (p := ⟨b, N j + t', none⟩) h3 h7]
                      exact h6 t' ht'
              clear ho2 hg2 hn2 hl2
              go_wp2
              obtain ⟨q1, q2, q3, q4, q5, q6⟩ := unhide HREL
              exact ⟨⟨q + 1, _, by omega, by simp, q1, q2, q3, q4, q5, q6⟩, by simp [intOf]; omega⟩
        · obtain rfl : q = i := by omega
          have t1' : ((q : Int) < (q : Int)) = False := by simp
          refine world_at (R := fun W2 => Kept F w W2 ∧ W2.ownsRow W.heap.size 22 1 u5 q ((List.range q).map G) ∧ (∀ j, j < q → RdB W2 (V j) (N j) (m1 j)) ∧ (∀ j, j < q → ∃ b c, G j = .slice (some ⟨b, 0, none⟩) (N j + 80) c ∧ ∀ t, t < 80 → W2.cell? ⟨b, N j + t, none⟩ = some (.int .u8 (m2 j t)))) ⟨hk, ho, hR, fun j hj => by obtain ⟨b, c, h1, _, _, _, h2⟩ := hG j hj; exact ⟨b, c, h1, h2⟩⟩ ?_
          clear hk hsz ho hR hO hG
          rintro W2 ⟨hk, ho, hR, hG⟩
          obtain ⟨ra, rc, hr5⟩ := own_len ho
          subst hr5
          have HK2 := hide hk
          have HO2 := hide ho
          have HR2 := hide hR
          have HG2 := hide hG
          have HAL2 := hide (unhide HALL W2 hk)
          clear hk ho hR hG HX HD HK HI3 HI22 HALL
          go_wp2_with fail
          go_loop [9] (fun s => ∃ j : Nat, j ≤ q ∧ s = .int .i64 j) (fun s => q - (intOf s).toNat)
          case atStart => exact ⟨0, by omega, rfl⟩
          case round =>
            obtain ⟨j, hj, rfl⟩ := hrel
            by_cases hjq : j < q
            · have hc := unhide HAL2 j hjq
              have hRj := unhide HR2 j hjq
              obtain ⟨gb, gc, hGj, hGc⟩ := unhide HG2 j hjq
              obtain ⟨rb, rcap, hrv, -, -, -, -⟩ : ∃ g cap, Value.slice ra q rc = .slice (some ⟨g, 0, none⟩) q cap ∧ W.heap.size ≤ g ∧ g < W2.heap.size ∧ q ≤ cap ∧ cap ≤ maxLen := by
                rcases (unhide HO2).2 with ⟨_, h2⟩ | ⟨g, cap, cur, hv, hb', hg, hcc, hmm, _⟩
                · omega
                · exact ⟨g, cap, hv, hb', (Array.getElem?_eq_some_iff.1 hg).1, hcc, hmm⟩
              have era : ra = some ⟨rb, 0, none⟩ := by cases hrv; rfl
              subst era
              clear hrv
              have hrj : W2.cell? ⟨rb, j, none⟩ = some (.slice (some ⟨gb, 0, none⟩) (N j + 80) gc) := by
                have h9 := (unhide HO2).cells (g := rb) rfl j (G j) (by simp [hjq])
                have hadd : (⟨rb, 0, none⟩ : Addr).add j = ⟨rb, j, none⟩ := by unfold Addr.add; split <;> simp_all
                rw [hadd, hGj] at h9
                exact h9
              obtain ⟨av, cv, hVj⟩ := hRj.1
              rw [hVj] at hc
              have HRJ := hide hRj
              have HVJ := hide hVj
              have HGC := hide hGc
              have hNj := (unhide HA).room j hjq
              clear hRj hVj hGc hGj
              generalize N j = n at *
              have t2 : ((j : Int) < (q : Int)) = True := by simp; omega
              have e1 : IntKind.i64.wrap (37 * (j : Int)) = 37 * (j : Int) := by rw [IntKind.wrap_i64]; omega
              have e4 : IntKind.i64.wrap (101 * (j : Int)) = 101 * (j : Int) := by rw [IntKind.wrap_i64]; omega
              go_wp2_with fail
              go_loop [11] (fun s => ∃ k : Nat, k ≤ n ∧ s = .int .i64 k) (fun s => n - (intOf s).toNat)
              case atStart => exact ⟨0, by omega, rfl⟩
              case round =>
                obtain ⟨k, hk, rfl⟩ := hrel
                by_cases hkn : k < n
                · obtain ⟨vb, vc, hv, -, hcv⟩ := (unhide HRJ).cell hkn
                  rw [unhide HVJ] at hv
                  have ea : av = some ⟨vb, 0, none⟩ := by cases hv; rfl
                  subst ea
                  clear hv
                  have HM : Hid (m1 j k = (37 * (j : Int) + 5 * (k : Int) + 11) % 256) := rfl
                  generalize m1 j k = mm at *
                  have t3 : ((k : Int) < (n : Int)) = True := by simp; omega
                  have e1b : IntKind.i64.wrap (5 * (k : Int)) = 5 * (k : Int) := by rw [IntKind.wrap_i64]; omega
                  have e2 : IntKind.i64.wrap (37 * (j : Int) + 5 * (k : Int)) = 37 * (j : Int) + 5 * (k : Int) := by rw [IntKind.wrap_i64]; omega
                  have e2b : IntKind.i64.wrap (37 * (j : Int) + 5 * (k : Int) + 11) = 37 * (j : Int) + 5 * (k : Int) + 11 := by rw [IntKind.wrap_i64]; omega
                  have e3 : IntKind.u8.wrap (37 * (j : Int) + 5 * (k : Int) + 11) = mm := by rw [IntKind.wrap_u8]; exact (unhide HM).symm
                  go_wp2
                  exact ⟨⟨k + 1, by omega, by simp⟩, by simp [intOf]; omega⟩
                · obtain rfl : k = n := by omega
                  have t3 : ((k : Int) < (k : Int)) = False := by simp
                  go_wp2_with fail
                  go_loop [12] (fun s => ∃ t : Nat, t ≤ 80 ∧ s = .int .i64 t) (fun s => 80 - (intOf s).toNat)
                  case atStart => exact ⟨0, by omega, rfl⟩
                  case round =>
                    obtain ⟨t, ht, rfl⟩ := hrel
                    by_cases ht8 : t < 80
                    · have hcg := unhide HGC t ht8
                      have HM : Hid (m2 j t = (101 * (j : Int) + 3 * (t : Int) + 60) % 256) := rfl
                      generalize m2 j t = mm at *
                      have t5 : ((t : Int) < 80) = True := by simp; omega
                      have e1c : IntKind.i64.wrap (3 * (t : Int)) = 3 * (t : Int) := by rw [IntKind.wrap_i64]; omega
                      have e5 : IntKind.i64.wrap (101 * (j : Int) + 3 * (t : Int)) = 101 * (j : Int) + 3 * (t : Int) := by rw [IntKind.wrap_i64]; omega
                      have e2c : IntKind.i64.wrap (101 * (j : Int) + 3 * (t : Int) + 60) = 101 * (j : Int) + 3 * (t : Int) + 60 := by rw [IntKind.wrap_i64]; omega
                      have e6 : IntKind.u8.wrap (101 * (j : Int) + 3 * (t : Int) + 60) = mm := by rw [IntKind.wrap_u8]; exact (unhide HM).symm
                      have e7 : ((k : Int) + (t : Int)).toNat = k + t := by omega
                      have e8 : ((k : Int) + (t : Int) < (k : Int) + 80) = True := by simp; omega
                      have e9 : ((0 : Int) ≤ (k : Int) + (t : Int)) = True := by simp; omega
                      go_wp2
                      exact ⟨⟨t + 1, by omega, by simp⟩, by simp [intOf]; omega⟩
                    · have t5 : ((t : Int) < 80) = False := by simp; omega
                      go_wp2
                      exact ⟨⟨j + 1, by omega, by simp⟩, by simp [intOf]; omega⟩
            · obtain rfl : j = q := by omega
              have t2 : ((j : Int) < (j : Int)) = False := by simp
              go_wp2
              go_ret
              exact ⟨rfl, unhide HK2⟩
end Go.Proofs.Ytocmgfmfalaebab

/- RecordForm. -/
namespace Go.Proofs.Ytocmgfmfalaebab
open Go.RowKit

theorem zeroW (w : World) : RecW w zeroP nilL := ⟨Or.inl (Or.inl ⟨rfl, rfl⟩), Or.inl (Or.inl ⟨rfl, rfl⟩), Or.inl (Or.inl ⟨rfl, rfl⟩), by simp [zeroP], by simp [zeroP], by simp [zeroP]⟩
theorem rv_zero : rv zeroP nilL = .agg #[.int .i64 0, .int .i64 0, .int .i64 0, .int .i64 0, .int .i64 0, .int .i64 0, .int .i64 0, .slice none 0 0, .slice none 0 0, .int .i64 0, .slice none 0 0] := rfl
/-- The lists of a sound record are short. -/
theorem snd_len {p : Pl} (h : snd p = true) : p.key.length ≤ 64 ∧ p.val.length ≤ 256 ∧ p.copy.length ≤ 262144 := by
  rcases (snd_iff p).1 h with h | h | h | h
  · obtain ⟨-, -, -, -, h5, -, -, h8⟩ := h
    have := wrt_iff.1 h5
    rw [h8]
    simp
    omega
  · obtain ⟨-, -, -, -, -, -, ⟨-, h1, h2, -⟩, h8⟩ := h
    rw [h1, h2, h8]; simp
  · obtain ⟨-, -, -, -, h5, -, -, ⟨-, h1, h2, -⟩⟩ := h
    rw [h1, h2]; simp; exact h5
  · obtain ⟨-, -, -, -, -, -, ⟨-, h1, h2, -⟩, h8⟩ := h
    rw [h1, h2, h8]; simp
theorem NewR.snd {w W : World} {p : Pl} {l : Lo} (h : NewR w p l W) (hs : snd p = true) : RecW W p l := by
  have := snd_len hs
  exact h.recW (by omega) (by omega) (by omega)

end Go.Proofs.Ytocmgfmfalaebab

/- RecordBack. -/
namespace Go.Proofs.Ytocmgfmfalaebab
open Go.RowKit

/-- Two records in their boxes. -/
structure TwoR (w : World) (p q : Pl) (l m : Lo) (b b2 : Nat) (X : World) : Prop where
  one : RecW X p l
  two : RecW X q m
  b1 : Blk X b (rcc p l) 26
  bb : Blk X b2 (rcc q m) 26
  kept : Kept [] w X
theorem TwoR.go {w : World} {p q : Pl} {l m : Lo} {b b2 : Nat} {X Y : World} (h : TwoR w p q l m b b2 X) (k : Kept [] X Y) : TwoR w p q l m b b2 Y := ⟨h.one.kept k, h.two.kept k, h.b1.kept k (by simp), h.bb.kept k (by simp), h.kept.step k⟩
theorem TwoR.begin {w : World} {p q : Pl} {l m : Lo} (h1 : RecW w p l) (h2 : RecW w q m) : TwoR w p q l m w.heap.size (w.heap.size + 1) ((w.alloc (.cells (rcc p l) 26)).alloc (.cells (rcc q m) 26)) := by
  have k := ((Kept.refl [] w).alloc (.cells (rcc p l) 26)).alloc (.cells (rcc q m) 26)
  exact ⟨h1.kept k, h2.kept k, (Blk.new _ _ _).alloc _, new1 _ _ _ _, k⟩
/-- A form is of bytes. -/
theorem enc_bytes {p : Pl} (h : snd p = true) (hk : ∀ x ∈ p.key, x < 256) (hv : ∀ x ∈ p.val, x < 256) (hc : ∀ x ∈ p.copy, x < 256) : ∀ x ∈ enc p, x < 256 := by
  have hO : wrt p.okind p.key.length p.val.length p.rev = true → ∀ x ∈ formO p, x < 256 := fun hw x hx => by
    have h3 := (wrt_iff.1 hw).2
    unfold formO at hx
    simp only [List.mem_append, List.mem_singleton] at hx
    rcases hx with ((hx | hx | hx) | hx) | hx
    · omega
    · exact form_byte _ x hx
    · exact hk x hx
    · split at hx
      · rcases List.mem_append.1 hx with hx | hx
        · exact form_byte _ x hx
        · exact hv x hx
      · cases hx
    · split at hx
      · exact form_byte _ x hx
      · cases hx
  intro x hx
  rcases (snd_iff p).1 h with g | g | g | g
  · rw [enc_W g.1] at hx
    simp only [List.mem_append, List.mem_singleton] at hx
    rcases hx with hx | hx | hx | hx | hx
    · omega
    · exact form_byte _ x hx
    · exact form_byte _ x hx
    · exact form_byte _ x hx
    · exact hO g.2.2.2.2.1 x hx
  · rw [enc_O g.1] at hx
    simp only [List.mem_append, List.mem_singleton] at hx
    rcases hx with hx | hx | hx
    · omega
    · exact form_byte _ x hx
    · exact form_byte _ x hx
  · rw [enc_I g.1] at hx
    simp only [List.mem_append, List.mem_singleton] at hx
    rcases hx with hx | hx | hx | hx | hx | hx
    · omega
    · exact form_byte _ x hx
    · exact form_byte _ x hx
    · exact form_byte _ x hx
    · exact form_byte _ x hx
    · exact hc x hx
  · rw [enc_S g.1] at hx
    simp only [List.mem_append, List.mem_singleton] at hx
    rcases hx with hx | hx
    · have := g.1; omega
    · exact form_byte _ x hx

end Go.Proofs.Ytocmgfmfalaebab
