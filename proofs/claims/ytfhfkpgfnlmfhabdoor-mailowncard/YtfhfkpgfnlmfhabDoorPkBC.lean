/- Texts laid one behind the other: PKeep PApart XLn XU XU2. -/
import Derived.Test.YtfhfkpgfnlmfhabDoorPkT
import Derived.Laws.BitsAllLaws
import Derived.Test.YtfhfkpgfnlmfhabDoorPkX
import Derived.Test.YtfhfkpgfnlmfhabDoorPkZ
/- Rows of bytes of the call's own; append that leaves what was there. -/
namespace Go.Proofs.YtfhfkpgfnlmfhabDoor
open Go.RowKit

def b8s (l : List Int) : List Value := l.map (Value.int .u8)
theorem b8s_length (l : List Int) : (b8s l).length = l.length := by simp [b8s]
theorem b8s_append (l m : List Int) : b8s (l ++ m) = b8s l ++ b8s m := by simp [b8s]
theorem b8s_at (l : List Int) {j : Nat} (hj : j < l.length) : (b8s l)[j]? = some (.int .u8 (l.getD j 0)) := by
  simp [b8s, List.getElem?_eq_getElem hj]
theorem b8s_set (l : List Int) (k : Nat) (x : Int) : b8s (l.set k x) = (b8s l).set k (.int .u8 x) := by simp [b8s, List.map_set]
theorem info5p : (Tryd.prog.info? 5).map (fun i => (i.zero, i.size, i.bytes)) = some (some (.int .u8 0), 1, 1) := by kernel_rfl
theorem cell_one_new (w : World) (v : Value) (t : TypeId) : ∀ j u, [v][j]? = some u → (w.alloc (.cells #[v] t)).cell? ((⟨w.heap.size, 0, none⟩ : Addr).add j) = some u := by
  intro j u hj
  match j, hj with
  | 0, hj => simp at hj; subst hj; have := blk1 (Blk.new w #[v] t); simp [Addr.add]

theorem rowI_of_own {w : World} {base n : Nat} {v : Value} {l : List Int} (h : w.ownsRow base 5 1 v n (b8s l)) (hn : 0 < n) :
    ∃ g cap, v = .slice (some ⟨g, 0, none⟩) n cap ∧ base ≤ g ∧ g < w.heap.size ∧ n ≤ cap ∧ cap ≤ maxLen := by
  rcases h.2 with ⟨_, h2⟩ | ⟨g, cap, cur, hv, hb, hg, hc, hm, _⟩
  · omega
  · exact ⟨g, cap, hv, hb, (Array.getElem?_eq_some_iff.1 hg).1, hc, hm⟩
theorem ownI_cell {w : World} {base n g cap : Nat} {l : List Int} (h : w.ownsRow base 5 1 (.slice (some ⟨g, 0, none⟩) n cap) n (b8s l)) {k : Nat} (hk : k < l.length) :
    w.cell? ⟨g, k, none⟩ = some (.int .u8 (l.getD k 0)) := by
  have := h.cells (g := g) rfl k (.int .u8 (l.getD k 0)) (b8s_at l hk)
  have hadd : (⟨g, 0, none⟩ : Addr).add k = ⟨g, k, none⟩ := by unfold Addr.add; split <;> simp_all
  rw [hadd] at this
  exact this
theorem ownI_frozen {w : World} {base n g cap : Nat} {xs : List Value} (h : w.ownsRow base 5 1 (.slice (some ⟨g, 0, none⟩) n cap) n xs) (k : Nat) : w.frozen? ⟨g, k, none⟩ = false := by
  rcases h.2 with ⟨h1, _⟩ | ⟨g', cap', cur, hv, hb, hg, _⟩
  · cases h1
  · cases hv
    exact Blk.frozen hg k
theorem ownI_set {w : World} {base n g cap : Nat} {l : List Int} (h : w.ownsRow base 5 1 (.slice (some ⟨g, 0, none⟩) n cap) n (b8s l)) (k : Nat) (y : Int) :
    (w.setCell ⟨g, k, none⟩ (.int .u8 y)).ownsRow base 5 1 (.slice (some ⟨g, 0, none⟩) n cap) n (b8s (l.set k y)) := by
  refine ⟨by rw [b8s_length, List.length_set, ← b8s_length]; exact h.1, ?_⟩
  rcases h.2 with ⟨h1, _⟩ | ⟨g', cap', cur, hv, hb, hg, hc, hm, hs, ht⟩
  · cases h1
  · cases hv
    refine Or.inr ⟨g, cap, cur.setIfInBounds k (.int .u8 y), rfl, hb, Blk.set hg k _, hc, hm, by simpa using hs, ?_⟩
    rw [b8s_set, ← ht]
    rw [Array.toList_setIfInBounds, List.take_set]

/-- one number more: the row's first cells stay where they lay -/
theorem run_append_keep {P : Program} (w : World) (base : Nat) (t ty : TypeId) (i : TypeInfo) (z : Value) (ht : P.underlying t = some (.slice 5)) (hi : P.info? 5 = some i) (hz : i.zero = some z)
    (hsize : i.size = 1) (hby : i.bytes = 1) (hzs : z.cells.size = 1)
    (v : Value) (n : Nat) (xs : List Value) (hown : w.ownsRow base 5 1 v n xs) (a : Addr) (x : Value) (hx1 : x.oneCell' = true) (hnews : ∀ j u, [x][j]? = some u → w.cell? (a.add j) = some u)
    (h63 : n + 1 ≤ 17592186044416) (hbase : base ≤ w.heap.size) :
    ∃ v' w', (Builtin.append_ #[t, t] ty #[v, .slice (some a) 1 1]).run P w = .ok v' w' ∧ w'.ownsRow base 5 1 v' (n + 1) (xs ++ [x]) ∧ w.grownBy w' v.ownBlock ∧ (v'.ownBlock = v.ownBlock ∨ v'.ownBlock = some w.heap.size) ∧
      (∀ b, v.ownBlock = some b → ∀ k, k < n → w'.cell? ⟨b, k, none⟩ = w.cell? ⟨b, k, none⟩) := by
  have h1 : ∀ u ∈ [x], u.oneCell' = true := by intro u hu; simp at hu; rw [hu]; exact hx1
  obtain ⟨v', w', hr, h2, h3, _, h5⟩ := run_append_own_at (P := P) w base t ty 5 i z 1 1 ht hi hz hsize hby hzs (by decide) v n xs hown a 1 1 [x] rfl hnews h1 (by unfold maxLen; omega) (by omega) hbase
  refine ⟨v', w', hr, h2, h3, h5, ?_⟩
  intro b hb k hk
  rcases hown.2 with ⟨rfl, _⟩ | ⟨g, cap, cur, hv, hbg, hg, hnc, hcm, hcs, htake⟩
  · cases hb
  · subst hv
    have hbg2 : g = b := by simpa [Value.ownBlock] using hb
    subst hbg2
    have hadd : ∀ k, (⟨g, 0, none⟩ : Addr).add k = ⟨g, k, none⟩ := fun k => by unfold Addr.add; split <;> simp_all
    have hxl : xs.length = n := by have := hown.1; omega
    have hold : w.cell? ⟨g, k, none⟩ = xs[k]? := by
      have := hown.cells (g := g) rfl k xs[k] (List.getElem?_eq_getElem (by omega))
      rw [hadd] at this
      rw [this, List.getElem?_eq_getElem (by omega)]
    by_cases hroom : n + 1 ≤ cap
    · have hfit : n * i.size + [x].length ≤ cur.size := by rw [hsize, hcs]; simp; omega
      have hr2 := run_append_room (P := P) w t ty 5 i ht hi g n cap cur hg a 1 1 [x] (by rw [hsize]; rfl) hnews h1 hroom hfit
      rw [hr] at hr2
      injection hr2 with e1 e2
      subst e1
      have := h2.cells (g := g) rfl k xs[k] (by rw [List.getElem?_append_left (by omega)]; exact List.getElem?_eq_getElem (by omega))
      rw [hadd] at this
      rw [this, hold, List.getElem?_eq_getElem (by omega)]
    · have holds : ∀ j u, xs[j]? = some u → w.cell? ((⟨g, 0, none⟩ : Addr).add j) = some u := hown.cells (g := g) rfl
      have hr2 := run_append_grow (P := P) w t ty 5 i z ht hi hz ⟨g, 0, none⟩ n cap xs (by rw [hsize]; exact hown.1) holds a 1 1 [x] (by rw [hsize]; rfl) hnews (by omega) (by omega) (growslice_fits (by omega) (by rw [hby]; omega))
      rw [hr] at hr2
      injection hr2 with e1 e2
      subst e2
      have hgl : g < w.heap.size := (Array.getElem?_eq_some_iff.1 hg).1
      exact World.cell?_of_block (w := w) (heap_alloc_old w.drew _ hgl)

theorem wpList_append_keep {P : Program} (w : World) {ops : Array Oper} {rest : List Oper} {o : Oper} {a : Act} {Q : Exit → Act → World → Prop} (hgd : o.guard = none) (s x : Operand) (t : TypeId)
    (ho : o.op = .call { callee := .builtin .append, args := #[s, x], argTypes := #[t, t] })
    (base : Nat) (i : TypeInfo) (z : Value) (ht : P.underlying t = some (.slice 5)) (hi : P.info? 5 = some i) (hz : i.zero = some z)
    (hsize : i.size = 1) (hby : i.bytes = 1) (hzs : z.cells.size = 1)
    (v : Value) (n : Nat) (xs : List Value) (hs : a.eval s = v) (hown : w.ownsRow base 5 1 v n xs) (ad : Addr) (y : Value) (hy1 : y.oneCell' = true) (hxv : a.eval x = .slice (some ad) 1 1) (hnews : ∀ j u, [y][j]? = some u → w.cell? (ad.add j) = some u)
    (h63 : n + 1 ≤ 17592186044416) (hbase : base ≤ w.heap.size)
    (h : ∀ v' w', w'.ownsRow base 5 1 v' (n + 1) (xs ++ [y]) → w.grownBy w' v.ownBlock → (v'.ownBlock = v.ownBlock ∨ v'.ownBlock = some w.heap.size) → (∀ b, v.ownBlock = some b → ∀ k, k < n → w'.cell? ⟨b, k, none⟩ = w.cell? ⟨b, k, none⟩) → wpList P ops Q rest (a.put o.dst v') w') :
    wpList P ops Q (o :: rest) a w := by
  refine wpList_plain hgd fun K hK => ?_
  obtain ⟨v', w', hr, h2, h3, h4, h5⟩ := run_append_keep (P := P) w base t o.type i z ht hi hz hsize hby hzs v n xs hown ad y hy1 hnews h63 hbase
  unfold Oper.wp execOp
  simp only [ho, resolve, invoke, builtin, Sem.run_bind, Sem.run_pure, Result.andThen_ok, List.map_toArray, List.map_cons, List.map_nil, hs, hxv, hr]
  exact hK _ _ (h v' w' h2 h3 h4 h5)

/-- The slice v reads as f, for N numbers. -/
def RdB (w : World) (v : Value) (N : Nat) (f : Nat → Int) : Prop :=
  (∃ a cap, v = .slice a N cap) ∧ N ≤ 9223372036854775807 ∧ (N = 0 ∨ ∃ b cap, v = .slice (some ⟨b, 0, none⟩) N cap ∧ b < w.heap.size ∧ ∀ k, k < N → w.cell? ⟨b, k, none⟩ = some (.int .u8 (f k)))
theorem RdB.kept {F : List Nat} {w w' : World} {v : Value} {N : Nat} {f : Nat → Int} (h : RdB w v N f) (hk : Kept F w w') (hn : ∀ b, v.ownBlock = some b → b ∉ F) : RdB w' v N f := by
  refine ⟨h.1, h.2.1, ?_⟩
  rcases h.2.2 with h0 | ⟨b, cap, hv, hb, hc⟩
  · exact Or.inl h0
  · refine Or.inr ⟨b, cap, hv, Nat.lt_of_lt_of_le hb hk.size, fun k hk' => ?_⟩
    rw [hk.cell (p := ⟨b, k, none⟩) hb (hn b (by rw [hv]; rfl))]
    exact hc k hk'
theorem RdB.of_own {w : World} {base : Nat} {v : Value} {l : List Int} {N : Nat} (hl : l.length = N) (h : w.ownsRow base 5 1 v N (b8s l)) {f : Nat → Int} (hf : ∀ k, k < N → l.getD k 0 = f k) : RdB w v N f := by
  rcases h.2 with ⟨hv, h0⟩ | ⟨g, cap, cur, hv, hb, hg, hc, hm, _⟩
  · exact ⟨⟨none, 0, by rw [hv, h0]⟩, by omega, Or.inl h0⟩
  · refine ⟨⟨_, _, hv⟩, by unfold maxLen at hm; omega, Or.inr ⟨g, cap, hv, (Array.getElem?_eq_some_iff.1 hg).1, fun k hk => ?_⟩⟩
    subst hv
    rw [ownI_cell h (by omega), hf k hk]
theorem RdB.cell {w : World} {v : Value} {N : Nat} {f : Nat → Int} (h : RdB w v N f) {k : Nat} (hk : k < N) : ∃ b cap, v = .slice (some ⟨b, 0, none⟩) N cap ∧ b < w.heap.size ∧ w.cell? ⟨b, k, none⟩ = some (.int .u8 (f k)) := by
  rcases h.2.2 with h0 | ⟨b, cap, hv, hb, hc⟩
  · omega
  · exact ⟨b, cap, hv, hb, hc k hk⟩
end Go.Proofs.YtfhfkpgfnlmfhabDoor

/- apart: lists that share no memory. -/
namespace Go.Proofs.YtfhfkpgfnlmfhabDoor
open Go.RowKit

def m1 (i k : Nat) : Int := (37 * (i : Int) + 5 * (k : Int) + 11) % 256
def m2 (i t : Nat) : Int := (101 * (i : Int) + 3 * (t : Int) + 60) % 256
theorem info22p : (Tryd.prog.info? 23).map (fun i => (i.zero, i.size, i.bytes)) = some (some (.slice none 0 0), 1, 24) := by kernel_rfl

/-- what one list is gone on with -/
def app (q : Nat) : Nat → List Int
  | 0 => []
  | t + 1 => app q t ++ [m2 q t]
theorem app_length (q t : Nat) : (app q t).length = t := by
  induction t with
  | zero => rfl
  | succ t ih => simp [app, ih]
theorem app_at (q : Nat) {t n : Nat} (h : t < n) : (app q n).getD t 0 = m2 q t := by
  induction n with
  | zero => omega
  | succ n ih =>
    by_cases e : t = n
    · subst e
      simp [app, app_length]
    · have := ih (by omega)
      rw [app, List.getD, List.getElem?_append_left (by rw [app_length]; omega)]
      exact this
theorem kept_grown {w w' : World} {row : Option Nat} (h : w.grownBy w' row) : Kept row.toList w w' :=
  (Kept.refl _ w).grown h (fun k hk => Or.inl (by rw [hk]; simp))

/-- rows of the call's own, each in its own block -/
structure Aps (w : World) (m ab base : Nat) (V : Nat → Value) (N : Nat → Nat) (F : List Nat) : Prop where
  few : m ≤ 4194304
  abl : ab < w.heap.size
  all : ∀ i, i < m → w.cell? ⟨ab, i, none⟩ = some (V i)
  room : ∀ i, i < m → N i + 80 ≤ 17592186044416
  dis : ∀ i j, i < m → j < m → i ≠ j → ∀ b, (V i).ownBlock = some b → (V j).ownBlock ≠ some b
  inF : ∀ i, i < m → ∀ b, (V i).ownBlock = some b → b ∈ F
  notF : ab ∉ F
  bl : ∀ i, i < m → ∀ b, (V i).ownBlock = some b → b < w.heap.size

set_option maxRecDepth 100000 in
set_option maxHeartbeats 4000000 in
theorem apart_any {w : World} {m mc ab base : Nat} {V : Nat → Value} {N : Nat → Nat} {F : List Nat} (A : Aps w m ab base V N F) (hb : base ≤ w.heap.size) (X : Nat → List Int) (hX : ∀ i, i < m → w.ownsRow base 5 1 (V i) (N i) (b8s (X i))) :
    Calls Tryd.prog 14 #[.slice (some ⟨ab, 0, none⟩) m mc] w fun e w' => e = .returned (.bool true) ∧ Kept F w w' := by
  have HA := hide A
  have HX := hide hX
  have hm := A.few
  obtain ⟨i3, hi, hz0, hz1, hz2⟩ := info_parts info5p
  have HI3 := hide (⟨hi, hz0, hz1, hz2⟩ : _ ∧ _ ∧ _ ∧ _)
  clear hi hz0 hz1 hz2
  obtain ⟨i22, hi, hz0, hz1, hz2⟩ := info_parts info22p
  have HI22 := hide (⟨hi, hz0, hz1, hz2⟩ : _ ∧ _ ∧ _ ∧ _)
  clear hi hz0 hz1 hz2
  have HALL : Hid (∀ wx, Kept F w wx → ∀ i, i < m → wx.cell? ⟨ab, i, none⟩ = some (V i)) := fun wx hk i hi => (hk.cell (p := ⟨ab, i, none⟩) A.abl A.notF).trans (A.all i hi)
  clear A hX
  go_enter Tryd.func14, Tryd.ntmps14
  go_wp2_with fail
  go_loopw [3] (fun s wr => ∃ i : Nat, i ≤ m ∧ s = .int .i64 i ∧ Kept F w wr ∧ ∃ X' : Nat → List Int, (∀ j, j < m → wr.ownsRow base 5 1 (V j) (N j) (b8s (X' j))) ∧ ∀ j, j < i → ∀ k, k < N j → (X' j).getD k 0 = m1 j k) (fun s _ => m - (intOf s).toNat)
  case atStart => exact ⟨0, by omega, rfl, Kept.refl _ _, X, unhide HX, fun j hj => by omega⟩
  case round =>
    obtain ⟨i, hi, rfl, hk, X', hX', hdone⟩ := hrel
    by_cases him : i < m
    · have t1 : ((i : Int) < (m : Int)) = True := by simp; omega
      obtain ⟨av, cv, hVi⟩ := own_len (hX' i him)
      have HVI := hide hVi
      have hNi := (unhide HA).room i him
      have HK := hide hk
      have HX' := hide hX'
      have HD := hide hdone
      clear hk hX' hdone hVi
      refine world_at (R := fun W => Kept F w W ∧ (∀ j, j < m → W.ownsRow base 5 1 (V j) (N j) (b8s (X' j)))) ⟨unhide HK, unhide HX'⟩ ?_
      clear HK HX'
      rintro W ⟨hk, hX'⟩
      have HK := hide hk
      have HX' := hide hX'
      clear hk hX'
      generalize hn : N i = n at *
      have HN := hide hn
      clear hn
      go_wp2_with fail
      go_loopw [4] (fun s wr => ∃ k : Nat, k ≤ n ∧ s = .int .i64 k ∧ Kept F w wr ∧ ∃ Y : List Int, (∀ j, j < m → wr.ownsRow base 5 1 (V j) (N j) (b8s (if j = i then Y else X' j))) ∧ ∀ q, q < k → Y.getD q 0 = m1 i q) (fun s _ => n - (intOf s).toNat)
      case atStart =>
        refine ⟨0, by omega, rfl, unhide HK, X' i, fun j hj => ?_, fun q hq => by omega⟩
        by_cases e : j = i
        · rw [if_pos e, e]; have := unhide HX' i him; exact this
        · rw [if_neg e]; exact unhide HX' j hj
      case round =>
        obtain ⟨k, hkn, rfl, hk2, Y, hY, hYd⟩ := hrel
        have hc := unhide HALL wr hk2 i him
        rw [unhide HVI] at hc
        by_cases hkl : k < n
        · have hYi := hY i him
          rw [if_pos rfl, unhide HN, unhide HVI] at hYi
          have hYl : Y.length = n := by have := hYi.1; rw [b8s_length] at this; omega
          obtain ⟨g, c, hg, hg1, hg2, -, -⟩ := rowI_of_own hYi (by omega)
          have ea : av = some ⟨g, 0, none⟩ := by cases hg; rfl
          have ec : c = cv := by cases hg; rfl
          subst ea ec
          have hcell := ownI_cell hYi (k := k) (by omega)
          have hfr := ownI_frozen hYi k
          have hne : g ≠ ab := fun e => (unhide HA).notF (by rw [← e]; exact (unhide HA).inF i him g (by rw [unhide HVI]; rfl))
          have HNX : Hid (Kept F w (wr.setCell ⟨g, k, none⟩ (.int .u8 (m1 i k))) ∧ (∀ j, j < m → (wr.setCell ⟨g, k, none⟩ (.int .u8 (m1 i k))).ownsRow base 5 1 (V j) (N j) (b8s (if j = i then Y.set k (m1 i k) else X' j))) ∧ ∀ q, q < k + 1 → (Y.set k (m1 i k)).getD q 0 = m1 i q) := by
            refine ⟨hk2.setCell (Or.inl ((unhide HA).inF i him g (by rw [unhide HVI]; rfl))) _, fun j hj => ?_, fun q hq => ?_⟩
            · by_cases e : j = i
              · rw [if_pos e, e, unhide HN, unhide HVI]; exact ownI_set hYi k _
              · have h9 := hY j hj
                rw [if_neg e] at h9 ⊢
                refine own_kept h9 (F := [g]) ((Kept.refl [g] wr).setCell (Or.inl (by simp)) _) (fun b hb' => ?_)
                have := (unhide HA).dis j i hj him e b hb'
                rw [unhide HVI] at this
                intro hm'
                simp at hm'
                subst hm'
                exact this rfl
            · by_cases e : q = k
              · rw [e, List.getD, List.getElem?_set_self (by omega)]; rfl
              · rw [List.getD, List.getElem?_set_ne (fun e' => e e'.symm)]; exact hYd q (by omega)
          have HM : Hid (m1 i k = (37 * (i : Int) + 5 * (k : Int) + 11) % 256) := rfl
          generalize m1 i k = mm at *
          clear hY hYi hYd hg hk2
          have t2 : ((k : Int) < (n : Int)) = True := by simp; omega
          have e1 : IntKind.i64.wrap (37 * (i : Int)) = 37 * (i : Int) := by rw [IntKind.wrap_i64]; omega
          have e1b : IntKind.i64.wrap (5 * (k : Int)) = 5 * (k : Int) := by rw [IntKind.wrap_i64]; omega
          have e2 : IntKind.i64.wrap (37 * (i : Int) + 5 * (k : Int)) = 37 * (i : Int) + 5 * (k : Int) := by rw [IntKind.wrap_i64]; omega
          have e2b : IntKind.i64.wrap (37 * (i : Int) + 5 * (k : Int) + 11) = 37 * (i : Int) + 5 * (k : Int) + 11 := by rw [IntKind.wrap_i64]; omega
          have e3 : IntKind.u8.wrap (37 * (i : Int) + 5 * (k : Int) + 11) = mm := by rw [IntKind.wrap_u8]; exact (unhide HM).symm
          generalize Y.getD k 0 = y0 at hcell
          go_wp2
          obtain ⟨q1, q2, q3⟩ := unhide HNX
          exact ⟨⟨k + 1, by omega, by simp, q1, Y.set k mm, q2, q3⟩, by simp [intOf]; omega⟩
        · obtain rfl : k = n := by omega
          have t2 : ((k : Int) < (k : Int)) = False := by simp
          have HREL : Hid (Kept F w wr ∧ (∀ j, j < m → wr.ownsRow base 5 1 (V j) (N j) (b8s ((fun j => if j = i then Y else X' j) j))) ∧ ∀ j, j < i + 1 → ∀ q, q < N j → ((fun j => if j = i then Y else X' j) j).getD q 0 = m1 j q) := by
            refine ⟨hk2, hY, fun j hj q hq => ?_⟩
            show (if j = i then Y else X' j).getD q 0 = m1 j q
            by_cases e : j = i
            · rw [if_pos e, e]; rw [e, unhide HN] at hq; exact hYd q hq
            · rw [if_neg e]; exact unhide HD j (by omega) q hq
          clear hY hYd hk2
          go_wp2
          obtain ⟨q1, q2, q3⟩ := unhide HREL
          exact ⟨⟨i + 1, by omega, by simp, q1, _, q2, q3⟩, by simp [intOf]; omega⟩
    · obtain rfl : i = m := by omega
      have t1 : ((i : Int) < (i : Int)) = False := by simp
      refine world_at (R := fun W => Kept F w W ∧ (∀ j, j < i → W.ownsRow base 5 1 (V j) (N j) (b8s (X' j)))) ⟨hk, hX'⟩ ?_
      clear hk hX' HX
      rintro W ⟨hk, hX'⟩
      have HK := hide hk
      have HX := hide hX'
      have HD := hide hdone
      have hWs := hk.size
      clear hk hX' hdone
      go_wp2_with fail
      -- all are gone on with
      go_loopw [5, 6] (fun r s wr => ∃ (q : Nat) (G : Nat → Value), q ≤ i ∧ s = .int .i64 q ∧ Kept F w wr ∧ W.heap.size ≤ wr.heap.size ∧
        wr.ownsRow W.heap.size 23 1 r q ((List.range q).map G) ∧
        (∀ j, j < i → RdB wr (V j) (N j) (m1 j)) ∧ (∀ j, q ≤ j → j < i → wr.ownsRow base 5 1 (V j) (N j) (b8s (X' j))) ∧
        (∀ j, j < q → ∃ b c, G j = .slice (some ⟨b, 0, none⟩) (N j + 80) c ∧ b < wr.heap.size ∧ some b ≠ r.ownBlock ∧ (∀ j', q ≤ j' → j' < i → (V j').ownBlock ≠ some b) ∧ ∀ t, t < 80 → wr.cell? ⟨b, N j + t, none⟩ = some (.int .u8 (m2 j t)))) (fun _ s _ => i - (intOf s).toNat)
      case atStart =>
        refine ⟨0, fun _ => .slice none 0 0, by omega, rfl, unhide HK, Nat.le_refl _, World.ownsRow_nil _ _ _ _, fun j hj => ?_, fun j _ hj => unhide HX j hj, fun j hj => by omega⟩
        have h9 := unhide HX j hj
        refine RdB.of_own ?_ h9 (fun k hk => unhide HD j hj k hk)
        have := h9.1; rw [b8s_length] at this; omega
      case round =>
        obtain ⟨q, G, hqi, rfl, hk, hsz, ho, hR, hO, hG⟩ := hrel
        by_cases hql : q < i
        · have hOq := hO q (Nat.le_refl _) hql
          obtain ⟨av, cv, hVq⟩ := own_len hOq
          have HVQ := hide hVq
          have hNq := (unhide HA).room q hql
          have hXl : (X' q).length = N q := by have := hOq.1; rw [b8s_length] at this; omega
          refine world_at (R := fun W1 => Kept F w W1 ∧ W.heap.size ≤ W1.heap.size ∧ W1.ownsRow W.heap.size 23 1 u5 q ((List.range q).map G) ∧ (∀ j, j < i → RdB W1 (V j) (N j) (m1 j)) ∧ (∀ j, q ≤ j → j < i → W1.ownsRow base 5 1 (V j) (N j) (b8s (X' j))) ∧ (∀ j, j < q → ∃ b c, G j = .slice (some ⟨b, 0, none⟩) (N j + 80) c ∧ b < W1.heap.size ∧ some b ≠ u5.ownBlock ∧ (∀ j', q ≤ j' → j' < i → (V j').ownBlock ≠ some b) ∧ ∀ t, t < 80 → W1.cell? ⟨b, N j + t, none⟩ = some (.int .u8 (m2 j t)))) ⟨hk, hsz, ho, hR, hO, hG⟩ ?_
          clear hk hsz ho hR hO hG hOq hVq
          rintro W1 ⟨hk, hsz, ho, hR, hO, hG⟩
          have HK1 := hide hk
          have HSZ := hide hsz
          have HO1 := hide ho
          have HR1 := hide hR
          have HOV := hide hO
          have HG1 := hide hG
          obtain ⟨ra, rc, hr5⟩ := own_len ho
          subst hr5
          have hc := unhide HALL W1 hk q hql
          rw [unhide HVQ] at hc
          have HXL := hide hXl
          clear hk hsz ho hR hO hG hXl
          have t2 : ((q : Int) < (i : Int)) = True := by simp; omega
          have e1 : IntKind.i64.wrap (101 * (q : Int)) = 101 * (q : Int) := by rw [IntKind.wrap_i64]; omega
          generalize hn : N q = n at *
          have HN := hide hn
          clear hn
          go_wp2_with fail
          go_loopw [7, 8] (fun g s wx => ∃ t : Nat, t ≤ 80 ∧ s = .int .i64 t ∧ wx.ownsRow base 5 1 g (n + t) (b8s (X' q ++ app q t)) ∧ Kept (V q).ownBlock.toList W1 wx ∧ (g.ownBlock = (V q).ownBlock ∨ ∃ b, g.ownBlock = some b ∧ W1.heap.size ≤ b) ∧ RdB wx (V q) n (m1 q)) (fun _ s _ => 80 - (intOf s).toNat)
          case atStart =>
            refine ⟨0, by omega, rfl, ?_, Kept.refl _ _, Or.inl (by rw [unhide HVQ]), ?_⟩
            · have h9 := unhide HOV q (Nat.le_refl _) hql
              rw [unhide HN, unhide HVQ] at h9
              simpa [app] using h9
            · have h9 := unhide HR1 q hql
              rw [unhide HN] at h9
              exact h9
          case round =>
            obtain ⟨t, ht, rfl, hog, hkx, hlo, hrd⟩ := hrel
            have HOG := hide hog
            have HKX := hide hkx
            have HLO := hide hlo
            have HRD := hide hrd
            obtain ⟨ga, gc, rfl⟩ := own_len hog
            clear hog hkx hlo hrd
            by_cases ht8 : t < 80
            · have t3 : ((t : Int) < 80) = True := by simp; omega
              have HM : Hid (m2 q t = (101 * (q : Int) + 3 * (t : Int) + 60) % 256) := rfl
              have HAP : Hid (app q (t + 1) = app q t ++ [m2 q t]) := rfl
              generalize m2 q t = mm at *
              have e1c : IntKind.i64.wrap (3 * (t : Int)) = 3 * (t : Int) := by rw [IntKind.wrap_i64]; omega
              have e2 : IntKind.i64.wrap (101 * (q : Int) + 3 * (t : Int)) = 101 * (q : Int) + 3 * (t : Int) := by rw [IntKind.wrap_i64]; omega
              have e2c : IntKind.i64.wrap (101 * (q : Int) + 3 * (t : Int) + 60) = 101 * (q : Int) + 3 * (t : Int) + 60 := by rw [IntKind.wrap_i64]; omega
              have e3 : IntKind.u8.wrap (101 * (q : Int) + 3 * (t : Int) + 60) = mm := by rw [IntKind.wrap_u8]; exact (unhide HM).symm
              have hbw : base ≤ wr.heap.size + 1 := by
                have h1 := (unhide HKX).size
                have h2 := (unhide HK1).size
                omega
              go_wp2_with (first
                | (at_builtin; refine wpList_append_keep _ rfl _ _ 23 rfl base i3 (.int .u8 0) Tryd.underlying23 (unhide HI3).1 (unhide HI3).2.1 (unhide HI3).2.2.1 (unhide HI3).2.2.2 rfl _ _ _ rfl ((unhide HOG).alloc _) ⟨wr.heap.size, 0, none⟩ (.int .u8 mm) rfl rfl (cell_one_new _ _ _) (by omega) (by rw [World.size_alloc]; exact hbw) ?_))
              intro g2 w2 ho2 hg2 hl2 hc2
              obtain ⟨g2a, g2c, rfl⟩ := own_len ho2
              have HREL : Hid (w2.ownsRow base 5 1 (.slice g2a (n + t + 1) g2c) (n + (t + 1)) (b8s (X' q ++ app q (t + 1))) ∧ Kept (V q).ownBlock.toList W1 w2 ∧ ((Value.slice g2a (n + t + 1) g2c).ownBlock = (V q).ownBlock ∨ ∃ b, (Value.slice g2a (n + t + 1) g2c).ownBlock = some b ∧ W1.heap.size ≤ b) ∧ RdB w2 (V q) n (m1 q)) := by
                refine ⟨?_, ?_, ?_, ?_⟩
                · rw [unhide HAP, ← List.append_assoc, b8s_append]; exact ho2
                · refine ((unhide HKX).alloc _).grown hg2 (fun k hk => ?_)
                  rcases unhide HLO with h1 | ⟨b, h1, h2⟩
                  · left; rw [← h1, hk]; simp
                  · right; rw [h1] at hk; cases hk; exact h2
                · rcases hl2 with h1 | h1
                  · rw [h1]; exact unhide HLO
                  · right; refine ⟨_, h1, ?_⟩; have := (unhide HKX).size; simp; omega
                · by_cases hn0 : n = 0
                  · exact ⟨(unhide HRD).1, (unhide HRD).2.1, Or.inl hn0⟩
                  · have hra := (unhide HRD).kept ((Kept.refl [] wr).alloc (.cells #[.int .u8 mm] 5)) (by simp)
                    by_cases hsame : (Value.slice ga (n + t) gc).ownBlock = (V q).ownBlock
                    · obtain ⟨hv1, hv2, hv3⟩ := hra
                      refine ⟨hv1, hv2, ?_⟩
                      rcases hv3 with h0 | ⟨b, cap, hvv, hbl, hcc⟩
                      · exact Or.inl h0
                      · refine Or.inr ⟨b, cap, hvv, Nat.lt_of_lt_of_le hbl hg2.size, fun k hk => ?_⟩
                        rw [hc2 b (by rw [hsame, hvv]; rfl) k (by omega)]
                        exact hcc k hk
                    · refine hra.kept (kept_grown hg2) (fun b hb => ?_)
                      intro hm'
                      rw [Option.mem_toList] at hm'
                      exact hsame (by rw [hb]; exact hm')
              clear ho2 hg2 hl2 hc2
              go_wp2
              obtain ⟨q1, q2, q3, q4⟩ := unhide HREL
              exact ⟨⟨t + 1, by omega, by simp, q1, q2, q3, q4⟩, by simp [intOf]; omega⟩
            · have ht80 : t = 80 := by omega
              have HT80 := hide ht80
              have t3 : ((t : Int) < 80) = False := by simp; omega
              clear ht80 ht8 ht
              have hkF : Kept F w wr := (unhide HK1).trans (unhide HKX) (fun b hb => by rw [Option.mem_toList] at hb; exact Or.inl ((unhide HA).inF q hql b hb))
              have hVlt : ∀ j, j < i → ∀ b, (V j).ownBlock = some b → b < w.heap.size := (unhide HA).bl
              have hrblk : ∀ b, (Value.slice ra q rc).ownBlock = some b → W.heap.size ≤ b ∧ b < W1.heap.size := fun b hb => (unhide HO1).lt b hb
              have hor : wr.ownsRow W.heap.size 23 1 (.slice ra q rc) q ((List.range q).map G) := own_kept (unhide HO1) (unhide HKX) (fun b hb hm' => by
                rw [Option.mem_toList] at hm'
                have h1 := hVlt q hql b hm'
                have h2 := (hrblk b hb).1
                omega)
              obtain ⟨gb, gcap, hgv, hgb1, hgb2, -, -⟩ := rowI_of_own (unhide HOG) (by have := unhide HT80; omega)
              have ega : ga = some ⟨gb, 0, none⟩ := by cases hgv; rfl
              subst ega
              clear hgv
              have hgblk : (Value.slice (some ⟨gb, 0, none⟩) (n + t) gc).ownBlock = some gb := rfl
              have hgr : (Value.slice ra q rc).ownBlock ≠ some gb := fun e => by
                have h1 := hrblk gb e
                rcases unhide HLO with h2 | ⟨b, h2, h3⟩
                · rw [hgblk] at h2; have := hVlt q hql gb h2.symm; omega
                · rw [hgblk] at h2; cases h2; omega
              have HOR := hide hor
              have HKF := hide hkF
              have HGR := hide (⟨hgr, hgb2, hrblk, hVlt⟩ : _ ∧ _ ∧ _ ∧ _)
              have hWwr : W.heap.size ≤ wr.heap.size := Nat.le_trans (unhide HSZ) (unhide HKX).size
              have HWW := hide hWwr
              clear hor hkF hgr hgb2 hrblk hVlt hgblk hgb1
              go_wp2_with (first
                | (at_builtin; refine wpList_append_own_at _ rfl _ _ 41 rfl W.heap.size 23 i22 (.slice none 0 0) 1 24 Tryd.underlying41 (unhide HI22).1 (unhide HI22).2.1 (unhide HI22).2.2.1 (unhide HI22).2.2.2 rfl (by decide) _ _ _ rfl ((unhide HOR).alloc _) ⟨wr.heap.size, 0, none⟩ 1 1 [.slice (some ⟨gb, 0, none⟩) (n + t) gc] rfl rfl (cell_one_new _ _ _) (by simp [Value.oneCell']) (by unfold maxLen; omega) (by omega) (by rw [World.size_alloc]; have := unhide HWW; omega) ?_))
              intro r2 w2 ho2 hg2 hn2 hl2
              obtain ⟨r2a, r2c, rfl⟩ := own_len ho2
              have HREL : Hid (Kept F w w2 ∧ W.heap.size ≤ w2.heap.size ∧ w2.ownsRow W.heap.size 23 1 (.slice r2a (q + 1) r2c) (q + 1) ((List.range (q + 1)).map (fun j => if j = q then .slice (some ⟨gb, 0, none⟩) (n + t) gc else G j)) ∧
                  (∀ j, j < i → RdB w2 (V j) (N j) (m1 j)) ∧ (∀ j, q + 1 ≤ j → j < i → w2.ownsRow base 5 1 (V j) (N j) (b8s (X' j))) ∧
                  (∀ j, j < q + 1 → ∃ b c, (fun j => if j = q then Value.slice (some ⟨gb, 0, none⟩) (n + t) gc else G j) j = .slice (some ⟨b, 0, none⟩) (N j + 80) c ∧ b < w2.heap.size ∧ some b ≠ (Value.slice r2a (q + 1) r2c).ownBlock ∧ (∀ j', q + 1 ≤ j' → j' < i → (V j').ownBlock ≠ some b) ∧ ∀ t, t < 80 → w2.cell? ⟨b, N j + t, none⟩ = some (.int .u8 (m2 j t)))) := by
                obtain ⟨hgr, hgb2, hrblk, hVlt⟩ := unhide HGR
                have hT := unhide HT80
                have hkr : Kept (Value.slice ra q rc).ownBlock.toList wr w2 := ((Kept.refl _ wr).alloc _).grown hg2 (fun k hk => Or.inl (by rw [hk]; simp))
                have hks := (unhide HK1).size
                have hkx1 := (unhide HKX).size
                have hsz1 := unhide HSZ
                have hnotr : ∀ b, b < W.heap.size → b ∉ (Value.slice ra q rc).ownBlock.toList := fun b hb hm' => by
                  rw [Option.mem_toList] at hm'
                  have := (hrblk b hm').1
                  omega
                have hr2b : ∀ b, (Value.slice r2a (q + 1) r2c).ownBlock = some b → (Value.slice ra q rc).ownBlock = some b ∨ wr.heap.size < b := fun b hb => by
                  rcases hl2 with h1 | h1
                  · left; rw [← h1]; exact hb
                  · right; rw [h1] at hb; cases hb; simp
                refine ⟨(unhide HKF).trans hkr (fun b hb => ?_), Nat.le_trans (unhide HWW) hkr.size, ?_, fun j hj => ?_, fun j hj1 hj2 => ?_, fun j hj => ?_⟩
                · rw [Option.mem_toList] at hb
                  have := (hrblk b hb).1
                  right; omega
                · have e9 : (List.range (q + 1)).map (fun j => if j = q then Value.slice (some ⟨gb, 0, none⟩) (n + t) gc else G j) = (List.range q).map G ++ [.slice (some ⟨gb, 0, none⟩) (n + t) gc] := by
                    rw [List.range_succ, List.map_append]
                    congr 1
                    · refine List.map_congr_left (fun a ha => ?_)
                      rw [if_neg (by have := List.mem_range.1 ha; omega)]
                    · simp
                  rw [e9]; exact ho2
                · by_cases e : j = q
                  · rw [e, unhide HN]
                    refine (unhide HRD).kept hkr (fun b hb => hnotr b ?_)
                    have := hVlt q hql b hb; omega
                  · refine ((unhide HR1 j hj).kept (unhide HKX) (fun b hb hm' => ?_)).kept hkr (fun b hb => hnotr b ?_)
                    · rw [Option.mem_toList] at hm'
                      exact (unhide HA).dis j q hj hql e b hb hm'
                    · have := hVlt j hj b hb; omega
                · refine own_kept (own_kept (unhide HOV j (by omega) hj2) (unhide HKX) (fun b hb hm' => ?_)) hkr (fun b hb => hnotr b ?_)
                  · rw [Option.mem_toList] at hm'
                    exact (unhide HA).dis j q hj2 hql (by omega) b hb hm'
                  · have := hVlt j hj2 b hb; omega
                · show ∃ b c, (if j = q then Value.slice (some ⟨gb, 0, none⟩) (n + t) gc else G j) = .slice (some ⟨b, 0, none⟩) (N j + 80) c ∧ _
                  by_cases e : j = q
                  · rw [if_pos e, e, unhide HN, hT]
                    refine ⟨gb, gc, rfl, Nat.lt_of_lt_of_le hgb2 hkr.size, ?_, ?_, ?_⟩
                    · intro e2
                      rcases hr2b gb e2.symm with h1 | h1
                      · exact hgr h1
                      · omega
                    · intro j' hj1 hj2 e2
                      rcases unhide HLO with h2 | ⟨b, h2, h3⟩
                      · have h4 : (V q).ownBlock = some gb := h2.symm
                        exact (unhide HA).dis q j' hql hj2 (by omega) gb h4 e2
                      · have h4 : gb = b := by simpa [Value.ownBlock] using h2
                        have := hVlt j' hj2 gb e2
                        omega
                    · intro t' ht'
                      have h9 : gb ∉ (Value.slice ra q rc).ownBlock.toList := fun hm' => by
                        rw [Option.mem_toList] at hm'
                        exact hgr hm'
                      rw [hkr.cell (p := ⟨gb, n + t', none⟩) hgb2 h9]
                      have h8 := ownI_cell (unhide HOG) (k := n + t') (by rw [List.length_append, app_length, unhide HXL]; omega)
                      rw [h8, List.getD, List.getElem?_append_right (by rw [unhide HXL]; omega), unhide HXL, show n + t' - n = t' by omega, ← List.getD, hT, app_at q ht']
                  · rw [if_neg e]
                    obtain ⟨b, c, h2, h3, h4, h5, h6⟩ := unhide HG1 j (by omega)
                    refine ⟨b, c, h2, ?_, ?_, fun j' hj1 hj2 => h5 j' (by omega) hj2, fun t' ht' => ?_⟩
                    · have := hkr.size; omega
                    · intro e2
                      rcases hr2b b e2.symm with h7 | h7
                      · exact h4 h7.symm
                      · omega
                    · have h7 : b ∉ (V q).ownBlock.toList := fun hm' => by
                        rw [Option.mem_toList] at hm'
                        exact h5 q (Nat.le_refl _) hql hm'
                      have h8 : b ∉ (Value.slice ra q rc).ownBlock.toList := fun hm' => by
                        rw [Option.mem_toList] at hm'
                        exact h4 hm'.symm
                      rw [hkr.cell (p := ⟨b, N j + t', none⟩) (by show b < _; omega) h8, (unhide HKX).cell (p := ⟨b, N j + t', none⟩) h3 h7]
                      exact h6 t' ht'
              clear ho2 hg2 hn2 hl2
              go_wp2
              obtain ⟨q1, q2, q3, q4, q5, q6⟩ := unhide HREL
              exact ⟨⟨q + 1, _, by omega, by simp, q1, q2, q3, q4, q5, q6⟩, by simp [intOf]; omega⟩
        · obtain rfl : q = i := by omega
          have t1' : ((q : Int) < (q : Int)) = False := by simp
          refine world_at (R := fun W2 => Kept F w W2 ∧ W2.ownsRow W.heap.size 23 1 u5 q ((List.range q).map G) ∧ (∀ j, j < q → RdB W2 (V j) (N j) (m1 j)) ∧ (∀ j, j < q → ∃ b c, G j = .slice (some ⟨b, 0, none⟩) (N j + 80) c ∧ ∀ t, t < 80 → W2.cell? ⟨b, N j + t, none⟩ = some (.int .u8 (m2 j t)))) ⟨hk, ho, hR, fun j hj => by obtain ⟨b, c, h1, _, _, _, h2⟩ := hG j hj; exact ⟨b, c, h1, h2⟩⟩ ?_
          clear hk hsz ho hR hO hG
          rintro W2 ⟨hk, ho, hR, hG⟩
          obtain ⟨ra, rc, hr5⟩ := own_len ho
          subst hr5
          have HK2 := hide hk
          have HO2 := hide ho
          have HR2 := hide hR
          have HG2 := hide hG
          have HAL2 := hide (unhide HALL W2 hk)
          clear hk ho hR hG HX HD HK HI3 HI22 HALL
          go_wp2_with fail
          go_loop [9] (fun s => ∃ j : Nat, j ≤ q ∧ s = .int .i64 j) (fun s => q - (intOf s).toNat)
          case atStart => exact ⟨0, by omega, rfl⟩
          case round =>
            obtain ⟨j, hj, rfl⟩ := hrel
            by_cases hjq : j < q
            · have hc := unhide HAL2 j hjq
              have hRj := unhide HR2 j hjq
              obtain ⟨gb, gc, hGj, hGc⟩ := unhide HG2 j hjq
              obtain ⟨rb, rcap, hrv, -, -, -, -⟩ : ∃ g cap, Value.slice ra q rc = .slice (some ⟨g, 0, none⟩) q cap ∧ W.heap.size ≤ g ∧ g < W2.heap.size ∧ q ≤ cap ∧ cap ≤ maxLen := by
                rcases (unhide HO2).2 with ⟨_, h2⟩ | ⟨g, cap, cur, hv, hb', hg, hcc, hmm, _⟩
                · omega
                · exact ⟨g, cap, hv, hb', (Array.getElem?_eq_some_iff.1 hg).1, hcc, hmm⟩
              have era : ra = some ⟨rb, 0, none⟩ := by cases hrv; rfl
              subst era
              clear hrv
              have hrj : W2.cell? ⟨rb, j, none⟩ = some (.slice (some ⟨gb, 0, none⟩) (N j + 80) gc) := by
                have h9 := (unhide HO2).cells (g := rb) rfl j (G j) (by simp [hjq])
                have hadd : (⟨rb, 0, none⟩ : Addr).add j = ⟨rb, j, none⟩ := by unfold Addr.add; split <;> simp_all
                rw [hadd, hGj] at h9
                exact h9
              obtain ⟨av, cv, hVj⟩ := hRj.1
              rw [hVj] at hc
              have HRJ := hide hRj
              have HVJ := hide hVj
              have HGC := hide hGc
              have hNj := (unhide HA).room j hjq
              clear hRj hVj hGc hGj
              generalize N j = n at *
              have t2 : ((j : Int) < (q : Int)) = True := by simp; omega
              have e1 : IntKind.i64.wrap (37 * (j : Int)) = 37 * (j : Int) := by rw [IntKind.wrap_i64]; omega
              have e4 : IntKind.i64.wrap (101 * (j : Int)) = 101 * (j : Int) := by rw [IntKind.wrap_i64]; omega
              go_wp2_with fail
              go_loop [11] (fun s => ∃ k : Nat, k ≤ n ∧ s = .int .i64 k) (fun s => n - (intOf s).toNat)
              case atStart => exact ⟨0, by omega, rfl⟩
              case round =>
                obtain ⟨k, hk, rfl⟩ := hrel
                by_cases hkn : k < n
                · obtain ⟨vb, vc, hv, -, hcv⟩ := (unhide HRJ).cell hkn
                  rw [unhide HVJ] at hv
                  have ea : av = some ⟨vb, 0, none⟩ := by cases hv; rfl
                  subst ea
                  clear hv
                  have HM : Hid (m1 j k = (37 * (j : Int) + 5 * (k : Int) + 11) % 256) := rfl
                  generalize m1 j k = mm at *
                  have t3 : ((k : Int) < (n : Int)) = True := by simp; omega
                  have e1b : IntKind.i64.wrap (5 * (k : Int)) = 5 * (k : Int) := by rw [IntKind.wrap_i64]; omega
                  have e2 : IntKind.i64.wrap (37 * (j : Int) + 5 * (k : Int)) = 37 * (j : Int) + 5 * (k : Int) := by rw [IntKind.wrap_i64]; omega
                  have e2b : IntKind.i64.wrap (37 * (j : Int) + 5 * (k : Int) + 11) = 37 * (j : Int) + 5 * (k : Int) + 11 := by rw [IntKind.wrap_i64]; omega
                  have e3 : IntKind.u8.wrap (37 * (j : Int) + 5 * (k : Int) + 11) = mm := by rw [IntKind.wrap_u8]; exact (unhide HM).symm
                  go_wp2
                  exact ⟨⟨k + 1, by omega, by simp⟩, by simp [intOf]; omega⟩
                · obtain rfl : k = n := by omega
                  have t3 : ((k : Int) < (k : Int)) = False := by simp
                  go_wp2_with fail
                  go_loop [12] (fun s => ∃ t : Nat, t ≤ 80 ∧ s = .int .i64 t) (fun s => 80 - (intOf s).toNat)
                  case atStart => exact ⟨0, by omega, rfl⟩
                  case round =>
                    obtain ⟨t, ht, rfl⟩ := hrel
                    by_cases ht8 : t < 80
                    · have hcg := unhide HGC t ht8
                      have HM : Hid (m2 j t = (101 * (j : Int) + 3 * (t : Int) + 60) % 256) := rfl
                      generalize m2 j t = mm at *
                      have t5 : ((t : Int) < 80) = True := by simp; omega
                      have e1c : IntKind.i64.wrap (3 * (t : Int)) = 3 * (t : Int) := by rw [IntKind.wrap_i64]; omega
                      have e5 : IntKind.i64.wrap (101 * (j : Int) + 3 * (t : Int)) = 101 * (j : Int) + 3 * (t : Int) := by rw [IntKind.wrap_i64]; omega
                      have e2c : IntKind.i64.wrap (101 * (j : Int) + 3 * (t : Int) + 60) = 101 * (j : Int) + 3 * (t : Int) + 60 := by rw [IntKind.wrap_i64]; omega
                      have e6 : IntKind.u8.wrap (101 * (j : Int) + 3 * (t : Int) + 60) = mm := by rw [IntKind.wrap_u8]; exact (unhide HM).symm
                      have e7 : ((k : Int) + (t : Int)).toNat = k + t := by omega
                      have e8 : ((k : Int) + (t : Int) < (k : Int) + 80) = True := by simp; omega
                      have e9 : ((0 : Int) ≤ (k : Int) + (t : Int)) = True := by simp; omega
                      go_wp2
                      exact ⟨⟨t + 1, by omega, by simp⟩, by simp [intOf]; omega⟩
                    · have t5 : ((t : Int) < 80) = False := by simp; omega
                      go_wp2
                      exact ⟨⟨j + 1, by omega, by simp⟩, by simp [intOf]; omega⟩
            · obtain rfl : j = q := by omega
              have t2 : ((j : Int) < (j : Int)) = False := by simp
              go_wp2
              go_ret
              exact ⟨rfl, unhide HK2⟩
end Go.Proofs.YtfhfkpgfnlmfhabDoor

/- Turned bytes: what they make of a sum (plain arithmetic). -/
namespace Go.Proofs.YtfhfkpgfnlmfhabDoor
open Go Go.RowKit

/-- the sum of the low bits, one bit more -/
theorem low_succ (r k : Nat) : r % 2 ^ (k + 1) = (r % 2 ^ k) ^^^ (if r / 2 ^ k % 2 = 1 then 2 ^ k else 0) := by
  apply Nat.eq_of_testBit_eq
  intro i
  rw [Nat.testBit_xor, Nat.testBit_mod_two_pow, Nat.testBit_mod_two_pow]
  have hb : r.testBit k = decide (r / 2 ^ k % 2 = 1) := by
    rw [Nat.testBit_eq_decide_div_mod_eq]
  by_cases hk : r / 2 ^ k % 2 = 1
  · rw [if_pos hk, Nat.testBit_two_pow]
    rcases Nat.lt_trichotomy i k with h | h | h
    · simp [h, show i < k + 1 by omega, show ¬ (k = i) by omega]
    · subst h; simp [hb, hk]
    · simp [show ¬ i < k by omega, show ¬ i < k + 1 by omega, show ¬ (k = i) by omega]
  · rw [if_neg hk, Nat.zero_testBit]
    rcases Nat.lt_trichotomy i k with h | h | h
    · simp [h, show i < k + 1 by omega]
    · subst h; simp [hb, hk]
    · simp [show ¬ i < k by omega, show ¬ i < k + 1 by omega]

/-- the steps of the low bits, one bit more -/
theorem stps_low (m r k : Nat) : stps m (r % 2 ^ (k + 1)) = stps m (r % 2 ^ k) ^^^ (if r / 2 ^ k % 2 = 1 then stps m (2 ^ k) else 0) := by
  rw [low_succ, stps_xor]
  split
  · rfl
  · rw [stps_zero]

/-- where the steps leave each single bit as it was, they leave each register as it was -/
theorem stps_still (m : Nat) (h : ∀ i, i < 32 → stps m (2 ^ i) = 2 ^ i) {r : Nat} (hr : r < 4294967296) : stps m r = r := by
  have key : ∀ k, k ≤ 32 → stps m (r % 2 ^ k) = r % 2 ^ k := by
    intro k
    induction k with
    | zero => intro _; simp [Nat.mod_one, stps_zero]
    | succ k ih =>
      intro hk
      rw [stps_low, ih (by omega), h k (by omega), ← low_succ]
  have := key 32 (by omega)
  rwa [Nat.mod_eq_of_lt (show r < 2 ^ 32 by omega)] at this

/-- the product of registers as polynomials, as the loop reckons it: j rounds are left -/
def tms : Nat → Nat → Nat → Nat → Nat
  | 0, _, _, out => out
  | j + 1, a, b, out => tms j (a * 2 % 4294967296) (stp b) (if a / 2147483648 = 1 then out ^^^ b else out)

theorem stp_pow (j : Nat) : stp (2 ^ (j + 1)) = 2 ^ j := by
  unfold stp
  rw [if_neg (by rw [Nat.pow_succ]; omega), Nat.pow_succ]
  omega

theorem tms_part (m : Nat) : ∀ (j : Nat), j ≤ 32 → ∀ (c b out : Nat), c < 2 ^ j → (∀ i, j = i + 1 → b = stps m (2 ^ i)) →
    tms j (c * 2 ^ (32 - j)) b out = out ^^^ stps m c := by
  intro j
  induction j with
  | zero =>
    intro _ c b out hc _
    have h0 : c = 0 := by simpa using hc
    subst h0
    simp [tms, stps_zero]
  | succ j ih =>
    intro hj c b out hc hb
    have hb0 := hb j rfl
    subst hb0
    have e1 : c * 2 ^ (32 - (j + 1)) / 2147483648 = c / 2 ^ j := by
      have : (2147483648 : Nat) = 2 ^ j * 2 ^ (32 - (j + 1)) := by
        rw [← Nat.pow_add, show j + (32 - (j + 1)) = 31 by omega]
      rw [this, Nat.mul_div_mul_right _ _ (Nat.two_pow_pos _)]
    have e2 : c * 2 ^ (32 - (j + 1)) * 2 % 4294967296 = (c % 2 ^ j) * 2 ^ (32 - j) := by
      have h1 : c * 2 ^ (32 - (j + 1)) * 2 = c * 2 ^ (32 - j) := by
        rw [Nat.mul_assoc, ← Nat.pow_succ, show (32 - (j + 1)).succ = 32 - j by omega]
      have h2 : (4294967296 : Nat) = 2 ^ j * 2 ^ (32 - j) := by
        rw [← Nat.pow_add, show j + (32 - j) = 32 by omega]
      rw [h1, h2, Nat.mul_mod_mul_right]
    have e3 : c / 2 ^ j % 2 = c / 2 ^ j := by
      apply Nat.mod_eq_of_lt
      rw [Nat.div_lt_iff_lt_mul (Nat.two_pow_pos _)]
      rw [Nat.pow_succ] at hc; omega
    have e4 : stps m c = stps m (c % 2 ^ j) ^^^ (if c / 2 ^ j = 1 then stps m (2 ^ j) else 0) := by
      have := stps_low m c j
      rw [e3, Nat.mod_eq_of_lt hc] at this
      exact this
    rw [tms, e1, e2, ih (by omega) _ _ _ (Nat.mod_lt _ (Nat.two_pow_pos _)), e4]
    · split
      · rw [Nat.xor_assoc, Nat.xor_comm (stps m (2 ^ j))]
      · simp
    · intro i hi
      subst hi
      rw [← stps_one, stps_comm, stps_one, stp_pow]

/-- the product with m steps of 1 is m steps -/
theorem tms_all (m : Nat) {a : Nat} (ha : a < 4294967296) : tms 32 a (stps m 2147483648) 0 = stps m a := by
  have := tms_part m 32 (by omega) a (stps m 2147483648) 0 (by omega) (by
    intro i hi
    obtain rfl : i = 31 := by omega
    rfl)
  simpa using this

/-- one step back -/
def unst (v : Nat) : Nat := if v / 2147483648 = 1 then ((v ^^^ 2197175160) * 2 % 4294967296) ||| 1 else v * 2 % 4294967296
def unsts : Nat → Nat → Nat
  | 0, v => v
  | n + 1, v => unsts n (unst v)
theorem unst_lt (v : Nat) : unst v < 4294967296 := by
  unfold unst
  split
  · exact Nat.or_lt_two_pow (n := 32) (by omega) (by omega)
  · omega
theorem xor_swap (a b c : Nat) : a ^^^ b ^^^ c = a ^^^ c ^^^ b := by rw [Nat.xor_assoc, Nat.xor_comm b, ← Nat.xor_assoc]
theorem xor_self_right (a b : Nat) : a ^^^ b ^^^ b = a := by rw [Nat.xor_assoc, Nat.xor_self, Nat.xor_zero]
theorem xor_cancel {a b c : Nat} (h : a ^^^ b = a ^^^ c) : b = c := by
  have := congrArg (a ^^^ ·) h
  simpa [← Nat.xor_assoc] using this
theorem cpl_cpl (a : Nat) : cpl (cpl a) = a := xor_self_right _ _
theorem cpl_xor (a b : Nat) : cpl (a ^^^ b) = cpl a ^^^ b := xor_swap _ _ _

theorem take1_xor (v d b : Nat) : take1 (v ^^^ d) b = take1 v b ^^^ stps 8 d := by
  unfold take1
  rw [xor_swap, stps_xor]
theorem takes_xor (bs : List Nat) : ∀ v d : Nat, takes (v ^^^ d) bs = takes v bs ^^^ stps (8 * bs.length) d := by
  induction bs with
  | nil => intro v d; rw [takes_nil, takes_nil]; rfl
  | cons b bs ih =>
    intro v d
    rw [takes_cons, takes_cons, take1_xor, ih, List.length_cons, show 8 * (bs.length + 1) = 8 + 8 * bs.length by omega, stps_add]
theorem take1_byte (v b d : Nat) : take1 v (b ^^^ d) = take1 v b ^^^ stps 8 d := by
  unfold take1
  rw [← Nat.xor_assoc, stps_xor]

/-- a byte is turned -/
theorem crc_turn (l r : List Nat) (x d : Nat) : crc (l ++ (x ^^^ d) :: r) = stps (8 * r.length) (stps 8 d) ^^^ crc (l ++ x :: r) := by
  unfold crc grown
  rw [takes_append, takes_append, takes_cons, takes_cons, take1_byte, takes_xor, cpl_xor, Nat.xor_comm]

/-- two texts one behind the other -/
theorem crc_join (a b : List Nat) : crc (a ++ b) = stps (8 * b.length) (crc a) ^^^ crc b := by
  have e : takes (cpl 0) a = cpl 0 ^^^ crc a := by
    unfold crc grown
    have : ∀ x, cpl 0 ^^^ cpl x = x := by
      intro x
      unfold cpl
      rw [Nat.zero_xor, Nat.xor_comm x, ← Nat.xor_assoc, Nat.xor_self, Nat.zero_xor]
    rw [this]
  have h : crc (a ++ b) = cpl (takes (takes (cpl 0) a) b) := by
    unfold crc grown; rw [takes_append]
  rw [h, e, takes_xor, cpl_xor, Nat.xor_comm]
  rfl

theorem grown_append (s : Nat) (a b : List Nat) : grown s (a ++ b) = grown (grown s a) b := by
  unfold grown
  rw [takes_append, cpl_cpl]

/-! steps undone -/
theorem stp_unst {v : Nat} (hv : v < 4294967296) : stp (unst v) = v := by
  unfold unst
  by_cases h : v / 2147483648 = 1
  · rw [if_pos h]
    have h1 : v ^^^ 2197175160 < 2 ^ 31 := by
      apply Nat.lt_pow_two_of_testBit
      intro i hi
      rw [Nat.testBit_xor]
      by_cases e : i = 31
      · subst e
        have a1 : v.testBit 31 = true := by
          rw [Nat.testBit_eq_decide_div_mod_eq]
          simp [h]
        have a2 : Nat.testBit 2197175160 31 = true := by decide
        rw [a1, a2]; rfl
      · have hp : (2 : Nat) ^ 32 ≤ 2 ^ i := Nat.pow_le_pow_right (by omega) (by omega)
        have a1 : v.testBit i = false := Nat.testBit_lt_two_pow (Nat.lt_of_lt_of_le (show v < 2 ^ 32 by omega) hp)
        have a2 : Nat.testBit 2197175160 i = false := Nat.testBit_lt_two_pow (Nat.lt_of_lt_of_le (show 2197175160 < 2 ^ 32 by omega) hp)
        rw [a1, a2]; rfl
    have h2 : v ^^^ 2197175160 ^^^ 2197175160 = v := xor_self_right _ _
    generalize v ^^^ 2197175160 = y at h1 h2
    have h3 : y * 2 % 4294967296 ||| 1 = y * 2 + 1 := by
      rw [show y * 2 % 4294967296 = y * 2 by omega]
      exact nat_join 1 (y * 2) 1 (by omega) (by omega)
    rw [h3]
    unfold stp
    rw [if_pos (by omega), show (y * 2 + 1) / 2 = y by omega]
    exact h2
  · rw [if_neg h, show v * 2 % 4294967296 = v * 2 by omega]
    unfold stp
    rw [if_neg (by omega)]
    omega
theorem stps_unsts (n : Nat) : ∀ {v : Nat}, v < 4294967296 → stps n (unsts n v) = v := by
  induction n with
  | zero => intro v _; rfl
  | succ n ih =>
    intro v hv
    rw [stps_succ', show unsts (n + 1) v = unsts n (unst v) from rfl, ih (unst_lt v), stp_unst hv]

theorem stp_zero_iff {v : Nat} (hv : v < 4294967296) (h : stp v = 0) : v = 0 := by
  unfold stp at h
  split at h
  · rename_i h1
    have h2 : v / 2 = 2197175160 := by
      have := congrArg (· ^^^ 2197175160) h
      simp only [xor_self_right, Nat.zero_xor] at this
      exact this
    omega
  · omega
theorem stps_zero_iff (n : Nat) : ∀ {v : Nat}, v < 4294967296 → stps n v = 0 → v = 0 := by
  induction n with
  | zero => intro v _ h; exact h
  | succ n ih => intro v hv h; exact stp_zero_iff hv (ih (stp_lt hv) h)
theorem xor_eq_zero {a b : Nat} (h : a ^^^ b = 0) : a = b := by
  have := congrArg (· ^^^ b) h
  simpa only [xor_self_right, Nat.zero_xor] using this
theorem stps_inj (n : Nat) {a b : Nat} (ha : a < 4294967296) (hb : b < 4294967296) (h : stps n a = stps n b) : a = b := by
  apply xor_eq_zero
  apply stps_zero_iff n (Nat.xor_lt_two_pow (n := 32) (by omega) (by omega))
  rw [stps_xor, h, Nat.xor_self]

/-! four bytes as one number -/
theorem stps8_high (x : Nat) : stps 8 (x * 256) = x := by
  rw [show (8 : Nat) = 4 + 4 from rfl, stps_add, show x * 256 = x * 16 * 16 by omega, stps4_high, stps4_high]
def word4 (b0 b1 b2 b3 : Nat) : Nat := b0 ^^^ (b1 * 256) ^^^ (b2 * 65536) ^^^ (b3 * 16777216)
theorem takes4 (v b0 b1 b2 b3 : Nat) : takes v [b0, b1, b2, b3] = stps 32 (v ^^^ word4 b0 b1 b2 b3) := by
  have s1 : stps 32 (b1 * 256) = stps 24 b1 := by rw [show (32 : Nat) = 8 + 24 from rfl, stps_add, stps8_high]
  have s2 : stps 32 (b2 * 65536) = stps 16 b2 := by rw [show (32 : Nat) = 8 + (8 + 16) from rfl, stps_add, stps_add, show b2 * 65536 = b2 * 256 * 256 by omega, stps8_high, stps8_high]
  have s3 : stps 32 (b3 * 16777216) = stps 8 b3 := by rw [show (32 : Nat) = 8 + (8 + (8 + 8)) from rfl, stps_add, stps_add, stps_add, show b3 * 16777216 = b3 * 256 * 256 * 256 by omega, stps8_high, stps8_high, stps8_high]
  have e16 : ∀ x, stps 8 (stps 8 x) = stps 16 x := by
    intro x; rw [← stps_add]
  have f1 : ∀ x, stps 8 (stps 24 x) = stps 32 x := by
    intro x; rw [← stps_add]
  have f2 : ∀ x, stps 8 (stps 16 x) = stps 24 x := by
    intro x; rw [← stps_add]
  rw [takes_cons, takes_cons, takes_cons, takes_cons, takes_nil]
  unfold take1 word4
  simp only [stps_xor, s1, s2, s3, e16, f1, f2, Nat.xor_assoc]

/-! marks undone -/
theorem xor_add {x y k : Nat} (hy : y < 2 ^ k) : x * 2 ^ k ^^^ y = x * 2 ^ k + y := by
  have h1 : x * 2 ^ k ^^^ y = x * 2 ^ k ||| y := by
    apply Nat.eq_of_testBit_eq
    intro i
    rw [Nat.testBit_xor, Nat.testBit_or, Nat.mul_comm, Nat.testBit_two_pow_mul]
    by_cases hi : k ≤ i
    · have : y.testBit i = false := Nat.testBit_lt_two_pow (Nat.lt_of_lt_of_le hy (Nat.pow_le_pow_right (by omega) hi))
      simp [this]
    · simp [hi]
  rw [h1]
  exact nat_join k (x * 2 ^ k) y (by simp) hy
theorem drop_at {bs : List Nat} {k : Nat} (hk : k < bs.length) : bs.drop k = bs.getD k 0 :: bs.drop (k + 1) := by
  rw [List.getD, List.getElem?_eq_getElem hk, Option.getD_some]
  exact List.drop_eq_getElem_cons hk
theorem crc_set {bs : List Nat} {k d : Nat} (hk : k < bs.length) : crc (bs.set k (bs.getD k 0 ^^^ d)) = stps (8 * (bs.length - 1 - k)) (stps 8 d) ^^^ crc bs := by
  have e1 : bs = bs.take k ++ bs.getD k 0 :: bs.drop (k + 1) := by
    rw [← drop_at hk, List.take_append_drop]
  have e2 : bs.set k (bs.getD k 0 ^^^ d) = bs.take k ++ (bs.getD k 0 ^^^ d) :: bs.drop (k + 1) := by
    rw [List.set_eq_take_append_cons_drop, if_pos hk]
  have e3 : (bs.drop (k + 1)).length = bs.length - 1 - k := by rw [List.length_drop]; omega
  rw [e2, crc_turn, e3]
  exact congrArg (fun l => stps (8 * (bs.length - 1 - k)) (stps 8 d) ^^^ crc l) e1.symm
theorem set_bytes {bs : List Nat} (h : ∀ b ∈ bs, b < 256) {k y : Nat} (hy : y < 256) : ∀ b ∈ bs.set k y, b < 256 := by
  intro b hb
  rcases List.mem_or_eq_of_mem_set hb with h1 | h1
  · exact h b h1
  · omega
theorem stps_pow256 (i : Nat) : ∀ x : Nat, stps (8 * i) (x * 256 ^ i) = x := by
  induction i with
  | zero => intro x; simp [stps]
  | succ i ih =>
    intro x
    rw [show 8 * (i + 1) = 8 + 8 * i by omega, stps_add, Nat.pow_succ, ← Nat.mul_assoc, stps8_high, ih]

/-- how far the turning has come: i bytes are looked at; q is the text, u tells how many of its bytes are unlike -/
structure Told (bs : List Nat) (k i : Nat) (q : List Nat) (u : Nat) : Prop where
  len : q.length = bs.length
  byte : ∀ b ∈ q, b < 256
  least : u ≤ i
  none : u = 0 → q = bs
  one : u = 1 → ∃ pos y, pos < bs.length ∧ y < 256 ∧ y ≠ bs.getD pos 0 ∧ q = bs.set pos y
  word : ∃ W, W < 256 ^ i ∧ crc q = stps (8 * (bs.length - k)) W ^^^ crc bs ∧ (u ≠ 0 → W ≠ 0)

theorem Told.start {bs : List Nat} (hb : ∀ b ∈ bs, b < 256) (k : Nat) : Told bs k 0 bs 0 :=
  ⟨rfl, hb, Nat.le_refl _, fun _ => rfl, fun h => by omega, 0, by simp, by rw [stps_zero, Nat.zero_xor], fun h => absurd rfl h⟩

theorem Told.skip {bs q : List Nat} {k i u : Nat} (h : Told bs k i q u) : Told bs k (i + 1) q u := by
  obtain ⟨W, h1, h2, h3⟩ := h.word
  refine ⟨h.len, h.byte, by have := h.least; omega, h.none, h.one, W, ?_, h2, h3⟩
  exact Nat.lt_of_lt_of_le h1 (Nat.pow_le_pow_right (by omega) (by omega))

theorem set_same {q : List Nat} {p : Nat} (hp : p < q.length) : q.set p (q.getD p 0) = q := by
  rw [List.getD, List.getElem?_eq_getElem hp, Option.getD_some, List.set_getElem_self]

theorem Told.zero {bs q : List Nat} {k i u : Nat} (h : Told bs k i q u) (hp : k + i < bs.length) : Told bs k (i + 1) (q.set (k + i) (q.getD (k + i) 0 ^^^ 0)) u := by
  rw [Nat.xor_zero, set_same (by rw [h.len]; exact hp)]
  exact h.skip

theorem Told.turn {bs q : List Nat} {k i u d : Nat} (h : Told bs k i q u) (hb : ∀ b ∈ bs, b < 256) (hp : k + i < bs.length) (hd : d < 256) (hd0 : d ≠ 0) :
    Told bs k (i + 1) (q.set (k + i) (q.getD (k + i) 0 ^^^ d)) (u + 1) := by
  have hq : k + i < q.length := by rw [h.len]; exact hp
  have hx : q.getD (k + i) 0 < 256 := getD_lt8 h.byte hq
  have hy : q.getD (k + i) 0 ^^^ d < 256 := Nat.xor_lt_two_pow (n := 8) hx hd
  obtain ⟨W, h1, h2, h3⟩ := h.word
  refine ⟨by rw [List.length_set]; exact h.len, set_bytes h.byte hy, by have := h.least; omega, fun h => by omega, fun h4 => ?_, ?_⟩
  · have h5 : q = bs := h.none (by omega)
    subst h5
    refine ⟨k + i, _, hp, hy, fun e => hd0 ?_, rfl⟩
    have e2 : q.getD (k + i) 0 ^^^ d = q.getD (k + i) 0 ^^^ 0 := by rw [Nat.xor_zero]; exact e
    exact xor_cancel e2
  · have hpw : 256 ^ i = 2 ^ (8 * i) := by rw [Nat.pow_mul]
    have hadd : d * 256 ^ i ^^^ W = d * 256 ^ i + W := by
      rw [hpw]; exact xor_add (by rw [← hpw]; exact h1)
    refine ⟨d * 256 ^ i ^^^ W, ?_, ?_, fun _ e => ?_⟩
    · rw [hadd, Nat.pow_succ]
      have h6 : d * 256 ^ i ≤ 255 * 256 ^ i := Nat.mul_le_mul_right _ (by omega)
      have h7 : 0 < 256 ^ i := Nat.pow_pos (by omega)
      generalize 256 ^ i = z at h1 h6 h7
      omega
    · have e1 : stps (8 * (bs.length - k)) (d * 256 ^ i) = stps (8 * (q.length - 1 - (k + i))) (stps 8 d) := by
        rw [show 8 * (bs.length - k) = 8 * i + (8 + 8 * (q.length - 1 - (k + i))) by rw [h.len]; omega, stps_add, stps_pow256, stps_add]
      rw [crc_set hq, h2, stps_xor, e1, Nat.xor_assoc]
    · rw [hadd] at e
      have h7 : 0 < 256 ^ i := Nat.pow_pos (by omega)
      have h8 : 0 < d * 256 ^ i := Nat.mul_pos (by omega) h7
      omega

theorem Told.sums {bs q : List Nat} {k u : Nat} (h : Told bs k 4 q u) (hu : u ≠ 0) : crc bs ≠ crc q := by
  obtain ⟨W, h1, h2, h3⟩ := h.word
  intro e
  rw [← e] at h2
  have h4 : stps (8 * (bs.length - k)) W = 0 := by
    have h5 : crc bs ^^^ 0 = crc bs ^^^ stps (8 * (bs.length - k)) W := by
      rw [Nat.xor_zero, Nat.xor_comm]; exact h2
    exact (xor_cancel h5).symm
  exact h3 hu (stps_zero_iff _ (show W < 4294967296 by omega) h4)
end Go.Proofs.YtfhfkpgfnlmfhabDoor

/- There and back, in plain words: a form is read as its message. -/
namespace Go.Proofs.YtfhfkpgfnlmfhabDoor
open Go.RowKit

def rG (l : List Nat) : RS := ⟨0, l, []⟩
theorem rByte_G (x : Nat) (l : List Nat) : rByte (rG (x :: l)) = (rG l, x) := rfl
theorem rNum_G (n : Nat) (l : List Nat) (h : n < 18446744073709551616) : rNum (rG (form n ++ l)) = (rG l, n) := by
  unfold rNum rG
  rw [if_neg (by simp)]
  dsimp only
  rw [read_form0 n l h]
theorem rText_G (ps l : List Nat) (most : Int) (h : (ps.length : Int) ≤ most) (h2 : ps.length < 18446744073709551616) : rText (rG (form ps.length ++ (ps ++ l))) most = (rG l, ps) := by
  unfold rText rG
  rw [if_neg (by simp)]
  dsimp only
  rw [read_form0 ps.length (ps ++ l) h2]
  dsimp only
  rw [if_neg (by omega), if_neg (by simp)]
  simp
theorem rFixed_G (n : Nat) (l : List Nat) (h : n < 18446744073709551616) : rFixed (rG (le n 8 ++ l)) 8 = (rG l, n) := by
  have hl := le_len n 8
  unfold rFixed rG
  rw [if_neg (by simp), if_neg (by omega), if_neg (by simp only [List.length_append, hl]; omega)]
  have e : (8 : Int).toNat = 8 := rfl
  rw [e]
  have e1 : (le n 8 ++ l).drop 8 = l := by rw [List.drop_append_of_le_length (by omega), List.drop_of_length_le (by omega)]; rfl
  have e2 : (le n 8 ++ l).take 8 = le n 8 := by rw [List.take_append_of_le_length (by omega), List.take_of_length_le (by omega)]
  rw [e1, e2, leV_le]
  congr 1
  omega
theorem toI_small {n : Nat} (h : n < 9223372036854775808) : toI n = (n : Int) := by
  unfold toI wrap64
  omega
theorem toI_toNat {i : Int} (h0 : 0 ≤ i) (h1 : i < 9223372036854775808) : toI i.toNat = i := by
  rw [toI_small (by omega)]; omega
/-- The field of a piece, taken over. -/
def cpP (p q : Ml) : Pc → Ml
  | .byte o => setN q (getN p o) o
  | .num o => setN q (getN p o) o
  | .flag => { q with done := p.done }
  | .root => { q with root := p.root }
  | .text o => setT q (getT p o) o
theorem takP_G {p : Ml} (c : Pc) (h : okP p c) (q : Ml) (l : List Nat) : takP ⟨rG (encP p c ++ l), q, false⟩ c = ⟨rG l, cpP p q c, false⟩ := by
  cases c with
  | byte o =>
    obtain ⟨_, h1, h2⟩ := h
    have e : encP p (.byte o) ++ l = (getN p o).toNat :: l := rfl
    rw [e]
    simp only [takP, rByte_G, cpP]
    rw [show (((getN p o).toNat : Nat) : Int) = getN p o by omega]
  | num o =>
    obtain ⟨_, h1, h2⟩ := h
    have e : encP p (.num o) ++ l = form (getN p o).toNat ++ l := rfl
    rw [e]
    simp only [takP, rNum_G _ _ (show (getN p o).toNat < 18446744073709551616 by omega), cpP, toI_toNat h1 h2]
  | flag =>
    have e : encP p .flag ++ l = (if p.done then 1 else 0) :: l := rfl
    rw [e]
    simp only [takP, rByte_G, cpP]
    cases p.done <;> rfl
  | root =>
    have e : encP p .root ++ l = le p.root 8 ++ l := rfl
    rw [e]
    simp only [takP, rFixed_G _ _ (show p.root < 18446744073709551616 from h), cpP]
  | text o =>
    obtain ⟨_, h1⟩ := h
    have e : encP p (.text o) ++ l = form (getT p o).length ++ (getT p o ++ l) := by simp [encP]
    rw [e]
    simp only [takP, rText_G _ _ 524288 (show ((getT p o).length : Int) ≤ 524288 by omega) (by omega), cpP]
def cpL (p q : Ml) (ks : List Pc) : Ml := ks.foldl (cpP p) q
theorem takL_G {p : Ml} : ∀ (ks : List Pc) (q : Ml) (l : List Nat), (∀ c ∈ ks, okP p c) → takL ⟨rG (encL p ks ++ l), q, false⟩ ks = ⟨rG l, cpL p q ks, false⟩
  | [], q, l, _ => rfl
  | c :: ks, q, l, h => by
    have e : encL p (c :: ks) ++ l = encP p c ++ (encL p ks ++ l) := by rw [encL_cons, List.append_assoc]
    rw [e]
    show takL (takP ⟨rG (encP p c ++ (encL p ks ++ l)), q, false⟩ c) ks = _
    rw [takP_G c (h c (by simp)) q (encL p ks ++ l)]
    exact takL_G ks (cpP p q c) l (fun d hd => h d (by simp [hd]))
/-- The kind, the op's kind and the verdict stand where they are looked at. -/
theorem cpL_hd (p : Ml) : cpL p zeroM hd = { zeroM with kind := p.kind, frm := p.frm, dst := p.dst, shard := p.shard } := rfl
theorem mid_eq {p q : Ml} (h : q.kind = p.kind) : mid q = mid p := by unfold mid; rw [h]
theorem fin_eq {p q : Ml} (h : q.kind = p.kind) (h1 : p.kind = 1 → q.okind = p.okind) (h2 : p.kind = 2 → q.verd = p.verd) : fin q = fin p := by
  unfold fin
  rw [h]
  by_cases k1 : p.kind = 1
  · rw [if_pos k1, if_pos k1, h1 k1]
  · rw [if_neg k1, if_neg k1]
    by_cases k2 : p.kind = 2
    · rw [if_pos k2, if_pos k2, h2 k2]
    · rw [if_neg k2, if_neg k2]
theorem read3_G {p : Ml} (h : ∀ c ∈ pieces p, okP p c) (l : List Nat) : read3 (body p ++ l) = ⟨rG l, cpL p zeroM (pieces p), false⟩ := by
  unfold pieces at h
  simp only [List.mem_append] at h
  have e : body p ++ l = encL p hd ++ (encL p (mid p) ++ (encL p (fin p) ++ l)) := by
    unfold body pieces
    rw [encL_append, encL_append]
    simp only [List.append_assoc]
  have e1 : read1 (body p ++ l) = ⟨rG (encL p (mid p) ++ (encL p (fin p) ++ l)), cpL p zeroM hd, false⟩ := by
    unfold read1
    rw [e]
    exact takL_G hd zeroM _ (fun c hc => h c (Or.inl hc))
  have e2 : read2 (body p ++ l) = ⟨rG (encL p (fin p) ++ l), cpL p (cpL p zeroM hd) (mid p), false⟩ := by
    unfold read2
    rw [e1]
    have hm : mid (cpL p zeroM hd) = mid p := mid_eq rfl
    show takL _ (mid (cpL p zeroM hd)) = _
    rw [hm]
    exact takL_G (mid p) _ _ (fun c hc => h c (Or.inr (Or.inl hc)))
  unfold read3
  rw [e2]
  have hf : fin (cpL p (cpL p zeroM hd) (mid p)) = fin p := by
    rw [cpL_hd]
    by_cases k1 : p.kind = 1
    · have em : mid p = [.num 8, .byte 9, .text 10] := by unfold mid; rw [if_pos k1]
      rw [em]
      exact fin_eq rfl (fun _ => rfl) (fun h2 => by omega)
    · by_cases k2 : p.kind = 2
      · have em : mid p = [.num 8, .num 13] := by unfold mid; rw [if_neg k1, if_pos k2]
        rw [em]
        exact fin_eq rfl (fun h1 => by omega) (fun _ => rfl)
      · by_cases k3 : p.kind = 3
        · have em : mid p = [.num 4, .root, .text 6] := by unfold mid; rw [if_neg k1, if_neg k2, if_pos k3]
          rw [em]
          exact fin_eq rfl (fun h1 => by omega) (fun h2 => by omega)
        · have em : mid p = [.num 4] := by unfold mid; rw [if_neg k1, if_neg k2, if_neg k3]
          rw [em]
          exact fin_eq rfl (fun h1 => by omega) (fun h2 => by omega)
  show takL _ (fin (cpL p (cpL p zeroM hd) (mid p))) = _
  rw [hf]
  have := takL_G (p := p) (fin p) (cpL p (cpL p zeroM hd) (mid p)) l (fun c hc => h c (Or.inr (Or.inr hc)))
  rw [this]
  unfold pieces cpL
  rw [List.foldl_append, List.foldl_append]
end Go.Proofs.YtfhfkpgfnlmfhabDoor

/- There: what is encoded is decoded to the same message. -/
namespace Go.Proofs.YtfhfkpgfnlmfhabDoor
open Go.RowKit

theorem pcs_op {p : Ml} (h1 : p.kind = 1) : (p.okind = 2 ∧ pieces p = hd ++ [.num 8, .byte 9, .text 10, .text 11]) ∨ (p.okind = 4 ∧ pieces p = hd ++ [.num 8, .byte 9, .text 10, .text 11, .num 12]) ∨ (p.okind ≠ 2 ∧ p.okind ≠ 4 ∧ pieces p = hd ++ [.num 8, .byte 9, .text 10]) := by
  rw [pcs_0, pcs_1 h1]
  unfold opG hd
  by_cases h2 : p.okind = 2
  · left; rw [if_pos h2]; exact ⟨h2, rfl⟩
  · by_cases h4 : p.okind = 4
    · right; left; rw [if_neg h2, if_pos h4]; exact ⟨h4, rfl⟩
    · right; right; rw [if_neg h2, if_neg h4]; exact ⟨h2, h4, rfl⟩
theorem pcs_ve {p : Ml} (h1 : p.kind = 2) : (p.verd = 0 ∧ pieces p = hd ++ [.num 8, .num 13, .flag, .text 15, .text 16, .num 17, .num 18]) ∨ ((p.verd = 220 ∨ p.verd = 221) ∧ pieces p = hd ++ [.num 8, .num 13, .byte 19]) ∨ (p.verd ≠ 0 ∧ p.verd ≠ 220 ∧ p.verd ≠ 221 ∧ pieces p = hd ++ [.num 8, .num 13]) := by
  rw [pcs_0, pcs_2 h1]
  unfold veG hd
  by_cases h2 : p.verd = 0
  · left; rw [if_pos h2]; exact ⟨h2, rfl⟩
  · by_cases h4 : p.verd = 220 ∨ p.verd = 221
    · right; left; rw [if_neg h2, if_pos h4]; exact ⟨h4, rfl⟩
    · right; right; rw [if_neg h2, if_neg h4]; exact ⟨h2, by omega, by omega, rfl⟩
theorem wrap_cli {c n : Int} (h : cliP c n) : wrap64 (n - 100) = c := by
  obtain ⟨h1, h2, h3⟩ := h
  unfold wrap64
  omega
theorem ml_eta (p : Ml) : p = ⟨p.kind, p.frm, p.dst, p.shard, p.epoch, p.root, p.copy, p.client, p.seq, p.okind, p.key, p.val, p.rev, p.verd, p.done, p.akey, p.aval, p.arev, p.aat, p.hint⟩ := rfl
set_option maxHeartbeats 1600000 in
theorem named_all {p : Ml} (h : snd p = true) : named (cpL p zeroM (pieces p)) = p := by
  obtain ⟨_, hk⟩ := (snd_iff p).1 h
  rcases hk with ⟨h1, h2, _, _, h5, ⟨v1, ⟨a1, a2, a3, a4, a5⟩, v3⟩, t1, t2, t3⟩ | ⟨h1, _, h2, _, ⟨o1, o2, o3, o4⟩, h6, t1, t2, t3⟩ | ⟨h1, _, _, _, _, _, c1, c2, ⟨o1, o2, o3, o4⟩, v1, ⟨a1, a2, a3, a4, a5⟩, v3⟩ | ⟨h1, ⟨_, _, _, _, c1, c2, ⟨o1, o2, o3, o4⟩, v1, ⟨a1, a2, a3, a4, a5⟩, v3⟩, t2, t3⟩
  · have q := rgt_iff h5
    have hc := wrap_cli h2
    rcases pcs_op h1 with ⟨k, e⟩ | ⟨k, e⟩ | ⟨k, k', e⟩
    · have ec : cpL p zeroM (pieces p) = (⟨p.kind, p.frm, p.dst, p.shard, 0, 0, [], 0, p.seq, p.okind, p.key, p.val, 0, 0, false, [], [], 0, 0, 0⟩ : Ml) := by
        rw [e]
        simp only [cpL, hd, List.cons_append, List.nil_append, List.foldl_cons, List.foldl_nil, cpP, setN, getN, setT, getT, zeroM]
      rw [ec]
      unfold named
      rw [if_pos h1]
      conv => rhs; rw [ml_eta p]
      simp [hc, v1, a1, a2, a3, a4, a5, v3, t1, t2, t3, q.2.2.2.2.2 (by omega)]
    · have ec : cpL p zeroM (pieces p) = (⟨p.kind, p.frm, p.dst, p.shard, 0, 0, [], 0, p.seq, p.okind, p.key, p.val, p.rev, 0, false, [], [], 0, 0, 0⟩ : Ml) := by
        rw [e]
        simp only [cpL, hd, List.cons_append, List.nil_append, List.foldl_cons, List.foldl_nil, cpP, setN, getN, setT, getT, zeroM]
      rw [ec]
      unfold named
      rw [if_pos h1]
      conv => rhs; rw [ml_eta p]
      simp [hc, v1, a1, a2, a3, a4, a5, v3, t1, t2, t3]
    · have ec : cpL p zeroM (pieces p) = (⟨p.kind, p.frm, p.dst, p.shard, 0, 0, [], 0, p.seq, p.okind, p.key, [], 0, 0, false, [], [], 0, 0, 0⟩ : Ml) := by
        rw [e]
        simp only [cpL, hd, List.cons_append, List.nil_append, List.foldl_cons, List.foldl_nil, cpP, setN, getN, setT, getT, zeroM]
      rw [ec]
      unfold named
      rw [if_pos h1]
      conv => rhs; rw [ml_eta p]
      simp [hc, v1, a1, a2, a3, a4, a5, v3, t1, t2, t3, q.2.2.2.2.2 k', List.eq_nil_of_length_eq_zero (q.2.2.2.2.1 k k')]
  · have hc := wrap_cli h2
    rcases pcs_ve h1 with ⟨k, e⟩ | ⟨k, e⟩ | ⟨k, k', k2, e⟩
    · rcases h6 with ⟨_, _, b3⟩ | ⟨b1, _, _⟩ | ⟨b1, _, _⟩
      · have ec : cpL p zeroM (pieces p) = (⟨p.kind, p.frm, p.dst, p.shard, 0, 0, [], 0, p.seq, 0, [], [], 0, p.verd, p.done, p.akey, p.aval, p.arev, p.aat, 0⟩ : Ml) := by
          rw [e]
          simp only [cpL, hd, List.cons_append, List.nil_append, List.foldl_cons, List.foldl_nil, cpP, setN, getN, setT, getT, zeroM]
        rw [ec]
        unfold named
        rw [if_neg (by show ¬ p.kind = 1; omega), if_pos h1]
        conv => rhs; rw [ml_eta p]
        simp [hc, o1, o2, o3, o4, t1, t2, t3, b3]
      · omega
      · omega
    · rcases h6 with ⟨b1, _, _⟩ | ⟨b1, _, _⟩ | ⟨_, ⟨a1, a2, a3, a4, a5⟩, _⟩
      · omega
      · omega
      · have ec : cpL p zeroM (pieces p) = (⟨p.kind, p.frm, p.dst, p.shard, 0, 0, [], 0, p.seq, 0, [], [], 0, p.verd, false, [], [], 0, 0, p.hint⟩ : Ml) := by
          rw [e]
          simp only [cpL, hd, List.cons_append, List.nil_append, List.foldl_cons, List.foldl_nil, cpP, setN, getN, zeroM]
        rw [ec]
        unfold named
        rw [if_neg (by show ¬ p.kind = 1; omega), if_pos h1]
        conv => rhs; rw [ml_eta p]
        simp [hc, o1, o2, o3, o4, t1, t2, t3, a1, a2, a3, a4, a5]
    · rcases h6 with ⟨b1, _, _⟩ | ⟨_, ⟨a1, a2, a3, a4, a5⟩, b3⟩ | ⟨b1, _, _⟩
      · omega
      · have ec : cpL p zeroM (pieces p) = (⟨p.kind, p.frm, p.dst, p.shard, 0, 0, [], 0, p.seq, 0, [], [], 0, p.verd, false, [], [], 0, 0, 0⟩ : Ml) := by
          rw [e]
          simp only [cpL, hd, List.cons_append, List.nil_append, List.foldl_cons, List.foldl_nil, cpP, setN, getN, zeroM]
        rw [ec]
        unfold named
        rw [if_neg (by show ¬ p.kind = 1; omega), if_pos h1]
        conv => rhs; rw [ml_eta p]
        simp [hc, o1, o2, o3, o4, t1, t2, t3, a1, a2, a3, a4, a5, b3]
      · omega
  · have e : pieces p = hd ++ [.num 4, .root, .text 6] := by rw [pcs_0, pcs_3 h1]; rfl
    have ec : cpL p zeroM (pieces p) = (⟨p.kind, p.frm, p.dst, p.shard, p.epoch, p.root, p.copy, 0, 0, 0, [], [], 0, 0, false, [], [], 0, 0, 0⟩ : Ml) := by
      rw [e]
      simp only [cpL, hd, List.cons_append, List.nil_append, List.foldl_cons, List.foldl_nil, cpP, setN, getN, setT, getT, zeroM]
    rw [ec]
    unfold named
    rw [if_neg (by show ¬ p.kind = 1; omega), if_neg (by show ¬ p.kind = 2; omega)]
    conv => rhs; rw [ml_eta p]
    simp [c1, c2, o1, o2, o3, o4, v1, a1, a2, a3, a4, a5, v3]
  · have e : pieces p = hd ++ [.num 4] := by rw [pcs_0, pcs_4 (by omega) (by omega) (by omega)]; rfl
    have ec : cpL p zeroM (pieces p) = (⟨p.kind, p.frm, p.dst, p.shard, p.epoch, 0, [], 0, 0, 0, [], [], 0, 0, false, [], [], 0, 0, 0⟩ : Ml) := by
      rw [e]
      simp only [cpL, hd, List.cons_append, List.nil_append, List.foldl_cons, List.foldl_nil, cpP, setN, getN, zeroM]
    rw [ec]
    unfold named
    rw [if_neg (by show ¬ p.kind = 1; omega), if_neg (by show ¬ p.kind = 2; omega)]
    conv => rhs; rw [ml_eta p]
    simp [c1, c2, o1, o2, o3, o4, v1, a1, a2, a3, a4, a5, v3, t2, t3]
theorem readM_body {p : Ml} (h : snd p = true) (hr : p.root < 18446744073709551616) : readM (body p) = (p, true) := by
  have h1 := read3_G (snd_ok h hr) []
  rw [List.append_nil] at h1
  unfold readM
  rw [h1]
  simp only [named_all h]
  rfl
/-- Whatever stands behind a form's body is left over. -/
theorem readM_more {p : Ml} (h : snd p = true) (hr : p.root < 18446744073709551616) {l : List Nat} (hl : l ≠ []) : readM (body p ++ l) = (p, false) := by
  have h1 := read3_G (snd_ok h hr) l
  unfold readM
  rw [h1]
  simp only [named_all h]
  have : rDone (rG l) ≠ 0 := by simp [rDone, rG, hl]
  simp [this]
theorem enc_parts (p : Ml) : (enc p).take ((enc p).length - 4) = body p ∧ (enc p).drop ((enc p).length - 4) = le (crc (body p)) 4 := by
  have hl : (enc p).length = (body p).length + 4 := by unfold enc summed; rw [List.length_append, le_len]
  have : (enc p).length - 4 = (body p).length := by omega
  rw [this]
  unfold enc summed
  exact ⟨List.take_left .., List.drop_left ..⟩
theorem decE_enc {p : Ml} (h : snd p = true) (hr : p.root < 18446744073709551616) : decE (enc p) = 0 ∧ decM (enc p) = p := by
  have hl : (enc p).length = (body p).length + 4 := by unfold enc summed; rw [List.length_append, le_len]
  have hs := snd_len h
  obtain ⟨e1, e2⟩ := enc_parts p
  have h0 : decE (enc p) = 0 := by
    unfold decE
    rw [e1, e2, if_neg (by omega), if_neg (by omega), if_neg (by simp), readM_body h hr, if_pos ⟨rfl, h⟩]
  refine ⟨h0, ?_⟩
  unfold decM
  rw [if_pos h0, e1, readM_body h hr]
end Go.Proofs.YtfhfkpgfnlmfhabDoor
