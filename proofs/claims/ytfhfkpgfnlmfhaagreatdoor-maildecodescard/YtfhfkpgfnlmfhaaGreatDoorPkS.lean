/- A text of the base. -/
import Derived.Test.YtfhfkpgfnlmfhaaGreatDoorPkM
import Derived.Test.YtfhfkpgfnlmfhaaGreatDoorPkF
/- Slices of bytes that come in: an empty one may have any address at all. lay, Raw, Text and same over those. -/
namespace Go.Proofs.YtfhfkpgfnlmfhaaGreatDoor
open Go.RowKit

/-- The slice v reads as the bytes bs; or it is empty, with no room, at whatever address. -/
def Wide (w : World) (v : Value) (bs : List Nat) : Prop := Sees w v bs ∨ ∃ a, v = .slice (some a) 0 0 ∧ bs = []
/-- The same, and it does not lie in the blocks F. -/
def Far (w : World) (v : Value) (bs : List Nat) (F : List Nat) : Prop := (Sees w v bs ∧ ∀ k, v.ownBlock = some k → k ∉ F) ∨ ∃ a, v = .slice (some a) 0 0 ∧ bs = []

theorem Sees.lt {w : World} {v : Value} {bs : List Nat} (h : Sees w v bs) {k : Nat} (hk : v.ownBlock = some k) : k < w.heap.size := by
  rcases h with ⟨rfl, _⟩ | ⟨b, off, cap, rfl, _, _, h3, _⟩
  · cases hk
  · cases hk; exact h3
theorem wide_len {w : World} {v : Value} {bs : List Nat} (h : Wide w v bs) : ∃ a cap, v = .slice a bs.length cap := by
  rcases h with h | ⟨a, rfl, rfl⟩
  · exact sees_len h
  · exact ⟨_, _, rfl⟩
theorem Wide.kept {w w' : World} {v : Value} {bs : List Nat} (h : Wide w v bs) (hk : Kept [] w w') : Wide w' v bs := by
  rcases h with h | h
  · exact Or.inl (h.kept hk (by simp))
  · exact Or.inr h
theorem Wide.far {w : World} {v : Value} {bs : List Nat} (h : Wide w v bs) {F : List Nat} (hF : ∀ k, k < w.heap.size → k ∉ F) : Far w v bs F := by
  rcases h with h | h
  · exact Or.inl ⟨h, fun k hk => hF k (h.lt hk)⟩
  · exact Or.inr h
theorem Far.wide {F : List Nat} {w w' : World} {v : Value} {bs : List Nat} (h : Far w v bs F) (hk : Kept F w w') : Wide w' v bs := by
  rcases h with ⟨h, hn⟩ | h
  · exact Or.inl (h.kept hk hn)
  · exact Or.inr h
theorem Far.keep {F : List Nat} {w w' : World} {v : Value} {bs : List Nat} (h : Far w v bs F) (hk : Kept [] w w') : Far w' v bs F := by
  rcases h with ⟨h, hn⟩ | h
  · exact Or.inl ⟨h.kept hk (by simp), hn⟩
  · exact Or.inr h
theorem Wide.at {w : World} {xa : Option Addr} {n xc : Nat} {bs : List Nat} (h : Wide w (.slice xa n xc) bs) (k : Nat) (hk : k < bs.length) :
    ∃ b off, xa = some ⟨b, off, none⟩ ∧ w.cell? ⟨b, off + k, none⟩ = some (.int .u8 (bs.getD k 0 : Nat)) := by
  rcases h with h | ⟨_, _, h2⟩
  · exact h.at k hk
  · subst h2; simp at hk

/-- 'append(dst, src...)' of bytes, src as above. -/
theorem wpList_append_wide {P : Program} (w : World) {ops : Array Oper} {rest : List Oper} {o : Oper} {a : Act} {Q : Exit → Act → World → Prop} (hgd : o.guard = none) (s x : Operand) (t : TypeId)
    (ho : o.op = .call { callee := .builtin .append, args := #[s, x], argTypes := #[t, t] })
    (base : Nat) (e : TypeId) (i : TypeInfo) (z : Value) (ht : P.underlying t = some (.slice e)) (hi : P.info? e = some i) (hz : i.zero = some z)
    (hsize : i.size = 1) (hby : i.bytes = 1) (hzs : z.cells.size = 1)
    (v : Value) (xs : List Nat) (hs : a.eval s = v) (hown : w.ownsRow base e 1 v xs.length (u8s xs)) (xv : Value) (ys : List Nat) (hxv : a.eval x = xv) (hx : Wide w xv ys)
    (h63 : xs.length + ys.length ≤ 140737488355328) (hbase : base ≤ w.heap.size)
    (h : ∀ v' w', w'.ownsRow base e 1 v' (xs ++ ys).length (u8s (xs ++ ys)) → w.grownBy w' v.ownBlock → (v'.ownBlock = v.ownBlock ∨ v'.ownBlock = some w.heap.size) → wpList P ops Q rest (a.put o.dst v') w') :
    wpList P ops Q (o :: rest) a w := by
  rcases hx with hx | ⟨c, hc, rfl⟩
  · exact wpList_append_sees w hgd s x t ho base e i z ht hi hz hsize hby hzs v xs hs hown xv ys hxv hx h63 hbase h
  · subst hc
    refine wpList_plain hgd fun K hK => ?_
    have hl0 : (loadCells c 0).run P w = .ok #[] w := rfl
    have hr : (Builtin.append_ #[t, t] o.type #[v, .slice (some c) 0 0]).run P w = .ok v w := by
      rcases hown.2 with ⟨rfl, h0⟩ | ⟨g, cap, cur, rfl, hbg, hg, hnc, hcm, hcs, htake⟩
      · simp [Builtin.append_, run_underlying ht, sizeOf, typeInfo, hi, Builtin.lenOf, Builtin.firstCells, hl0]
      · have : xs.length ≤ cap := hnc
        simp [Builtin.append_, run_underlying ht, sizeOf, typeInfo, hi, Builtin.lenOf, Builtin.firstCells, this, storeCells, hl0]
    unfold Oper.wp execOp
    simp only [ho, resolve, invoke, builtin, Sem.run_bind, Sem.run_pure, Result.andThen_ok, List.map_toArray, List.map_cons, List.map_nil, hs, hxv, hr]
    exact hK _ _ (h v w (by simpa using hown) ⟨rfl, rfl, rfl, Nat.le_refl _, fun _ _ _ => rfl⟩ (Or.inl rfl))

set_option maxRecDepth 100000 in
set_option maxHeartbeats 400000 in
/-- same: are two slices of bytes alike? -/
theorem same_yesE {w : World} {x y : Value} {bs : List Nat} (h1 : Sees w x bs) (h2 : Wide w y bs) (hl : bs.length ≤ 140737488355328) :
    Calls Tryz.prog 18 #[x, y] w fun e w' => e = .returned (.bool true) ∧ ∃ m, w' = w.drewN m := by
  obtain ⟨xa, xc, rfl⟩ := sees_len h1
  obtain ⟨ya, yc, rfl⟩ := wide_len h2
  go_enter Tryz.func18, Tryz.ntmps18
  go_wp2
  go_loopw [5] (fun i wr => ∃ k : Nat, k ≤ bs.length ∧ i = .int .i64 k ∧ ∃ m, wr = w.drewN m) (fun i _ => bs.length - (intOf i).toNat)
  case atStart => exact ⟨0, by omega, rfl, 0, rfl⟩
  case round =>
    obtain ⟨k, hk, rfl, m, hq⟩ := hrel
    subst hq
    by_cases hlt : k < bs.length
    · obtain ⟨xb, xo, rfl, hx⟩ := h1.at k hlt
      obtain ⟨yb, yo, rfl, hy⟩ := h2.at k hlt
      generalize bs.getD k 0 = z at hx hy
      clear h1 h2
      go_wp2
      go_quiet (fail)
      go_wp2
      go_roundw
      case rel => exact ⟨k + 1, by omega, by go_num, _, rfl⟩
      case measure => simp [intOf]; omega
    · go_wp2
      go_ret
      exact ⟨rfl, _, rfl⟩
end Go.Proofs.YtfhfkpgfnlmfhaaGreatDoor
