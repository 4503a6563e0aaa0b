/- RecordOwn: what is known while it goes on. -/
import Derived.Test.YtocmgfmfalaebabOAZ
namespace Go.Proofs.Ytocmgfmfalaebab
open Go.RowKit

/-- Since w0: rows of the call's own, and records in their boxes. -/
structure OS (w0 : World) (rows : List (Value × List Nat)) (boxes : List (Nat × Array Value)) (W : World) : Prop where
  kept : Kept [] w0 W
  pool : Pool w0.heap.size W rows
  bx : ∀ x ∈ boxes, Blk W x.1 x.2 26
theorem OS.nth {w0 : World} {rows : List (Value × List Nat)} {boxes : List (Nat × Array Value)} {W : World} (h : OS w0 rows boxes W) {i : Nat} {x : Nat × Array Value} (hi : boxes[i]? = some x) : Blk W x.1 x.2 26 := h.bx x (List.mem_of_getElem? hi)
theorem OS.row {w0 : World} {rows : List (Value × List Nat)} {boxes : List (Nat × Array Value)} {W : World} (h : OS w0 rows boxes W) {i : Nat} {x : Value × List Nat} (hi : rows[i]? = some x) : W.ownsRow w0.heap.size 5 1 x.1 x.2.length (u8s x.2) := h.pool.own x (List.mem_of_getElem? hi)
theorem OS.go {w0 : World} {rows : List (Value × List Nat)} {boxes : List (Nat × Array Value)} {W Y : World} (h : OS w0 rows boxes W) (k : Kept [] W Y) : OS w0 rows boxes Y := ⟨h.kept.step k, h.pool.kept k, fun x hx => (h.bx x hx).kept k (by simp)⟩
theorem OS.join {w0 : World} {rows news : List (Value × List Nat)} {boxes : List (Nat × Array Value)} {W Y : World} (h : OS w0 rows boxes W) (k : Kept [] W Y) (hn : Pool W.heap.size Y news) : OS w0 (news ++ rows) boxes Y := ⟨h.kept.step k, h.pool.join h.kept.size k hn, fun x hx => (h.bx x hx).kept k (by simp)⟩
theorem OS.push {w0 : World} {rows : List (Value × List Nat)} {boxes : List (Nat × Array Value)} {W Y : World} (h : OS w0 rows boxes W) (k : Kept [] W Y) {v : Value} {l : List Nat} (ho : Y.ownsRow W.heap.size 5 1 v l.length (u8s l)) (hl : l.length ≤ 3000000000) : OS w0 ((v, l) :: rows) boxes Y := h.join k (Pool.one ho hl)
theorem OS.box {w0 : World} {rows : List (Value × List Nat)} {boxes : List (Nat × Array Value)} {W : World} (h : OS w0 rows boxes W) (cs : Array Value) : OS w0 rows ((W.heap.size, cs) :: boxes) (W.alloc (.cells cs 26)) := by
  have k := (Kept.refl [] W).alloc (.cells cs 26)
  have g := h.go k
  refine ⟨g.kept, g.pool, fun x hx => ?_⟩
  rcases List.mem_cons.1 hx with rfl | hx
  · exact Blk.new _ _ _
  · exact g.bx x hx
theorem OS.turn {w0 : World} {A B : List (Value × List Nat)} {v : Value} {l l' : List Nat} {boxes : List (Nat × Array Value)} {W Y : World} {g : Nat} (h : OS w0 (A ++ (v, l) :: B) boxes W) (hg : v.ownBlock = some g) (k : Kept [g] W Y) (ho : Y.ownsRow w0.heap.size 5 1 v l'.length (u8s l')) (hl : l'.length = l.length) : OS w0 (A ++ (v, l') :: B) boxes Y := by
  have hr := h.pool.own (v, l) (by simp)
  refine ⟨h.kept.trans k (fun x hx => Or.inr (by simp at hx; subst hx; exact (hr.lt _ hg).1)), h.pool.turn hg k ho hl, fun x hx => (h.bx x hx).kept k (fun hm => ?_)⟩
  simp at hm
  exact own_type hr (h.bx x hx) (by decide) (by rw [hm]; exact hg)
/-- Rows that a record lent. -/
theorem Ln3.pool {w W : World} {p : Pl} {m : Lo} (h : Ln3 w W p m) (z1 : p.key.length ≤ 3000000000) (z2 : p.val.length ≤ 3000000000) (z3 : p.copy.length ≤ 3000000000) : ∃ g1 c1 g2 c2 g3 c3, m = lnL g1 c1 g2 c2 g3 c3 ∧ Pool w.heap.size W [(.slice (some ⟨g1, 0, none⟩) p.key.length c1, p.key), (.slice (some ⟨g2, 0, none⟩) p.val.length c2, p.val), (.slice (some ⟨g3, 0, none⟩) p.copy.length c3, p.copy)] := by
  obtain ⟨g1, c1, g2, c2, g3, c3, rfl, a1, a2, a3, h1, h2⟩ := h.ex
  exact ⟨g1, c1, g2, c2, g3, c3, rfl, Pool.three (own_down a1.own (by omega)) (own_down a2.own (by omega)) (own_down a3.own (by omega)) (fun b e e2 => by simp [Value.ownBlock] at e e2; omega) (fun b e e2 => by simp [Value.ownBlock] at e e2; omega) (fun b e e2 => by simp [Value.ownBlock] at e e2; omega) z1 z2 z3⟩

/-- A record whose lists are turned. -/
def trnP (p : Pl) : Pl := { p with key := trn p.key, val := trn p.val, copy := trn p.copy }
theorem okF_trn (p : Pl) (k : Fk) : okF (trnP p) k = okF p k := by
  cases k with
  | num o lo hi =>
    have : getN (trnP p) o = getN p o := by unfold getN trnP; split <;> rfl
    simp only [okF, this]
  | op => simp [okF, trnP, trn_len]
  | copy => simp [okF, trnP, trn_len]
theorem wipe_trn (r : Pl) (k : Fk) : wipeF (trnP r) k = trnP (wipeF r k) := by
  cases k with
  | num o lo hi => simp only [wipeF]; unfold setN trnP; split <;> rfl
  | op => rfl
  | copy => rfl
theorem sndL_trn (p : Pl) : ∀ (ks : List Fk) (r : Pl), sndL (trnP p) ks (trnP r) = sndL p ks r
  | [], r => by show blank (trnP r) = blank r; unfold blank trnP; simp only [trn_len]
  | k :: ks, r => by rw [sndL, sndL, okF_trn, wipe_trn, sndL_trn p ks]
theorem snd_trn (p : Pl) : snd (trnP p) = snd p := by
  unfold snd
  rw [sndL_trn]
  rfl
theorem rv_trn (p : Pl) (m : Lo) : rv (trnP p) m = .agg #[.int .i64 p.kind, .int .i64 p.shard, .int .i64 p.epoch, .int .i64 p.peer, .int .i64 p.client, .int .i64 p.seq, .int .i64 p.okind, .slice m.ka p.key.length m.kc, .slice m.va p.val.length m.vc, .int .i64 p.rev, .slice m.ca p.copy.length m.cc] := by
  rw [rv_lit]; simp [trnP, trn_len]
theorem dec_255 {n : Nat} (hn : 0 < n) : dec (List.replicate n 255) = none := by
  obtain ⟨k, rfl⟩ : ∃ k, n = k + 1 := ⟨n - 1, by omega⟩
  unfold dec decB
  rw [List.replicate_succ]
  simp [rByte, rowOf, takL, snd]
theorem by_255 (n : Nat) : ∀ x ∈ List.replicate n 255, x < 256 := fun x hx => by rw [List.eq_of_mem_replicate hx]; omega
/-- The lists of what Decode gives. -/
theorem pool_new {w W : World} {p : Pl} {l : Lo} (h : NewR w p l W) (hs : snd p = true) : Pool w.heap.size W [(.slice l.ka p.key.length l.kc, p.key), (.slice l.va p.val.length l.vc, p.val), (.slice l.ca p.copy.length l.cc, p.copy)] := by
  have := snd_len hs
  obtain ⟨_, _, _, o1⟩ := h.kn
  obtain ⟨_, _, _, o2⟩ := h.vn
  obtain ⟨_, _, _, o3⟩ := h.cn
  exact Pool.three o1 o2 o3 h.kv h.kc h.vc (by omega) (by omega) (by omega)
/-- Behind 'apart' over rows of the pool. -/
theorem OS.over {w0 : World} {rows : List (Value × List Nat)} {boxes : List (Nat × Array Value)} {W Y : World} (h : OS w0 rows boxes W) (k : Kept (blocks rows) W Y) : OS w0 [] boxes Y := by
  refine ⟨h.kept.trans k (fun x hx => ?_), Pool.nil _ _, fun x hx => (h.bx x hx).kept k (fun hm => ?_)⟩
  · obtain ⟨r, hr, hb⟩ := List.mem_filterMap.1 hx
    exact Or.inr (h.pool.lt hr hb).1
  · obtain ⟨r, hr, hb⟩ := List.mem_filterMap.1 hm
    exact own_type (h.pool.own r hr) (h.bx x hx) (by decide) hb
theorem over_new {wb W Y : World} {p : Pl} {l : Lo} {rows : List (Value × List Nat)} {base : Nat} (hn : NewR wb p l W) (hp : Pool base wb rows) (k : Kept (blocks rows) W Y) (hs : snd p = true) : RecW Y p l := by
  have hl := snd_len hs
  have g : ∀ {bs : List Nat} {v : Value}, NewV wb bs v W → ∀ x, v.ownBlock = some x → x ∉ blocks rows := fun hv x hx hm => by
    obtain ⟨r, hr, hb⟩ := List.mem_filterMap.1 hm
    have := (hp.lt hr hb).2
    have := (hv.lt hx).1
    omega
  exact ⟨(hn.kn.kept k (g hn.kn)).wide, (hn.vn.kept k (g hn.vn)).wide, (hn.cn.kept k (g hn.cn)).wide, by omega, by omega, by omega⟩
end Go.Proofs.Ytocmgfmfalaebab
