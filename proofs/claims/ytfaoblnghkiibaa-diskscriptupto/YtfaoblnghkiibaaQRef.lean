/- The document's disk in memory: Sectors, Pending, Counts, Fuse, copied, Image, New, Load. -/
import Derived.Test.YtfaoblnghkiibaaQLaid
namespace Go.Proofs.Ytfaoblnghkiibaa
open Go.RowKit

/-- the fuse as the document has it -/
def leftOf : Option Nat → Int
  | none => -1
  | some f => (f : Int)
/-- the cells of the document's disk -/
def rcells (sb sc n : Nat) (pv : Value) (f : Option Nat) (wr sy : Int) : Array Value :=
  #[.slice (some ⟨sb, 0, none⟩) (64 * n) sc, pv, .int .i64 (leftOf f), .int .i64 wr, .int .i64 sy]

/-- what its blocks hold -/
structure Rp (w : World) (m sb sc : Nat) (pa : Option Addr) (pc : Nat) (d : Dm) (vs : List Value) : Prop where
  ok : d.ok
  head : Blk w m (rcells sb sc d.n (.slice pa d.pend.length pc) d.fuse d.wr d.sy) 73
  safe : w.ownsRow 0 5 1 (.slice (some ⟨sb, 0, none⟩) (64 * d.n) sc) (64 * d.n) (u8s d.safe)
  len : vs.length = d.pend.length
  pend : w.ownsRow 0 83 2 (.slice pa d.pend.length pc) d.pend.length (flatL d.pend vs)
  data : ∀ (j : Nat) (v : Value) (x : Wt), vs[j]? = some v → d.pend[j]? = some x → ∃ g cap, v = .slice (some ⟨g, 0, none⟩) 64 cap ∧ Sees w v x.d ∧ g < w.heap.size ∧ g ≠ m ∧ g ≠ sb ∧ (Value.slice pa d.pend.length pc).ownBlock ≠ some g
  ms : m ≠ sb
  pb : ∀ p, (Value.slice pa d.pend.length pc).ownBlock = some p → p ≠ m ∧ p ≠ sb

/-- the document's disk, its blocks among G -/
def Rk (w : World) (m : Nat) (G : List Nat) (d : Dm) : Prop :=
  ∃ sb sc pa pc vs, Rp w m sb sc pa pc d vs ∧ m ∈ G ∧ sb ∈ G ∧ (∀ p, (Value.slice pa d.pend.length pc).ownBlock = some p → p ∈ G) ∧ (∀ v ∈ vs, ∀ p, v.ownBlock = some p → p ∈ G) ∧ ∀ x ∈ G, x < w.heap.size

theorem Rp.keep {w w' : World} {m sb sc pc : Nat} {pa : Option Addr} {d : Dm} {vs : List Value} {F : List Nat} (h : Rp w m sb sc pa pc d vs) (hk : Kept F w w') (hm : m ∉ F) (hs : sb ∉ F) (hp : ∀ p, (Value.slice pa d.pend.length pc).ownBlock = some p → p ∉ F) (hv : ∀ v ∈ vs, ∀ p, v.ownBlock = some p → p ∉ F) : Rp w' m sb sc pa pc d vs :=
  ⟨h.ok, h.head.kept hk hm, own_kept h.safe hk (fun p hp' => by simp [Value.ownBlock] at hp'; subst hp'; exact hs), h.len, own_kept h.pend hk hp, fun j v x h1 h2 => by
    obtain ⟨g, cap, e, q1, q2, q3⟩ := h.data j v x h1 h2
    exact ⟨g, cap, e, q1.kept hk (Or.inr fun p hp' => hv v (List.mem_of_getElem? h1) p hp'), Nat.lt_of_lt_of_le q2 hk.size, q3⟩, h.ms, h.pb⟩
theorem Rk.keep {w w' : World} {m : Nat} {F G : List Nat} {d : Dm} (h : Rk w m G d) (hk : Kept F w w') (hn : ∀ x ∈ G, x ∉ F) : Rk w' m G d := by
  obtain ⟨sb, sc, pa, pc, vs, h1, h2, h3, h4, h5, h6⟩ := h
  exact ⟨sb, sc, pa, pc, vs, h1.keep hk (hn m h2) (hn sb h3) (fun p hp => hn p (h4 p hp)) (fun v hv p hp => hn p (h5 v hv p hp)), h2, h3, h4, h5, fun x hx => Nat.lt_of_lt_of_le (h6 x hx) hk.size⟩

theorem rp_cells {w : World} {m sb sc pc : Nat} {pa : Option Addr} {d : Dm} {vs : List Value} (h : Rp w m sb sc pa pc d vs) :
    w.cell? ⟨m, 0, none⟩ = some (.slice (some ⟨sb, 0, none⟩) (64 * d.n) sc) ∧ w.cell? ⟨m, 1, none⟩ = some (.slice pa d.pend.length pc) ∧ w.cell? ⟨m, 2, none⟩ = some (.int .i64 (leftOf d.fuse)) ∧ w.cell? ⟨m, 3, none⟩ = some (.int .i64 d.wr) ∧ w.cell? ⟨m, 4, none⟩ = some (.int .i64 d.sy) := by
  refine ⟨?_, ?_, ?_, ?_, ?_⟩ <;> (rw [h.head.cell]; simp [rcells])

set_option maxRecDepth 100000 in
theorem rsectors_any {w : World} {m : Nat} {G : List Nat} {d : Dm} (h : Rk w m G d) :
    Calls Try.prog 38 #[.pointer (some ⟨m, 0, none⟩)] w fun e w' => e = .returned (.int .i64 (d.n : Int)) ∧ w' = w := by
  obtain ⟨sb, sc, pa, pc, vs, h, -⟩ := h
  obtain ⟨c0, -, -, -, -⟩ := rp_cells h
  have hn := h.ok.most
  clear h
  generalize d.n = n at *
  obtain ⟨N, hN⟩ : ∃ N, N = 64 * n := ⟨_, rfl⟩
  rw [← hN] at c0
  have e1 : IntKind.i64.wrap ((N : Int) / 64) = (n : Int) := by rw [IntKind.wrap_i64]; omega
  have e3 : (N : Int) / 64 = (n : Int) := by omega
  clear hN
  go_enter Try.func38, Try.ntmps38
  go_wp2
  go_ret
  exact ⟨rfl, rfl⟩
set_option maxRecDepth 100000 in
theorem rnsectors (w : World) : Calls Try.prog 38 #[.pointer none] w fun e w' => e = .returned (.int .i64 0) ∧ w' = w := by
  go_enter Try.func38, Try.ntmps38
  go_wp2
  go_ret
  exact ⟨rfl, rfl⟩
set_option maxRecDepth 100000 in
theorem rpending_any {w : World} {m : Nat} {G : List Nat} {d : Dm} (h : Rk w m G d) :
    Calls Try.prog 34 #[.pointer (some ⟨m, 0, none⟩)] w fun e w' => e = .returned (.int .i64 (d.pend.length : Int)) ∧ w' = w := by
  obtain ⟨sb, sc, pa, pc, vs, h, -⟩ := h
  obtain ⟨-, c1, -, -, -⟩ := rp_cells h
  clear h
  go_enter Try.func34, Try.ntmps34
  go_wp2
  go_ret
  exact ⟨rfl, rfl⟩
set_option maxRecDepth 100000 in
theorem rnpending (w : World) : Calls Try.prog 34 #[.pointer none] w fun e w' => e = .returned (.int .i64 0) ∧ w' = w := by
  go_enter Try.func34, Try.ntmps34
  go_wp2
  go_ret
  exact ⟨rfl, rfl⟩
set_option maxRecDepth 100000 in
theorem rcounts_any {w : World} {m : Nat} {G : List Nat} {d : Dm} (h : Rk w m G d) :
    Calls Try.prog 39 #[.pointer (some ⟨m, 0, none⟩)] w fun e w' => e = .returned (.tuple #[.int .i64 d.wr, .int .i64 d.sy]) ∧ ∃ k, w' = w.drewN k := by
  obtain ⟨sb, sc, pa, pc, vs, h, -⟩ := h
  obtain ⟨-, -, -, c3, c4⟩ := rp_cells h
  clear h
  go_enter Try.func39, Try.ntmps39
  go_wp2
  go_quiet (fail)
  go_wp2
  go_ret2
  exact ⟨rfl, _, rfl⟩
set_option maxRecDepth 100000 in
theorem rncounts (w : World) : Calls Try.prog 39 #[.pointer none] w fun e w' => e = .returned (.tuple #[.int .i64 0, .int .i64 0]) ∧ w' = w := by
  go_enter Try.func39, Try.ntmps39
  go_wp2
  go_ret2
  exact ⟨rfl, rfl⟩

theorem Rp.setHead {w : World} {m sb sc pc : Nat} {pa : Option Addr} {d : Dm} {vs : List Value} (h : Rp w m sb sc pa pc d vs) {w' : World} (hk : Kept [m] w w') {f : Option Nat} {wr sy : Int} (hb : Blk w' m (rcells sb sc d.n (.slice pa d.pend.length pc) f wr sy) 73)
    (hf : ∀ x, f = some x → x ≤ 9223372036854775807) : Rp w' m sb sc pa pc { d with fuse := f, wr := wr, sy := sy } vs :=
  ⟨⟨h.ok.one, h.ok.most, h.ok.len, h.ok.byte, h.ok.pend, hf⟩, hb, own_kept h.safe hk (fun p hp' => by simp [Value.ownBlock] at hp'; subst hp'; simp; exact fun e => h.ms e.symm), h.len, own_kept h.pend hk (fun p hp => by simp; exact (h.pb p hp).1), fun j v x h1 h2 => by
    obtain ⟨g, cap, e, q1, q2, q3, q4⟩ := h.data j v x h1 h2
    exact ⟨g, cap, e, q1.kept hk (Or.inr fun p hp' => by rw [e] at hp'; simp [Value.ownBlock] at hp'; subst hp'; simpa using q3), Nat.lt_of_lt_of_le q2 hk.size, q3, q4⟩, h.ms, h.pb⟩

set_option maxRecDepth 100000 in
theorem rfuse_any {w : World} {m : Nat} {G : List Nat} {d : Dm} (h : Rk w m G d) (n : Int) (hn : n ≤ 9223372036854775807) :
    Calls Try.prog 35 #[.pointer (some ⟨m, 0, none⟩), .int .i64 n] w fun e w' => e = .returned (.tuple #[]) ∧ Rk w' m G (d.setFuse n) ∧ Nx G w G w' := by
  obtain ⟨sb, sc, pa, pc, vs, h, hm, hs, hp, hv, hlt⟩ := h
  obtain ⟨-, -, c2, -, -⟩ := rp_cells h
  have f2 := h.head.frozen 2
  have key : ∀ w', Kept [m] w w' → Blk w' m (rcells sb sc d.n (.slice pa d.pend.length pc) (fuseOf n) d.wr d.sy) 73 → Rk w' m G (d.setFuse n) ∧ Nx G w G w' := by
    intro w' hk hb
    refine ⟨⟨sb, sc, pa, pc, vs, h.setHead hk hb (Dm.setFuse_ok h.ok hn).fuse, hm, hs, hp, hv, fun x hx => Nat.lt_of_lt_of_le (hlt x hx) hk.size⟩, hk.mono (fun x hx => by simp at hx; subst hx; exact Or.inl hm), fun x hx => Or.inl hx⟩
  have HH := hide h.head
  have KEY := hide key
  clear key h hm hs hp hv hlt
  by_cases hn0 : n < 0
  · have e1 : fuseOf n = none := by simp [fuseOf, hn0]
    rw [e1] at KEY
    have t1 : (n < 0) = True := by simp; omega
    clear hn0 e1
    go_enter Try.func35, Try.ntmps35
    go_wp2
    refine bodyPost_end (results_none rfl _ _ _) rfl ?_
    refine ⟨rfl, unhide KEY _ (((Kept.refl [m] w).setCell (p := ⟨m, 2, none⟩) (Or.inl (by simp)) _).setCell (p := ⟨m, 2, none⟩) (Or.inl (by simp)) _) ?_⟩
    have := ((unhide HH).set 2 (.int .i64 n)).set 2 (.int .i64 (-1))
    simpa [rcells, leftOf] using this
  · have e1 : fuseOf n = some n.toNat := by simp [fuseOf, hn0]
    rw [e1] at KEY
    have t1 : (n < 0) = False := by simp; omega
    have HN : Hid (((n.toNat : Nat) : Int) = n) := by unfold Hid; omega
    clear hn0 e1
    go_enter Try.func35, Try.ntmps35
    go_wp2
    refine bodyPost_end (results_none rfl _ _ _) rfl ?_
    refine ⟨rfl, unhide KEY _ ((Kept.refl [m] w).setCell (p := ⟨m, 2, none⟩) (Or.inl (by simp)) _) ?_⟩
    have := (unhide HH).set 2 (.int .i64 n)
    simp only [rcells, leftOf, unhide HN]
    simpa [rcells] using this
set_option maxRecDepth 100000 in
theorem rnfuse (w : World) (n : Int) : Calls Try.prog 35 #[.pointer none, .int .i64 n] w fun e w' => e = .returned (.tuple #[]) ∧ w' = w := by
  go_enter Try.func35, Try.ntmps35
  go_wp2
  refine bodyPost_ret (results_none rfl _ _ _) rfl ?_
  exact ⟨rfl, rfl⟩

set_option maxRecDepth 100000 in
theorem copied_any {w : World} {v : Value} {bs : List Nat} (hs : Sees w v bs) (hl : bs.length ≤ 140737488351232) :
    Calls Try.prog 30 #[v] w fun e w' => ∃ a cap, e = .returned (.slice a bs.length cap) ∧ w'.ownsRow w.heap.size 5 1 (.slice a bs.length cap) bs.length (u8s bs) ∧ Kept [] w w' := by
  obtain ⟨i0, hi, hz0, hz1, hz2⟩ := info_parts info5p
  have HI := hide (⟨hi, hz0, hz1, hz2⟩ : _ ∧ _ ∧ _ ∧ _)
  have HS := hide hs
  obtain ⟨p, pc, rfl, -⟩ := hs
  clear hi hz0 hz1 hz2
  have HL : Hid (([] : List Nat).length + bs.length ≤ 140737488355328) := by unfold Hid; simp; omega
  go_enter Try.func30, Try.ntmps30
  go_wp2_with (at_builtin; refine wpList_append_sees _ rfl _ _ 22 rfl w.heap.size 5 i0 (.int .u8 0) Try.underlying22 (unhide HI).1 (unhide HI).2.1 (unhide HI).2.2.1 (unhide HI).2.2.2 rfl _ [] rfl (own_nil w w.heap.size) _ bs rfl (unhide HS) (unhide HL) (Nat.le_refl _) ?_; intro v2 w2 ho2 hg2 hat2; obtain ⟨a2, c2, rfl⟩ := own_len ho2; have HO2 := hide ho2; have HK2 : Hid (Kept [] w w2) := (Kept.refl [] w).grown hg2 (fun k hk => by cases hk); clear ho2 hg2 hat2)
  go_ret
  exact ⟨a2, c2, rfl, unhide HO2, unhide HK2⟩
end Go.Proofs.Ytfaoblnghkiibaa
