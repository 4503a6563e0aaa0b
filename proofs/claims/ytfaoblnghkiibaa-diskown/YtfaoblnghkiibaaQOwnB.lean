/- DiskOwn: a disk and rows beside it. -/
import Derived.Test.YtfaoblnghkiibaaQOwnA
namespace Go.Proofs.Ytfaoblnghkiibaa
open Go.RowKit

theorem own_lower {w : World} {base base2 : Nat} {e : TypeId} {s : Nat} {v : Value} {n : Nat} {xs : List Value} (h : w.ownsRow base e s v n xs) (hb : base2 ≤ base) : w.ownsRow base2 e s v n xs := by
  refine ⟨h.1, ?_⟩
  rcases h.2 with h2 | ⟨g, cap, cur, hv, hg, r⟩
  · exact Or.inl h2
  · exact Or.inr ⟨g, cap, cur, hv, Nat.le_trans hb hg, r⟩
structure Ent where
  g : Nat
  c : Nat
  n : Nat
  l : List Nat
/-- a disk, and rows of the call's own beside it, none of them twice -/
structure Fld (w0 W : World) (b : Nat) (F : List Nat) (d : Dm) (R : List Ent) : Prop where
  st : Stand w0 b F d W
  row : ∀ e ∈ R, RowU W e.g e.c e.n e.l ∧ w0.heap.size ≤ e.g ∧ e.g ∉ F
  nd : (R.map Ent.g).Nodup
theorem Fld.quiet {w0 W W' : World} {b : Nat} {F : List Nat} {d : Dm} {R : List Ent} (h : Fld w0 W b F d R) (hk : Kept [] W W') : Fld w0 W' b F d R :=
  ⟨h.st.quiet hk, fun e he => ⟨(h.row e he).1.kept hk (by simp), (h.row e he).2⟩, h.nd⟩
theorem Fld.push {w0 W W' : World} {b : Nat} {F : List Nat} {d : Dm} {R : List Ent} (h : Fld w0 W b F d R) (hk : Kept [] W W') {g c n : Nat} {l : List Nat} (hr : RowU W' g c n l) (hg : W.heap.size ≤ g) : Fld w0 W' b F d (⟨g, c, n, l⟩ :: R) := by
  refine ⟨h.st.quiet hk, fun e he => ?_, ?_⟩
  · rcases List.mem_cons.1 he with rfl | he
    · refine ⟨hr, ?_, h.st.new hg⟩
      have := h.st.nx.kept.size
      show _ ≤ g
      omega
    · exact ⟨(h.row e he).1.kept hk (by simp), (h.row e he).2⟩
  · rw [List.map_cons, List.nodup_cons]
    refine ⟨fun hm => ?_, h.nd⟩
    obtain ⟨e, he, e1⟩ := List.mem_map.1 hm
    have := (h.row e he).1.lt
    simp only at e1
    omega
theorem Fld.call {w0 W W' : World} {b : Nat} {F F' : List Nat} {d d' : Dm} {R : List Ent} (h : Fld w0 W b F d R) (dk : Dk W' b F' d') (nx : Nx F W F' W') : Fld w0 W' b F' d' R :=
  ⟨⟨dk, h.st.nx.trans nx⟩, fun e he => ⟨(h.row e he).1.kept nx.kept (h.row e he).2.2, (h.row e he).2.1, nx.away (h.row e he).2.2 (h.row e he).1.lt⟩, h.nd⟩
theorem Fld.over {w0 W W' : World} {b : Nat} {F : List Nat} {d : Dm} {e : Ent} {R : List Ent} (h : Fld w0 W b F d (e :: R)) (hk : Kept [e.g] W W') : Fld w0 W' b F d R := by
  obtain ⟨he1, he2, he3⟩ := h.row e (by simp)
  have hn := h.nd
  rw [List.map_cons, List.nodup_cons] at hn
  refine ⟨⟨h.st.dk.keep hk (fun x hx hm => he3 (by simp at hm; rw [← hm]; exact hx)), ⟨h.st.nx.kept.trans hk (fun x hx => Or.inr (by simp at hx; rw [hx]; exact he2)), h.st.nx.sub⟩⟩, fun e' he' => ?_, hn.2⟩
  obtain ⟨q1, q2, q3⟩ := h.row e' (by simp [he'])
  refine ⟨q1.kept hk (fun hm => hn.1 ?_), q2, q3⟩
  simp at hm
  rw [← hm]
  exact List.mem_map.2 ⟨e', he', rfl⟩
theorem Fld.get {w0 W : World} {b : Nat} {F : List Nat} {d : Dm} {R : List Ent} (h : Fld w0 W b F d R) {g c n : Nat} {l : List Nat} (hm : (⟨g, c, n, l⟩ : Ent) ∈ R) : RowU W g c n l ∧ w0.heap.size ≤ g ∧ g ∉ F := h.row _ hm

theorem row_lent {w : World} {base g cap L : Nat} {bs : List Nat} (h : Lent w base g cap L bs) : RowU w g cap (L + 3) (bs ++ three) := Or.inl (own_lower h.2.2 (Nat.zero_le _))
theorem RowU.pre {w : World} {g c L m : Nat} {bs r : List Nat} (h : RowU w g c (L + m) (bs ++ r)) (hl : bs.length = L) (hb : ∀ x ∈ bs, x < 256) : Sees w (.slice (some ⟨g, 0, none⟩) L c) bs := by
  subst hl
  have hc := h.cap
  refine ⟨_, c, rfl, by omega, by unfold maxLen; omega, hb, Or.inr ⟨g, 0, rfl, h.lt, fun j hj => ?_⟩⟩
  rw [Nat.zero_add, h.at (by omega), List.getD, List.getD, List.getElem?_append_left hj]
theorem RowU.preAt {w : World} {g c L m : Nat} {bs r : List Nat} (h : RowU w g c (L + m) (bs ++ r)) (hl : bs.length = L) : ∀ k, k < L → w.cell? ⟨g, k, none⟩ = some (.int .u8 (bs.getD k 0 : Nat)) := fun k hk => by
  rw [h.at (by omega), List.getD, List.getD, List.getElem?_append_left (by omega)]
theorem row_image {w : World} {base r cap n : Nat} {s : List Nat} (h : w.ownsRow base 5 1 (.slice (some ⟨r, 0, none⟩) n cap) n (u8s s)) : RowU w r cap n s := Or.inl (own_lower h (Nat.zero_le _))
theorem row_block {w : World} {r : Nat} {s : List Nat} (h : Blk w r (u8s s).toArray 70) (hl : s.length = 64) : RowU w r 64 64 s := Or.inr ⟨rfl, hl, by omega, h⟩
/-- a sector of bytes that came in -/
theorem sees_part {w : World} {p off L cap n j : Nat} {s : List Nat} (h : Sees w (.slice (some ⟨p, off, none⟩) L cap) s) (hl : s.length = 64 * n) (hj : j < n) : Sees w (.slice (some ⟨p, off + 64 * j, none⟩) 64 (cap - 64 * j)) (sect s j) := by
  obtain ⟨a, cap', hv, h1, h2, hb, h3⟩ := h
  have hsl := sect_len hl hj
  cases hv
  rcases h3 with h3 | ⟨b', off', e, h4, h5⟩
  · subst h3; simp at hl; omega
  · cases e
    refine ⟨_, _, by rw [hsl], by rw [hsl]; omega, by unfold maxLen at h2 ⊢; omega, sect_bytes hb, Or.inr ⟨p, off + 64 * j, rfl, h4, fun i hi => ?_⟩⟩
    rw [hsl] at hi
    rw [show off + 64 * j + i = off + (64 * j + i) by omega, h5 (64 * j + i) (by omega)]
    have h64 : 64 * j + i < s.length := by omega
    simp [sect, hi, List.getElem?_drop, List.getElem?_eq_getElem h64]
theorem RowU.part {w : World} {g c n j : Nat} {s : List Nat} (h : RowU w g c (64 * n) s) (hb : ∀ x ∈ s, x < 256) (hj : j < n) : Sees w (.slice (some ⟨g, 64 * j, none⟩) 64 (c - 64 * j)) (sect s j) := by
  have := sees_part (h.sees hb) h.len hj
  rwa [Nat.zero_add] at this
theorem newest_none {d : Dm} (h : d.pend = []) (k : Nat) : newest d k = sect d.safe k := by unfold newest; rw [h]; rfl
theorem sect_lay {s d : List Nat} {k n : Nat} (hs : s.length = 64 * n) (hk : k < n) (hd : d.length = 64) : sect (lay s k 64 d) k = d := by
  unfold sect lay
  have h1 : (s.take (64 * k)).length = 64 * k := by rw [List.length_take]; omega
  rw [List.append_assoc, List.drop_append_of_le_length (by omega), List.drop_of_length_le (by omega), List.nil_append, List.take_of_length_le (l := d) (by omega), ← hd, List.take_left]
theorem fresh_write {n k : Nat} {bs ds : List Nat} : ((fresh n bs).write k ds).sync.safe = lay bs k 64 ds := rfl
theorem fresh_sync {n : Nat} {bs : List Nat} : (fresh n bs).sync.safe = bs := rfl
theorem fresh_rE {n k : Nat} {bs : List Nat} (hk : k < n) : rE (fresh n bs) (k : Int) = 0 := by
  unfold rE; rw [if_neg (by simp [fresh]), if_neg (by simp [fresh]; omega)]
theorem sync_rE {n k : Nat} {d : Dm} (hf : d.fuse = none) (hn : d.n = n) (hk : k < n) : rE d (k : Int) = 0 := by
  unfold rE; rw [if_neg (by rw [hf]; simp), if_neg (by rw [hn]; omega)]
theorem tmod_neg {x : Int} {n : Nat} (h1 : 1 ≤ n) (h : x.tmod (n : Int) < 0) : x.tmod (n : Int) + n = x % (n : Int) := by
  have h3 := Int.emod_nonneg x (b := (n : Int)) (by omega)
  rw [Int.tmod_eq_emod] at h ⊢
  split at h
  · omega
  · rename_i hc
    rw [if_neg hc] at *
    simp at *
end Go.Proofs.Ytfaoblnghkiibaa
