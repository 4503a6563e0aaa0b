/- A disk in plain bytes: safe ones, pending writes, the fuse. -/
import Derived.Laws.BitsAllLaws
namespace Go.Proofs.Ytfaoblnghkiibaa
open Go

/-- a pending write: its sector, its bytes -/
structure Wt where
  k : Nat
  d : List Nat

/-- the first n bytes of d are laid onto sector k -/
def lay (s : List Nat) (k n : Nat) (d : List Nat) : List Nat := s.take (64 * k) ++ d.take n ++ s.drop (64 * k + n)

theorem lay_len {s d : List Nat} {k n m : Nat} (hs : s.length = 64 * m) (hk : k < m) (hd : d.length = 64) (hn : n ≤ 64) : (lay s k n d).length = 64 * m := by
  simp [lay, hs, hd]; omega
theorem lay_bytes {s d : List Nat} {k n : Nat} (hs : ∀ x ∈ s, x < 256) (hd : ∀ x ∈ d, x < 256) : ∀ x ∈ lay s k n d, x < 256 := by
  intro x hx
  simp only [lay, List.mem_append] at hx
  rcases hx with (hx | hx) | hx
  · exact hs x (List.mem_of_mem_take hx)
  · exact hd x (List.mem_of_mem_take hx)
  · exact hs x (List.mem_of_mem_drop hx)

/-- a disk: sectors, safe bytes, pending writes, the fuse, the counts -/
structure Dm where
  n : Nat
  safe : List Nat
  pend : List Wt
  fuse : Option Nat
  wr : Int
  sy : Int

structure Wt.ok (n : Nat) (x : Wt) : Prop where
  lt : x.k < n
  len : x.d.length = 64
  byte : ∀ y ∈ x.d, y < 256

structure Dm.ok (d : Dm) : Prop where
  one : 1 ≤ d.n
  most : d.n ≤ 65536
  len : d.safe.length = 64 * d.n
  byte : ∀ x ∈ d.safe, x < 256
  pend : ∀ x ∈ d.pend, x.ok d.n
  fuse : ∀ f, d.fuse = some f → f ≤ 9223372036854775807

/-- is the power off? -/
def pE (d : Dm) : Nat := if d.fuse = some 0 then 80 else 0
/-- why a sector may not be asked for -/
def rE (d : Dm) (x : Int) : Nat := if d.fuse = some 0 then 80 else if x < 0 ∨ (d.n : Int) ≤ x then 81 else 0
/-- why a write is refused -/
def wE (d : Dm) (x : Int) (l : Nat) : Nat := if rE d x ≠ 0 then rE d x else if l ≠ 64 then 82 else 0

def burn (f : Option Nat) : Option Nat := f.map (· - 1)
def fuseOf (n : Int) : Option Nat := if n < 0 then none else some n.toNat
def one (x : Int) : Int := IntKind.i64.wrap (x + 1)

def Dm.write (d : Dm) (k : Nat) (l : List Nat) : Dm := { d with pend := d.pend ++ [⟨k, l⟩], fuse := burn d.fuse, wr := one d.wr }
def carryAll (s : List Nat) (ps : List Wt) : List Nat := ps.foldl (fun s x => lay s x.k 64 x.d) s
def Dm.sync (d : Dm) : Dm := { d with safe := carryAll d.safe d.pend, pend := [], fuse := burn d.fuse, sy := one d.sy }
def Dm.setFuse (d : Dm) (n : Int) : Dm := { d with fuse := fuseOf n }

/-- what a crash does with the write i -/
def crash1 (keep : List Bool) (torn : Int) (cut : Nat) (i : Nat) (x : Wt) (s : List Nat) : List Nat :=
  if (i : Int) = torn then lay s x.k cut x.d else if keep.getD i false = true then lay s x.k 64 x.d else s
def crashF (keep : List Bool) (torn : Int) (cut : Nat) : Nat → List Wt → List Nat → List Nat
  | _, [], s => s
  | i, x :: ps, s => crashF keep torn cut (i + 1) ps (crash1 keep torn cut i x s)
/-- cut brought into 0 to 64 -/
def cutN (c : Int) : Nat := if c < 0 then 0 else if 64 < c then 64 else c.toNat
theorem cutN_le (c : Int) : cutN c ≤ 64 := by unfold cutN; split; omega; split <;> omega
def Dm.crash (d : Dm) (keep : List Bool) (torn cut : Int) : Dm := { d with safe := crashF keep torn (cutN cut) 0 d.pend d.safe, pend := [], fuse := none }

/-- the last write to sector k among the first m -/
def lastOf (ps : List Wt) (k : Nat) : Nat → Option (List Nat)
  | 0 => none
  | m + 1 => match ps[m]? with
    | some x => if x.k = k then some x.d else lastOf ps k m
    | none => lastOf ps k m
/-- a sector's safe bytes -/
def sect (s : List Nat) (k : Nat) : List Nat := (s.drop (64 * k)).take 64
/-- what is read -/
def newest (d : Dm) (k : Nat) : List Nat := (lastOf d.pend k d.pend.length).getD (sect d.safe k)

theorem sect_len {s : List Nat} {k m : Nat} (hs : s.length = 64 * m) (hk : k < m) : (sect s k).length = 64 := by simp [sect, hs]; omega
theorem sect_bytes {s : List Nat} {k : Nat} (hs : ∀ x ∈ s, x < 256) : ∀ x ∈ sect s k, x < 256 := fun x hx => hs x (List.mem_of_mem_drop (List.mem_of_mem_take hx))

theorem lastOf_some {ps : List Wt} {k m : Nat} {l : List Nat} (h : lastOf ps k m = some l) : ∃ x ∈ ps, x.d = l ∧ x.k = k := by
  induction m with
  | zero => cases h
  | succ m ih =>
    unfold lastOf at h
    split at h
    · next x hx =>
      split at h
      · next hk => cases h; exact ⟨x, List.mem_of_getElem? hx, rfl, hk⟩
      · exact ih h
    · exact ih h
theorem newest_ok {d : Dm} (h : d.ok) {k : Nat} (hk : k < d.n) : (newest d k).length = 64 ∧ ∀ x ∈ newest d k, x < 256 := by
  unfold newest
  cases hl : lastOf d.pend k d.pend.length with
  | none => exact ⟨sect_len h.len hk, sect_bytes h.byte⟩
  | some l =>
    obtain ⟨x, hx, rfl, _⟩ := lastOf_some hl
    exact ⟨(h.pend x hx).len, (h.pend x hx).byte⟩

theorem Dm.write_ok {d : Dm} (h : d.ok) {k : Nat} (hk : k < d.n) {l : List Nat} (hl : l.length = 64) (hb : ∀ x ∈ l, x < 256) : (d.write k l).ok :=
  ⟨h.one, h.most, h.len, h.byte, fun x hx => by
    simp only [Dm.write, List.mem_append, List.mem_singleton] at hx
    rcases hx with hx | rfl
    · exact h.pend x hx
    · exact ⟨hk, hl, hb⟩, fun f hf => by
    cases hq : d.fuse with
    | none => simp [Dm.write, burn, hq] at hf
    | some g => simp [Dm.write, burn, hq] at hf; have := h.fuse g hq; omega⟩
theorem carryAll_ok {n : Nat} {ps : List Wt} (hp : ∀ x ∈ ps, x.ok n) : ∀ {s : List Nat}, s.length = 64 * n → (∀ x ∈ s, x < 256) → (carryAll s ps).length = 64 * n ∧ ∀ x ∈ carryAll s ps, x < 256 := by
  induction ps with
  | nil => intro s h1 h2; exact ⟨h1, h2⟩
  | cons x ps ih =>
    intro s h1 h2
    have hx := hp x (by simp)
    exact ih (fun y hy => hp y (by simp [hy])) (lay_len h1 hx.lt hx.len (by omega)) (lay_bytes h2 hx.byte)
theorem Dm.sync_ok {d : Dm} (h : d.ok) : d.sync.ok :=
  ⟨h.one, h.most, (carryAll_ok h.pend h.len h.byte).1, (carryAll_ok h.pend h.len h.byte).2, fun x hx => (by cases hx), fun f hf => by
    cases hq : d.fuse with
    | none => simp [Dm.sync, burn, hq] at hf
    | some g => simp [Dm.sync, burn, hq] at hf; have := h.fuse g hq; omega⟩
theorem crash1_ok {n : Nat} {keep : List Bool} {torn : Int} {cut i : Nat} {x : Wt} (hc : cut ≤ 64) (hx : x.ok n) {s : List Nat} (h1 : s.length = 64 * n) (h2 : ∀ x ∈ s, x < 256) :
    (crash1 keep torn cut i x s).length = 64 * n ∧ ∀ y ∈ crash1 keep torn cut i x s, y < 256 := by
  unfold crash1
  split
  · exact ⟨lay_len h1 hx.lt hx.len hc, lay_bytes h2 hx.byte⟩
  · split
    · exact ⟨lay_len h1 hx.lt hx.len (by omega), lay_bytes h2 hx.byte⟩
    · exact ⟨h1, h2⟩
theorem crashF_ok {n : Nat} {keep : List Bool} {torn : Int} {cut : Nat} (hc : cut ≤ 64) {ps : List Wt} (hp : ∀ x ∈ ps, x.ok n) : ∀ {i : Nat} {s : List Nat}, s.length = 64 * n → (∀ x ∈ s, x < 256) →
    (crashF keep torn cut i ps s).length = 64 * n ∧ ∀ x ∈ crashF keep torn cut i ps s, x < 256 := by
  induction ps with
  | nil => intro i s h1 h2; exact ⟨h1, h2⟩
  | cons x ps ih =>
    intro i s h1 h2
    obtain ⟨q1, q2⟩ := crash1_ok (keep := keep) (torn := torn) (i := i) hc (hp x (by simp)) h1 h2
    exact ih (fun y hy => hp y (by simp [hy])) q1 q2
theorem Dm.crash_ok {d : Dm} (h : d.ok) (keep : List Bool) (torn cut : Int) : (d.crash keep torn cut).ok :=
  ⟨h.one, h.most, (crashF_ok (cutN_le cut) h.pend h.len h.byte).1, (crashF_ok (cutN_le cut) h.pend h.len h.byte).2, fun x hx => (by cases hx), fun f hf => by cases hf⟩
theorem Dm.setFuse_ok {d : Dm} (h : d.ok) {n : Int} (hn : n ≤ 9223372036854775807) : (d.setFuse n).ok :=
  ⟨h.one, h.most, h.len, h.byte, h.pend, fun f hf => by
    simp only [Dm.setFuse, fuseOf] at hf
    split at hf
    · cases hf
    · cases hf; omega⟩
theorem crashF_snoc (keep : List Bool) (torn : Int) (cut : Nat) (ps : List Wt) (x : Wt) : ∀ (i : Nat) (s : List Nat), crashF keep torn cut i (ps ++ [x]) s = crash1 keep torn cut (i + ps.length) x (crashF keep torn cut i ps s) := by
  induction ps with
  | nil => intro i s; rfl
  | cons y ps ih => intro i s; simp only [List.cons_append, crashF, ih, List.length_cons]; rw [show i + 1 + ps.length = i + (ps.length + 1) by omega]
theorem take_succ_at {α : Type} {l : List α} {i : Nat} {x : α} (h : l[i]? = some x) : l.take (i + 1) = l.take i ++ [x] := by
  rw [List.take_add_one, h]; rfl
end Go.Proofs.Ytfaoblnghkiibaa
