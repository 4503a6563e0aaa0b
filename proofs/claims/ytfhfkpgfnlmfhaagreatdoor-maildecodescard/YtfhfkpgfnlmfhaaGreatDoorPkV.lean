/- Texts laid one behind the other: EQ XP XS XW. -/
import Derived.Test.YtfhfkpgfnlmfhaaGreatDoorPkT
import Derived.BigQuiet
import Derived.Deep.RegionWith
/- A reader that is in no frame: its blocks stay within what they were. -/
namespace Go.Proofs.YtfhfkpgfnlmfhaaGreatDoor
open Go.RowKit

def RsQ (w : World) (b : Nat) (F : List Nat) (s' : RS) (w' : World) : Prop := ∃ F', Rs w' b F' s' ∧ Kept F w w' ∧ ∀ x ∈ F', x ∈ F
theorem RsQ.from {w W w' : World} {b : Nat} {F : List Nat} {s' : RS} (k : Kept [] w W) (h : RsQ W b F s' w') : RsQ w b F s' w' := by
  obtain ⟨F', h1, h2, h3⟩ := h
  exact ⟨F', h1, (k.mono (by simp)).trans h2 (fun x hx => Or.inl hx), h3⟩
theorem RsQ.same {w w' : World} {b : Nat} {F : List Nat} {s : RS} (h : Rs w b F s) (k : Kept [] w w') : RsQ w b F s w' := ⟨F, h.kept k (by simp), k.mono (by simp), fun _ hx => hx⟩
theorem RsQ.err {w w' : World} {b c : Nat} {F : List Nat} (hb : b ∈ F) (hc : c ≠ 0) (h : RdF w' b c) (k : Kept [b] w w') : RsQ w b F (rF c) w' :=
  ⟨[b], Or.inl ⟨hc, h, rfl, rfl, rfl⟩, k.mono (fun x hx => Or.inl (by simp at hx; subst hx; exact hb)), fun x hx => by simp at hx; subst hx; exact hb⟩
theorem RsQ.took {w w' : World} {b : Nat} {lv bv : Value} {hs : List Value} {l l' : List Nat} {bh : List (List Nat)} {D : Option Nat} (h : Rf w b lv bv hs l bh D) (hr : ∃ lv', Rd w' b lv' bv l' ∧ lv'.ownBlock = lv.ownBlock) (hk : Kept [b] w w') (h1 : ∀ x ∈ l', x < 256) (h2 : ∀ r ∈ bh, ∀ x ∈ r, x < 256) : RsQ w b (D.toList ++ rfoot b bv) ⟨0, l', bh⟩ w' := by
  obtain ⟨lv', r1, r2⟩ := hr
  exact ⟨_, Or.inr ⟨rfl, h1, h2, lv', bv, hs, D, h.step r1 r2 hk, rfl⟩, hk.mono (fun x hx => Or.inl (by simp at hx; subst hx; simp [rfoot])), fun _ hx => hx⟩

theorem rbyte_q {w : World} {b : Nat} {F : List Nat} {s : RS} (h : Rs w b F s) :
    Calls Tryz.prog 112 #[.pointer (some ⟨b, 0, none⟩)] w fun e w' => e = .returned (.int .i64 ((rByte s).2 : Nat)) ∧ RsQ w b F (rByte s).1 w' := by
  have h0 := h
  rcases h with ⟨h1, h2, _, _, rfl⟩ | ⟨h1, h3, h4, lv, bv, hs, D, h2, rfl⟩
  · refine (rbyte_fault h2 h1).mono ?_
    rintro e w' ⟨rfl, hk⟩
    rw [rByte, if_pos h1]
    exact ⟨rfl, RsQ.same h0 hk⟩
  · obtain ⟨fa, l, bh⟩ := s
    simp only at h1 h2 h3 h4
    subst h1
    cases l with
    | nil =>
      refine (rbyte_err h2.rd (by simp)).mono ?_
      rintro e w' ⟨rfl, hr, hk⟩
      exact ⟨rfl, RsQ.err h0.mem (by omega) hr hk⟩
    | cons x l =>
      refine (rbyte_ok h2.rd (h3 x (by simp))).mono ?_
      rintro e w' ⟨rfl, hr, hk⟩
      exact ⟨rfl, RsQ.took h2 hr hk (fun y hy => h3 y (by simp [hy])) h4⟩

theorem rnum_q {w : World} {b : Nat} {F : List Nat} {s : RS} (h : Rs w b F s) :
    Calls Tryz.prog 113 #[.pointer (some ⟨b, 0, none⟩)] w fun e w' => e = .returned (.int .u64 ((rNum s).2 : Nat)) ∧ RsQ w b F (rNum s).1 w' := by
  have h0 := h
  rcases h with ⟨h1, h2, _, _, rfl⟩ | ⟨h1, h3, h4, lv, bv, hs, D, h2, rfl⟩
  · refine (rnum_fault h2 h1).mono ?_
    rintro e w' ⟨rfl, hk⟩
    rw [rNum, if_pos h1]
    exact ⟨rfl, RsQ.same h0 hk⟩
  · rw [rNum, if_neg (by simpa using h1)]
    cases hr : readNum 0 0 s.left with
    | inl c =>
      refine (rnum_err h2.rd h3 hr).mono ?_
      rintro e w' ⟨rfl, g1, hk⟩
      exact ⟨rfl, RsQ.err h0.mem (by rcases readNum_code _ _ _ hr with rfl | rfl <;> omega) g1 hk⟩
    | inr p =>
      obtain ⟨n, r⟩ := p
      refine (rnum_ok h2.rd h3 hr).mono ?_
      rintro e w' ⟨rfl, g1, hk⟩
      exact ⟨rfl, RsQ.took h2 g1 hk (readNum_lt _ 0 0 (by omega) (by simp) h3 hr).2.1 h4⟩

theorem rtext_q {w : World} {b : Nat} {F : List Nat} {s : RS} (h : Rs w b F s) (most : Int) (hm9 : most ≤ 9223372036854775807) :
    Calls Tryz.prog 114 #[.pointer (some ⟨b, 0, none⟩), .int .i64 most] w fun e w' => NewB w (rText s most).2 e w' ∧ RsQ w b F (rText s most).1 w' := by
  have h0 := h
  rcases h with ⟨h1, h2, _, _, rfl⟩ | ⟨h1, h3, h4, lv, bv, hs, D, h2, rfl⟩
  · refine (rtext_fault h2 h1 most).mono ?_
    rintro e w' ⟨rfl, hk⟩
    rw [rText, if_pos h1]
    exact ⟨NewB.nil _ _, RsQ.same h0 hk⟩
  · rw [rText, if_neg (by simpa using h1)]
    cases hr : readNum 0 0 s.left with
    | inl c =>
      refine (rtext_err h2.rd h3 most hm9 c (Or.inl hr)).mono ?_
      rintro e w' ⟨rfl, g1, hk⟩
      exact ⟨NewB.nil _ _, RsQ.err h0.mem (by rcases readNum_code _ _ _ hr with rfl | rfl <;> omega) g1 hk⟩
    | inr p =>
      obtain ⟨n, r⟩ := p
      simp only
      by_cases ha : most.toNat < n
      · rw [if_pos ha]
        refine (rtext_err h2.rd h3 most hm9 11 (Or.inr ⟨n, r, hr, Or.inl ⟨ha, rfl⟩⟩)).mono ?_
        rintro e w' ⟨rfl, g1, hk⟩
        exact ⟨NewB.nil _ _, RsQ.err h0.mem (by omega) g1 hk⟩
      · rw [if_neg ha]
        by_cases hl : r.length < n
        · rw [if_pos hl]
          refine (rtext_err h2.rd h3 most hm9 10 (Or.inr ⟨n, r, hr, Or.inr ⟨by omega, hl, rfl⟩⟩)).mono ?_
          rintro e w' ⟨rfl, g1, hk⟩
          exact ⟨NewB.nil _ _, RsQ.err h0.mem (by omega) g1 hk⟩
        · rw [if_neg hl]
          have htl : (r.take n).length = n := by simp; omega
          refine (rtext_ok h2.rd h3 n most hm9 hr (by omega) (by omega)).mono ?_
          rintro e w' ⟨a, cap, rfl, ho, hrd, hk⟩
          refine ⟨⟨a, cap, ?_, ?_⟩, RsQ.took h2 hrd hk (fun y hy => (readNum_lt _ 0 0 (by omega) (by simp) h3 hr).2.1 y (List.mem_of_mem_drop hy)) h4⟩
          · show Ending.returned (.slice a n cap) = .returned (.slice a (r.take n).length cap)
            rw [htl]
          · show w'.ownsRow w.heap.size 5 1 (.slice a (r.take n).length cap) (r.take n).length (u8s (r.take n))
            rw [htl] at ho ⊢
            exact ho
end Go.Proofs.YtfhfkpgfnlmfhaaGreatDoor

/- A message in plain words; which ones are sound; its form. -/
namespace Go.Proofs.YtfhfkpgfnlmfhaaGreatDoor
open Go.RowKit

structure Ml where
  kind : Int
  frm : Int
  dst : Int
  shard : Int
  epoch : Int
  root : Nat
  copy : List Nat
  client : Int
  seq : Int
  okind : Int
  key : List Nat
  val : List Nat
  rev : Int
  verd : Int
  done : Bool
  akey : List Nat
  aval : List Nat
  arev : Int
  aat : Int
  hint : Int
/-- Where its five lists lie. -/
structure Lm where
  ca : Option Addr
  cc : Nat
  ka : Option Addr
  kc : Nat
  va : Option Addr
  vc : Nat
  xa : Option Addr
  xc : Nat
  ya : Option Addr
  yc : Nat
def mcc (p : Ml) (l : Lm) : Array Value := #[.int .i64 p.kind, .int .i64 p.frm, .int .i64 p.dst, .int .i64 p.shard, .int .i64 p.epoch, .int .u64 (p.root : Nat), .slice l.ca p.copy.length l.cc, .int .i64 p.client, .int .i64 p.seq, .int .i64 p.okind, .slice l.ka p.key.length l.kc, .slice l.va p.val.length l.vc, .int .i64 p.rev, .int .i64 p.verd, .bool p.done, .slice l.xa p.akey.length l.xc, .slice l.ya p.aval.length l.yc, .int .i64 p.arev, .int .i64 p.aat, .int .i64 p.hint]
def mv (p : Ml) (l : Lm) : Value := .agg (mcc p l)
def zeroM : Ml := ⟨0, 0, 0, 0, 0, 0, [], 0, 0, 0, [], [], 0, 0, false, [], [], 0, 0, 0⟩
def nilM : Lm := ⟨none, 0, none, 0, none, 0, none, 0, none, 0⟩

def wthn (n lo hi : Int) : Bool := decide (lo ≤ n ∧ n ≤ hi)
def srv (n : Int) : Bool := wthn n 0 7
def cli (c n : Int) : Bool := wthn c 0 15 && decide (n = 100 + c)
def seqB (n : Int) : Bool := wthn n 1 1073741824
/-- Is an op right? -/
def rgt (k : Int) (kl vl : Nat) (rev : Int) : Bool :=
  if k = 1 ∨ k = 3 then decide (1 ≤ kl ∧ kl ≤ 64 ∧ vl = 0 ∧ rev = 0)
  else if k = 2 then decide (1 ≤ kl ∧ kl ≤ 64 ∧ vl ≤ 256 ∧ rev = 0)
  else if k = 4 then decide (1 ≤ kl ∧ kl ≤ 64 ∧ vl ≤ 256 ∧ 0 ≤ rev ∧ rev ≤ 1099511627776)
  else if k = 5 then decide (kl ≤ 65 ∧ vl = 0 ∧ rev = 0)
  else false
/-- Nothing in an op, in an answer. -/
def blo (k : Int) (kl vl : Nat) (rev : Int) : Bool := decide (k = 0 ∧ kl = 0 ∧ vl = 0 ∧ rev = 0)
def bla (d : Bool) (kl vl : Nat) (rev at_ : Int) : Bool := decide (d = false ∧ kl = 0 ∧ vl = 0 ∧ rev = 0 ∧ at_ = 0)
def fit (kl vl : Nat) (rev at_ : Int) : Bool := decide ((kl = 0 → vl = 0 ∧ rev = 0) ∧ kl ≤ 64 ∧ vl ≤ 256 ∧ 0 ≤ at_ ∧ at_ ≤ 1099511627776 ∧ 0 ≤ rev ∧ rev ≤ at_)
def noCopy (p : Ml) : Bool := decide (p.root = 0 ∧ p.copy.length = 0)
def noTrans (p : Ml) : Bool := decide (p.epoch = 0) && noCopy p
def opB (p : Ml) : Bool := blo p.okind p.key.length p.val.length p.rev
def ansB (p : Ml) : Bool := bla p.done p.akey.length p.aval.length p.arev p.aat
def noVerd (p : Ml) : Bool := decide (p.verd = 0) && ansB p && decide (p.hint = 0)
def noCall (p : Ml) : Bool := decide (p.client = 0 ∧ p.seq = 0) && opB p && noVerd p
def fitB (p : Ml) : Bool := fit p.akey.length p.aval.length p.arev p.aat
def sVerd (p : Ml) : Bool :=
  if p.verd = 220 ∨ p.verd = 221 then srv p.hint && ansB p
  else if p.verd = 181 ∨ p.verd = 182 then ansB p && decide (p.hint = 0)
  else if p.verd = 0 then fitB p && decide (p.hint = 0)
  else false
def hand (p : Ml) : Bool := srv p.frm && srv p.dst && decide (p.frm ≠ p.dst) && wthn p.epoch 1 1073741824 && noCall p
def sKind (p : Ml) : Bool :=
  if p.kind = 1 then cli p.client p.frm && srv p.dst && seqB p.seq && rgt p.okind p.key.length p.val.length p.rev && noVerd p && noTrans p
  else if p.kind = 2 then srv p.frm && cli p.client p.dst && seqB p.seq && opB p && sVerd p && noTrans p
  else if p.kind = 3 then decide (p.copy.length ≤ 262144) && hand p
  else if 4 ≤ p.kind ∧ p.kind ≤ 8 then hand p && noCopy p
  else false
/-- Is it sound? -/
def snd (p : Ml) : Bool := wthn p.shard 0 63 && sKind p

/-- The pieces of a form, by the cells that they stand for. -/
inductive Pc where
  | byte (o : Nat)
  | num (o : Nat)
  | flag
  | root
  | text (o : Nat)
def getN (p : Ml) : Nat → Int
  | 0 => p.kind
  | 1 => p.frm
  | 2 => p.dst
  | 3 => p.shard
  | 4 => p.epoch
  | 8 => p.seq
  | 9 => p.okind
  | 12 => p.rev
  | 13 => p.verd
  | 17 => p.arev
  | 18 => p.aat
  | _ => p.hint
def setN (p : Ml) (n : Int) : Nat → Ml
  | 0 => { p with kind := n }
  | 1 => { p with frm := n }
  | 2 => { p with dst := n }
  | 3 => { p with shard := n }
  | 4 => { p with epoch := n }
  | 8 => { p with seq := n }
  | 9 => { p with okind := n }
  | 12 => { p with rev := n }
  | 13 => { p with verd := n }
  | 17 => { p with arev := n }
  | 18 => { p with aat := n }
  | _ => { p with hint := n }
def getT (p : Ml) : Nat → List Nat
  | 6 => p.copy
  | 10 => p.key
  | 11 => p.val
  | 15 => p.akey
  | _ => p.aval
def setT (p : Ml) (bs : List Nat) : Nat → Ml
  | 6 => { p with copy := bs }
  | 10 => { p with key := bs }
  | 11 => { p with val := bs }
  | 15 => { p with akey := bs }
  | _ => { p with aval := bs }
def hd : List Pc := [.byte 0, .byte 1, .byte 2, .num 3]
def mid (p : Ml) : List Pc :=
  if p.kind = 1 then [.num 8, .byte 9, .text 10]
  else if p.kind = 2 then [.num 8, .num 13]
  else if p.kind = 3 then [.num 4, .root, .text 6]
  else [.num 4]
def fin (p : Ml) : List Pc :=
  if p.kind = 1 then (if p.okind = 2 then [.text 11] else if p.okind = 4 then [.text 11, .num 12] else [])
  else if p.kind = 2 then (if p.verd = 0 then [.flag, .text 15, .text 16, .num 17, .num 18] else if p.verd = 220 ∨ p.verd = 221 then [.byte 19] else [])
  else []
def encP (p : Ml) : Pc → List Nat
  | .byte o => [(getN p o).toNat]
  | .num o => form (getN p o).toNat
  | .flag => [if p.done then 1 else 0]
  | .root => le p.root 8
  | .text o => form (getT p o).length ++ getT p o
def encL (p : Ml) (ks : List Pc) : List Nat := ks.flatMap (encP p)
def pieces (p : Ml) : List Pc := hd ++ (mid p ++ fin p)
/-- What stands ahead of the sum. -/
def body (p : Ml) : List Nat := encL p (pieces p)
def summed (bs : List Nat) : List Nat := bs ++ le (crc bs) 4
/-- Its form. -/
def enc (p : Ml) : List Nat := summed (body p)
/-- Its number out of a reader's. -/
def toI (n : Nat) : Int := wrap64 (n : Int)
/-- A reading under way: the reader, the message, what is odd. -/
structure Rdm where
  rs : RS
  ml : Ml
  odd : Bool
def takP (s : Rdm) : Pc → Rdm
  | .byte o => ⟨(rByte s.rs).1, setN s.ml ((rByte s.rs).2 : Nat) o, s.odd⟩
  | .num o => ⟨(rNum s.rs).1, setN s.ml (toI (rNum s.rs).2) o, s.odd⟩
  | .flag => ⟨(rByte s.rs).1, { s.ml with done := decide ((rByte s.rs).2 = 1) }, decide (1 < (rByte s.rs).2)⟩
  | .root => ⟨(rFixed s.rs 8).1, { s.ml with root := (rFixed s.rs 8).2 }, s.odd⟩
  | .text o => ⟨(rText s.rs 524288).1, setT s.ml (rText s.rs 524288).2 o, s.odd⟩
def takL (s : Rdm) (ks : List Pc) : Rdm := ks.foldl takP s
def read0 (bs : List Nat) : Rdm := ⟨⟨0, bs, []⟩, zeroM, false⟩
def read1 (bs : List Nat) : Rdm := takL (read0 bs) hd
def read2 (bs : List Nat) : Rdm := takL (read1 bs) (mid (read1 bs).ml)
def read3 (bs : List Nat) : Rdm := takL (read2 bs) (fin (read2 bs).ml)
/-- The client stands in its name alone. -/
def named (p : Ml) : Ml := if p.kind = 1 then { p with client := wrap64 (p.frm - 100) } else if p.kind = 2 then { p with client := wrap64 (p.dst - 100) } else p
/-- What read answers. -/
def readM (bs : List Nat) : Ml × Bool := (named (read3 bs).ml, !(read3 bs).odd && decide (rDone (read3 bs).rs = 0))
/-- The error of Decode: 0 where the bytes are a message's form. -/
def decE (bs : List Nat) : Nat :=
  if 524288 < bs.length then 3
  else if bs.length < 8 then 190
  else if bs.drop (bs.length - 4) ≠ le (crc (bs.take (bs.length - 4))) 4 then 191
  else if (readM (bs.take (bs.length - 4))).2 = true ∧ snd (readM (bs.take (bs.length - 4))).1 = true then 0
  else 190
def decM (bs : List Nat) : Ml := if decE bs = 0 then (readM (bs.take (bs.length - 4))).1 else zeroM
end Go.Proofs.YtfhfkpgfnlmfhaaGreatDoor

/- Sound, part by part: the small questions. -/
namespace Go.Proofs.YtfhfkpgfnlmfhaaGreatDoor
open Go.RowKit

theorem ret_bool {a b : Bool} (h : a = b) : Ending.returned (.bool a) = Ending.returned (.bool b) := by rw [h]
theorem Kept.step {a b c : World} (h : Kept [] a b) (k : Kept [] b c) : Kept [] a c := h.trans k (fun _ hx => by cases hx)
def ov (k : Int) (ka : Option Addr) (kl kc : Nat) (va : Option Addr) (vl vc : Nat) (rev : Int) : Value := .agg #[.int .i64 k, .slice ka kl kc, .slice va vl vc, .int .i64 rev]
def av (d : Bool) (ka : Option Addr) (kl kc : Nat) (va : Option Addr) (vl vc : Nat) (rev at_ : Int) : Value := .agg #[.bool d, .slice ka kl kc, .slice va vl vc, .int .i64 rev, .int .i64 at_]
theorem box4 {W : World} {b : Nat} {x y z u : Value} {t : TypeId} (h : Blk W b #[x, y, z, u] t) : W.cell? ⟨b, 0, none⟩ = some x ∧ W.cell? ⟨b, 1, none⟩ = some y ∧ W.cell? ⟨b, 2, none⟩ = some z ∧ W.cell? ⟨b, 3, none⟩ = some u := ⟨h.cell 0, h.cell 1, h.cell 2, h.cell 3⟩
theorem box5 {W : World} {b : Nat} {x y z u v : Value} {t : TypeId} (h : Blk W b #[x, y, z, u, v] t) : W.cell? ⟨b, 0, none⟩ = some x ∧ W.cell? ⟨b, 1, none⟩ = some y ∧ W.cell? ⟨b, 2, none⟩ = some z ∧ W.cell? ⟨b, 3, none⟩ = some u ∧ W.cell? ⟨b, 4, none⟩ = some v := ⟨h.cell 0, h.cell 1, h.cell 2, h.cell 3, h.cell 4⟩
theorem box20 {W : World} {b : Nat} {x0 x1 x2 x3 x4 x5 x6 x7 x8 x9 y0 y1 y2 y3 y4 y5 y6 y7 y8 y9 : Value} {t : TypeId} (h : Blk W b #[x0, x1, x2, x3, x4, x5, x6, x7, x8, x9, y0, y1, y2, y3, y4, y5, y6, y7, y8, y9] t) :
    W.cell? ⟨b, 0, none⟩ = some x0 ∧ W.cell? ⟨b, 1, none⟩ = some x1 ∧ W.cell? ⟨b, 2, none⟩ = some x2 ∧ W.cell? ⟨b, 3, none⟩ = some x3 ∧ W.cell? ⟨b, 4, none⟩ = some x4 ∧ W.cell? ⟨b, 5, none⟩ = some x5 ∧ W.cell? ⟨b, 6, none⟩ = some x6 ∧ W.cell? ⟨b, 7, none⟩ = some x7 ∧ W.cell? ⟨b, 8, none⟩ = some x8 ∧ W.cell? ⟨b, 9, none⟩ = some x9 ∧
    W.cell? ⟨b, 10, none⟩ = some y0 ∧ W.cell? ⟨b, 11, none⟩ = some y1 ∧ W.cell? ⟨b, 12, none⟩ = some y2 ∧ W.cell? ⟨b, 13, none⟩ = some y3 ∧ W.cell? ⟨b, 14, none⟩ = some y4 ∧ W.cell? ⟨b, 15, none⟩ = some y5 ∧ W.cell? ⟨b, 16, none⟩ = some y6 ∧ W.cell? ⟨b, 17, none⟩ = some y7 ∧ W.cell? ⟨b, 18, none⟩ = some y8 ∧ W.cell? ⟨b, 19, none⟩ = some y9 :=
  ⟨h.cell 0, h.cell 1, h.cell 2, h.cell 3, h.cell 4, h.cell 5, h.cell 6, h.cell 7, h.cell 8, h.cell 9, h.cell 10, h.cell 11, h.cell 12, h.cell 13, h.cell 14, h.cell 15, h.cell 16, h.cell 17, h.cell 18, h.cell 19⟩

set_option maxRecDepth 100000 in
theorem isWithin_any (w : World) (n lo hi : Int) : Calls Tryz.prog 47 #[.int .i64 n, .int .i64 lo, .int .i64 hi] w fun e w' => e = .returned (.bool (wthn n lo hi)) ∧ w' = w := by
  go_enter Tryz.func47, Tryz.ntmps47
  go_wp2_with fail
  all_goals
    go_ret
    refine ⟨ret_bool ?_, rfl⟩
    rw [Bool.eq_iff_iff]
    simp [wthn]
    try omega
set_option maxRecDepth 100000 in
theorem isServer_any (w : World) (n : Int) : Calls Tryz.prog 67 #[.int .i64 n] w fun e w' => e = .returned (.bool (srv n)) ∧ w' = w := by
  have H := fun W => isWithin_any W n 0 7
  go_enter Tryz.func67, Tryz.ntmps67
  go_wp2_with (go_at_call 47; refine (H _).mono ?_; rintro e w1 ⟨rfl, rfl⟩)
  go_ret
  exact ⟨rfl, rfl⟩
set_option maxRecDepth 100000 in
theorem isSeq_any (w : World) (n : Int) : Calls Tryz.prog 68 #[.int .i64 n] w fun e w' => e = .returned (.bool (seqB n)) ∧ w' = w := by
  have H := fun W => isWithin_any W n 1 1073741824
  go_enter Tryz.func68, Tryz.ntmps68
  go_wp2_with (go_at_call 47; refine (H _).mono ?_; rintro e w1 ⟨rfl, rfl⟩)
  go_ret
  exact ⟨rfl, rfl⟩
set_option maxRecDepth 100000 in
theorem isClient_any (w : World) (c n : Int) : Calls Tryz.prog 66 #[.int .i64 c, .int .i64 n] w fun e w' => e = .returned (.bool (cli c n)) ∧ w' = w := by
  have H := fun W => isWithin_any W c 0 15
  cases h : wthn c 0 15 with
  | true =>
    rw [h] at H
    have h2 : 0 ≤ c ∧ c ≤ 15 := by simpa [wthn] using h
    have HC : Hid (wthn c 0 15 = true) := h
    clear h
    go_enter Tryz.func66, Tryz.ntmps66
    go_wp2_with (go_at_call 47; refine (H _).mono ?_; rintro e w1 ⟨rfl, rfl⟩)
    go_ret
    refine ⟨ret_bool ?_, rfl⟩
    unfold cli
    rw [unhide HC, Bool.eq_iff_iff]
    simp
  | false =>
    rw [h] at H
    have HC : Hid (wthn c 0 15 = false) := h
    clear h
    go_enter Tryz.func66, Tryz.ntmps66
    go_wp2_with (go_at_call 47; refine (H _).mono ?_; rintro e w1 ⟨rfl, rfl⟩)
    go_ret
    refine ⟨ret_bool ?_, rfl⟩
    unfold cli
    rw [unhide HC]
    rfl
set_option maxRecDepth 100000 in
theorem isKey_any (w : World) (a : Option Addr) (n c : Nat) : Calls Tryz.prog 83 #[.slice a n c] w fun e w' => e = .returned (.bool (decide (1 ≤ n ∧ n ≤ 64))) ∧ w' = w := by
  go_enter Tryz.func83, Tryz.ntmps83
  go_wp2_with fail
  all_goals
    go_ret
    refine ⟨ret_bool ?_, rfl⟩
    rw [Bool.eq_iff_iff]
    simp
    omega
set_option maxRecDepth 100000 in
theorem isValue_any (w : World) (a : Option Addr) (n c : Nat) : Calls Tryz.prog 84 #[.slice a n c] w fun e w' => e = .returned (.bool (decide (n ≤ 256))) ∧ w' = w := by
  go_enter Tryz.func84, Tryz.ntmps84
  go_wp2_with fail
  all_goals
    go_ret
    refine ⟨ret_bool ?_, rfl⟩
    rw [Bool.eq_iff_iff]
    simp
    try omega
set_option maxRecDepth 100000 in
theorem right_any (w : World) (k : Int) (ka : Option Addr) (kl kc : Nat) (va : Option Addr) (vl vc : Nat) (rev : Int) : Calls Tryz.prog 69 #[ov k ka kl kc va vl vc rev] w fun e w' => e = .returned (.bool (rgt k kl vl rev)) ∧ Kept [] w w' := by
  have HK := fun W => isKey_any W ka kl kc
  have HV := fun W => isValue_any W va vl vc
  unfold ov
  go_enter Tryz.func69, Tryz.ntmps69
  go_wp2_with (first
    | (go_at_call 83; refine (HK _).mono ?_; rintro e w3 ⟨rfl, hq⟩; have hq2 := hq.symm; subst hq2)
    | (go_at_call 84; refine (HV _).mono ?_; rintro e w3 ⟨rfl, hq⟩; have hq2 := hq.symm; subst hq2))
  all_goals
    go_ret
    refine ⟨ret_bool ?_, (Kept.refl _ _).alloc _⟩
    rw [Bool.eq_iff_iff]
    simp_all [rgt]
    try omega
set_option maxRecDepth 100000 in
theorem isBlankOp_any (w : World) (k : Int) (ka : Option Addr) (kl kc : Nat) (va : Option Addr) (vl vc : Nat) (rev : Int) : Calls Tryz.prog 72 #[ov k ka kl kc va vl vc rev] w fun e w' => e = .returned (.bool (blo k kl vl rev)) ∧ Kept [] w w' := by
  unfold ov
  go_enter Tryz.func72, Tryz.ntmps72
  go_wp2_with fail
  all_goals
    go_ret
    refine ⟨ret_bool ?_, (Kept.refl _ _).alloc _⟩
    rw [Bool.eq_iff_iff]
    simp [blo]
    try omega
set_option maxRecDepth 100000 in
theorem isBlankAnswer_any (w : World) (d : Bool) (ka : Option Addr) (kl kc : Nat) (va : Option Addr) (vl vc : Nat) (rev at_ : Int) : Calls Tryz.prog 85 #[av d ka kl kc va vl vc rev at_] w fun e w' => e = .returned (.bool (bla d kl vl rev at_)) ∧ Kept [] w w' := by
  unfold av
  cases d <;>
  · go_enter Tryz.func85, Tryz.ntmps85
    go_wp2_with fail
    all_goals
      go_ret
      refine ⟨ret_bool ?_, (Kept.refl _ _).alloc _⟩
      rw [Bool.eq_iff_iff]
      simp [bla]
      try omega
set_option maxRecDepth 100000 in
set_option maxHeartbeats 800000 in
theorem isFit_any (w : World) (d : Bool) (ka : Option Addr) (kl kc : Nat) (va : Option Addr) (vl vc : Nat) (rev at_ : Int) : Calls Tryz.prog 86 #[av d ka kl kc va vl vc rev at_] w fun e w' => e = .returned (.bool (fit kl vl rev at_)) ∧ Kept [] w w' := by
  have HW := hide (fun W n lo hi => isWithin_any W n lo hi)
  unfold av
  go_enter Tryz.func86, Tryz.ntmps86
  go_wp2_with (go_at_call 47; refine (unhide HW _ _ _ _).mono ?_; rintro e w3 ⟨rfl, hq⟩; have hq2 := hq.symm; subst hq2)
  all_goals
    go_ret
    refine ⟨ret_bool ?_, (Kept.refl _ _).alloc _⟩
    rw [Bool.eq_iff_iff]
    simp_all [fit, wthn]
    try omega
end Go.Proofs.YtfhfkpgfnlmfhaaGreatDoor

/- The writer's calls, whatever its state; the layer's hand. -/
namespace Go.Proofs.YtfhfkpgfnlmfhaaGreatDoor
open Go.RowKit

def ptr (b : Nat) : Value := .pointer (some ⟨b, 0, none⟩)
def lyr (bw : Nat) : Value := .agg #[.pointer (some ⟨bw, 0, none⟩)]
theorem world_at {R C : World → Prop} {x : World} (h : R x) (H : ∀ wr, R wr → C wr) : C x := H x h
theorem cellLt {w : World} {a : Addr} {v : Value} (h : w.cell? a = some v) : a.block < w.heap.size := by
  rcases Nat.lt_or_ge a.block w.heap.size with h1 | h1
  · exact h1
  · have : w.heap[a.block]? = none := Array.getElem?_eq_none h1
    simp [World.cell?, this] at h
theorem Far.quiet {w w' : World} {v : Value} {bs F : List Nat} (h : Far w v bs F) (k : Kept [] w w') : Far w' v bs F := by
  rcases h with ⟨h, hn⟩ | h
  · exact Or.inl ⟨h.kept k (by simp), hn⟩
  · exact Or.inr h
end Go.Proofs.YtfhfkpgfnlmfhaaGreatDoor
