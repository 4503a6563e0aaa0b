/- The ledger in plain words. -/
namespace Go.Proofs.Ytnpabeodakncfaa

structure Ld where
  ph : Int
  ep : Int
  pe : Int
deriving DecidableEq

def srv (n : Int) : Bool := decide (0 ≤ n ∧ n < 8)
def oth (s n : Int) : Bool := decide (0 ≤ n ∧ n < 8 ∧ n ≠ s)
def vld (s : Int) (l : Ld) : Bool := decide (0 ≤ s ∧ s < 8 ∧ 0 ≤ l.pe ∧ l.pe < 8 ∧ 0 ≤ l.ep ∧ l.ep ≤ 1073741824 ∧ (l.ph = 1 ↔ l.pe = s) ∧ 0 ≤ l.ph ∧ l.ph ≤ 5 ∧ (l.ph = 0 → l.ep = 0) ∧ (1 < l.ph → 0 < l.ep) ∧ (l.ph = 2 → l.ep < 1073741824))
def clm (l : Ld) : Bool := decide (l.ph = 1 ∨ l.ph = 2 ∨ l.ph = 3)
def kps (l : Ld) : Bool := decide (l.ph = 1 ∨ l.ph = 2 ∨ l.ph = 3 ∨ l.ph = 4)
def nag (l : Ld) : Int := if l.ph = 2 then 3 else if l.ph = 3 then 5 else if l.ph = 4 then 4 else 0
def met (l : Ld) (e f : Int) : Bool := decide (l.ep = e ∧ l.pe = f)
def plc (p k : Int) : Bool :=
  if k = 1 ∨ k = 2 then decide (p = 1) else if k = 3 ∨ k = 5 then decide (p = 2) else if k = 4 then decide (p = 0 ∨ p = 5 ∨ p = 4) else if k = 6 ∨ k = 8 then decide (p = 4) else decide (p = 3)
def emb (l : Ld) (k e : Int) : Bool := if k = 2 then decide (l.ep ≤ 1073741822) else if k = 4 then decide (l.ep < e ∧ e < 1073741824) else true
def pmb (s k p : Int) : Bool := if k = 2 ∨ k = 4 then oth s p else true
def rfs (s : Int) (l : Ld) (k e p : Int) : Int :=
  if vld s l = false ∨ k < 1 ∨ 8 < k then 2 else if plc l.ph k = false then 150 else if emb l k e = false then 151 else if pmb s k p = false then 152 else 0
def bhd (s : Int) (l : Ld) (k e p : Int) : Ld :=
  if k = 2 then ⟨2, l.ep + 1, p⟩ else if k = 3 then ⟨1, l.ep + 1, s⟩ else if k = 4 then ⟨4, e, p⟩ else if k = 5 then ⟨3, l.ep, l.pe⟩ else if k = 6 then ⟨1, l.ep, s⟩ else if k = 7 ∨ k = 8 then ⟨5, l.ep, l.pe⟩ else l
def stp (s : Int) (l : Ld) (k e p : Int) : Ld := if rfs s l k e p = 0 then bhd s l k e p else ⟨0, 0, 0⟩
def off (l : Ld) (e f : Int) : Int × Int :=
  if l.ph = 4 ∧ met l e f = true then (0, 4) else if (l.ph = 0 ∨ l.ph = 4 ∨ l.ph = 5) ∧ l.ep < e ∧ e < 1073741824 then (4, 4) else (0, 0)
def hav (l : Ld) (e f : Int) : Int × Int :=
  if l.ph = 2 ∧ met l e f = true then (5, 5) else if l.ph = 3 ∧ met l e f = true then (0, 5) else if e < l.ep then (0, 7) else (0, 0)
def cmt (l : Ld) (e f : Int) : Int × Int :=
  if l.ph = 4 ∧ met l e f = true then (6, 6) else if l.ph = 4 ∧ l.ep = e then (0, 0) else if e ≤ l.ep then (0, 6) else (0, 0)
def eof (p r : Int) (l : Ld) (e f : Int) : Int := if l.ph = p ∧ met l e f = true then r else 0
def her (s : Int) (l : Ld) (k e f : Int) : Int × Int :=
  if vld s l = false ∨ oth s f = false then (0, 0) else if k = 3 then off l e f else if k = 4 then hav l e f else if k = 5 then cmt l e f
  else if k = 6 then (eof 3 7 l e f, 0) else if k = 7 then (eof 4 8 l e f, 0) else if k = 8 then (eof 2 3 l e f, 0) else (0, 0)
end Go.Proofs.Ytnpabeodakncfaa
