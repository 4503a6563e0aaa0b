/- One holder: what stays true of the ledgers of all servers and of all messages that were ever sent. -/
import Derived.Test.YtnpabeodakncfaaGPure
namespace Go.Proofs.Ytnpabeodakncfaa

/-- a message -/
structure Ml where
  kind : Int
  ep : Int
  fr : Int
  to : Int
deriving DecidableEq

/-- S e offered the shard to T e with the epoch e; h holds it. -/
structure Inv (n : Int) (f : Int → Ld) (M : Ml → Prop) (S T : Int → Int) (h : Int) : Prop where
  n1 : 1 ≤ n ∧ n ≤ 8
  h0 : 0 ≤ h ∧ h < n
  v1 : ∀ i, 0 ≤ i → i < n → 0 ≤ (f i).pe ∧ (f i).pe < n
  v2 : ∀ i, 0 ≤ i → i < n → 0 ≤ (f i).ep ∧ (f i).ep ≤ 1073741824
  v3 : ∀ i, 0 ≤ i → i < n → ((f i).ph = 1 ↔ (f i).pe = i)
  v4 : ∀ i, 0 ≤ i → i < n → 0 ≤ (f i).ph ∧ (f i).ph ≤ 5
  v5 : ∀ i, 0 ≤ i → i < n → (f i).ph = 0 → (f i).ep = 0
  v6 : ∀ i, 0 ≤ i → i < n → 1 < (f i).ph → 0 < (f i).ep
  v7 : ∀ i, 0 ≤ i → i < n → (f i).ph = 2 → (f i).ep < 1073741824
  hc : (f h).ph = 1 ∨ (f h).ph = 2 ∨ (f h).ph = 3
  mx : ∀ i, 0 ≤ i → i < n → (f i).ep ≤ (f h).ep
  un : ∀ i, 0 ≤ i → i < n → i ≠ h → (f i).ph ≠ 1 ∧ (f i).ph ≠ 2
  p2 : ∀ i, 0 ≤ i → i < n → ((f i).ph = 2 ∨ (f i).ph = 3) → S (f i).ep = i ∧ T (f i).ep = (f i).pe
  p4 : ∀ i, 0 ≤ i → i < n → (f i).ph = 4 → T (f i).ep = i ∧ S (f i).ep = (f i).pe
  c3 : ∀ i, 0 ≤ i → i < n → (f i).ph = 3 → (f i).ep ≤ (f (f i).pe).ep
  c4 : ∀ i, 0 ≤ i → i < n → (f i).ph = 3 → i ≠ h → (f (f i).pe).ph = 4 → (f (f i).pe).ep ≠ (f i).ep
  ch : (f h).ph = 3 → (f (f h).pe).ph = 4 ∧ (f (f h).pe).ep = (f h).ep
  i4 : ∀ i, 0 ≤ i → i < n → (f i).ph = 4 → (f i).ep ≤ (f (f i).pe).ep
  i5 : ∀ i, 0 ≤ i → i < n → (f i).ph = 4 → (f (f i).pe).ep = (f i).ep → (f i).pe = h ∧ ((f h).ph = 2 ∨ (f h).ph = 3)
  ms : ∀ m, M m → 1 ≤ m.ep ∧ m.ep ≤ (f h).ep ∧ 3 ≤ m.kind ∧ m.kind ≤ 8
  mt : ∀ m, M m → 0 ≤ S m.ep ∧ S m.ep < n ∧ 0 ≤ T m.ep ∧ T m.ep < n ∧ S m.ep ≠ T m.ep
  mo : ∀ m, M m → (m.kind = 3 ∨ m.kind = 5 ∨ m.kind = 7) → m.fr = S m.ep ∧ m.to = T m.ep
  me : ∀ m, M m → (m.kind = 4 ∨ m.kind = 6 ∨ m.kind = 8) → m.fr = T m.ep ∧ m.to = S m.ep
  m3 : ∀ m, M m → m.kind = 3 → m.ep ≤ (f (S m.ep)).ep
  n3 : ∀ m, M m → m.kind = 3 → (f (S m.ep)).ep = m.ep → (f (S m.ep)).ph = 2 ∨ m.ep ≤ (f (T m.ep)).ep
  m4 : ∀ m, M m → m.kind = 4 → m.ep ≤ (f (T m.ep)).ep
  n4 : ∀ m, M m → m.kind = 4 → (f (S m.ep)).ph = 2 → (f (S m.ep)).ep = m.ep → (f (T m.ep)).ph = 4 ∧ (f (T m.ep)).ep = m.ep
  m5 : ∀ m, M m → m.kind = 5 → m.ep ≤ (f (T m.ep)).ep
  n5 : ∀ m, M m → m.kind = 5 → (f (T m.ep)).ph = 4 → (f (T m.ep)).ep = m.ep → (f (S m.ep)).ph = 3 ∧ (f (S m.ep)).ep = m.ep
  m6 : ∀ m, M m → m.kind = 6 → m.ep ≤ (f (T m.ep)).ep
  n6 : ∀ m, M m → m.kind = 6 → (f (T m.ep)).ph = 4 → (f (T m.ep)).ep ≠ m.ep
  m7 : ∀ m, M m → m.kind = 7 → m.ep < (f (S m.ep)).ep

theorem inv_install {n : Int} {f g : Int → Ld} {M : Ml → Prop} {S T : Int → Int} {h : Int} (H : Inv n f M S T h) {e s t : Int} (hm : M ⟨3, e, s, t⟩) (hp : (f t).ph = 0 ∨ (f t).ph = 4 ∨ (f t).ph = 5) (he : (f t).ep < e) (hb : e < 1073741824)
    (gt : g t = ⟨4, e, s⟩) (gn : ∀ i, i ≠ t → g i = f i) : Inv n g M S T h := by
  obtain ⟨n1, h0, v1, v2, v3, v4, v5, v6, v7, hc, mx, un, p2, p4, c3, c4, ch, i4, i5, ms, mt, mo, me, m3, n3, m4, n4, m5, n5, m6, n6, m7⟩ := H
  have k1 := ms _ hm
  have k2 := mt _ hm
  have k3 := mo _ hm (Or.inl rfl)
  have k4 := m3 _ hm rfl
  have k5 := n3 _ hm rfl
  dsimp only at k1 k2 k3 k4 k5
  obtain ⟨rfl, rfl⟩ := k3
  have ht : T e ≠ h := fun q => by rw [q] at he; omega
  have gh : g h = f h := gn h (fun q => ht q.symm)
  have gp : (g (T e)).ph = 4 := by rw [gt]
  have ge : (g (T e)).ep = e := by rw [gt]
  have gq : (g (T e)).pe = S e := by rw [gt]
  have gs : g (S e) = f (S e) := gn _ k2.2.2.2.2
  constructor
  · clear h0 v1 v2 v3 v4 v5 v6 v7 hc mx un p2 p4 c3 c4 ch i4 i5 ms mt mo me m3 n3 m4 n4 m5 n5 m6 n6 m7; grind
  · clear n1 v1 v2 v3 v4 v5 v6 v7 hc mx un p2 p4 c3 c4 ch i4 i5 ms mt mo me m3 n3 m4 n4 m5 n5 m6 n6 m7; grind
  · clear n1 h0 v2 v3 v4 v5 v6 v7 hc mx un p2 p4 c3 c4 ch i4 i5 ms mt mo me m3 n3 m4 n4 m5 n5 m6 n6 m7; grind
  · clear n1 h0 v1 v3 v4 v5 v6 v7 hc mx un p2 p4 c3 c4 ch i4 i5 ms mt mo me m3 n3 m4 n4 m5 n5 m6 n6 m7; grind
  · clear n1 h0 v1 v2 v4 v5 v6 v7 hc mx un p2 p4 c3 c4 ch i4 i5 ms mt mo me m3 n3 m4 n4 m5 n5 m6 n6 m7; grind
  · clear n1 h0 v1 v2 v3 v5 v6 v7 hc mx un p2 p4 c3 c4 ch i4 i5 ms mt mo me m3 n3 m4 n4 m5 n5 m6 n6 m7; grind
  · clear n1 h0 v1 v2 v3 v4 v6 v7 hc mx un p2 p4 c3 c4 ch i4 i5 ms mt mo me m3 n3 m4 n4 m5 n5 m6 n6 m7; grind
  · clear n1 h0 v1 v2 v3 v4 v5 v7 hc mx un p2 p4 c3 c4 ch i4 i5 ms mt mo me m3 n3 m4 n4 m5 n5 m6 n6 m7; grind
  · clear n1 h0 v1 v2 v3 v4 v5 v6 hc mx un p2 p4 c3 c4 ch i4 i5 ms mt mo me m3 n3 m4 n4 m5 n5 m6 n6 m7; grind
  · clear n1 h0 v1 v2 v3 v4 v5 v6 v7 mx un p2 p4 c3 c4 ch i4 i5 ms mt mo me m3 n3 m4 n4 m5 n5 m6 n6 m7; grind
  · clear n1 h0 v1 v2 v3 v4 v5 v6 v7 hc un p2 p4 c3 c4 ch i4 i5 ms mt mo me m3 n3 m4 n4 m5 n5 m6 n6 m7; grind
  · clear n1 h0 v1 v2 v3 v4 v5 v6 v7 hc mx p2 p4 c3 c4 ch i4 i5 ms mt mo me m3 n3 m4 n4 m5 n5 m6 n6 m7; grind
  · clear n1 h0 v1 v2 v3 v4 v5 v6 v7 hc mx un p4 c3 c4 ch i4 i5 ms mt mo me m3 n3 m4 n4 m5 n5 m6 n6 m7; grind
  · clear n1 h0 v1 v2 v3 v4 v5 v6 v7 hc mx un p2 c3 c4 ch i4 i5 ms mt mo me m3 n3 m4 n4 m5 n5 m6 n6 m7; grind
  · clear n1 h0 v2 v3 v4 v5 v6 v7 hc mx un p2 p4 c4 ch i4 i5 ms mt mo me m3 n3 m4 n4 m5 n5 m6 n6 m7; grind
  · clear n1 h0 v2 v3 v4 v5 v6 v7 hc mx un p2 p4 ch i4 i5 ms mt mo me m3 n3 m4 n4 m5 n5 m6 n6 m7; grind
  · clear n1 v2 v3 v4 v5 v6 v7 hc un p2 p4 c3 c4 i4 i5 ms mt mo me m3 n3 m4 n4 m5 n5 m6 n6 m7; grind
  · clear n1 h0 v2 v3 v4 v5 v6 v7 hc mx un p2 p4 c3 c4 ch i5 ms mt mo me m3 n3 m4 n4 m5 n5 m6 n6 m7; grind
  · clear n1 h0 v2 v3 v4 v5 v6 v7 hc mx p2 p4 c3 c4 ch ms mt mo me m3 n3 m4 n4 m5 n5 m6 n6 m7; grind
  · clear n1 h0 v1 v2 v3 v4 v5 v6 v7 hc mx un p2 p4 c3 c4 ch i4 i5 mt mo me m3 n3 m4 n4 m5 n5 m6 n6 m7; grind
  · clear n1 h0 v1 v2 v3 v4 v5 v6 v7 hc mx un p2 p4 c3 c4 ch i4 i5 ms mo me m3 n3 m4 n4 m5 n5 m6 n6 m7; grind
  · clear n1 h0 v1 v2 v3 v4 v5 v6 v7 hc mx un p2 p4 c3 c4 ch i4 i5 ms mt me m3 n3 m4 n4 m5 n5 m6 n6 m7; grind
  · clear n1 h0 v1 v2 v3 v4 v5 v6 v7 hc mx un p2 p4 c3 c4 ch i4 i5 ms mt mo m3 n3 m4 n4 m5 n5 m6 n6 m7; grind
  · clear n1 h0 v1 v2 v3 v4 v5 v6 v7 hc mx un p2 p4 c3 c4 ch i4 i5 ms mo me n3 m4 n4 m5 n5 m6 n6 m7; grind
  · clear n1 h0 v1 v2 v3 v4 v5 v6 v7 hc mx un p2 p4 c3 c4 ch i4 i5 ms mo me m4 n4 m5 n5 m6 n6 m7; grind
  · clear n1 h0 v1 v2 v3 v4 v5 v6 v7 hc mx un p2 p4 c3 c4 ch i4 i5 ms mo me m3 n3 n4 m5 n5 m6 n6 m7; grind
  · clear n1 h0 v1 v2 v3 v4 v5 v6 v7 hc mx p2 p4 c3 c4 ch i4 i5 ms mo me m3 n3 m5 n5 m6 n6 m7; grind
  · clear n1 h0 v1 v2 v3 v4 v5 v6 v7 hc mx un p2 p4 c3 c4 ch i4 i5 ms mo me m3 n3 m4 n4 n5 m6 n6 m7; grind
  · clear n1 h0 v1 v2 v3 v4 v5 v6 v7 hc mx un p2 p4 c3 c4 ch i4 i5 ms mo me m3 n3 m4 n4 m6 n6 m7; grind
  · clear n1 h0 v1 v2 v3 v4 v5 v6 v7 hc mx un p2 p4 c3 c4 ch i4 i5 ms mo me m3 n3 m4 n4 m5 n5 n6 m7; grind
  · clear n1 h0 v1 v2 v3 v4 v5 v6 v7 hc mx un p2 p4 c3 c4 ch i4 i5 ms mo me m3 n3 m4 n4 m5 n5 m7; grind
  · clear n1 h0 v1 v2 v3 v4 v5 v6 v7 hc mx un p2 p4 c3 c4 ch i4 i5 ms mo me m3 n3 m4 n4 m5 n5 m6 n6; grind
theorem inv_offer {n : Int} {f g : Int → Ld} {M : Ml → Prop} {S T : Int → Int} {h : Int} (H : Inv n f M S T h) {S' T' : Int → Int} {p : Int} (hp : (f h).ph = 1) (hp0 : 0 ≤ p ∧ p < n ∧ p ≠ h) (he : (f h).ep ≤ 1073741822)
    (gt : g h = ⟨2, (f h).ep + 1, p⟩) (gn : ∀ i, i ≠ h → g i = f i) (s1 : S' ((f h).ep + 1) = h) (s2 : ∀ e, e ≤ (f h).ep → S' e = S e) (t1 : T' ((f h).ep + 1) = p) (t2 : ∀ e, e ≤ (f h).ep → T' e = T e) : Inv n g M S' T' h := by
  obtain ⟨n1, h0, v1, v2, v3, v4, v5, v6, v7, hc, mx, un, p2, p4, c3, c4, ch, i4, i5, ms, mt, mo, me, m3, n3, m4, n4, m5, n5, m6, n6, m7⟩ := H
  have gp : (g h).ph = 2 := by rw [gt]
  have ge : (g h).ep = (f h).ep + 1 := by rw [gt]
  have gq : (g h).pe = p := by rw [gt]
  have kv := v2 h h0.1 h0.2
  clear gt
  constructor
  · clear v1 v2 v3 v4 v5 v6 v7 hc mx un p2 p4 c3 c4 ch i4 i5 ms mt mo me m3 n3 m4 n4 m5 n5 m6 n6 m7; grind
  · clear n1 v1 v2 v3 v4 v5 v6 v7 hc mx un p2 p4 c3 c4 ch i4 i5 ms mt mo me m3 n3 m4 n4 m5 n5 m6 n6 m7; grind
  · clear n1 v2 v3 v4 v5 v6 v7 hc mx un p2 p4 c3 c4 ch i4 i5 ms mt mo me m3 n3 m4 n4 m5 n5 m6 n6 m7; grind
  · clear n1 v1 v3 v4 v5 v6 v7 hc mx un p2 p4 c3 c4 ch i4 i5 ms mt mo me m3 n3 m4 n4 m5 n5 m6 n6 m7; grind
  · clear n1 v1 v2 v4 v5 v6 v7 hc mx un p2 p4 c3 c4 ch i4 i5 ms mt mo me m3 n3 m4 n4 m5 n5 m6 n6 m7; grind
  · clear n1 v1 v2 v3 v5 v6 v7 hc mx un p2 p4 c3 c4 ch i4 i5 ms mt mo me m3 n3 m4 n4 m5 n5 m6 n6 m7; grind
  · clear n1 v1 v2 v3 v4 v6 v7 hc mx un p2 p4 c3 c4 ch i4 i5 ms mt mo me m3 n3 m4 n4 m5 n5 m6 n6 m7; grind
  · clear n1 v1 v2 v3 v4 v5 v7 hc mx un p2 p4 c3 c4 ch i4 i5 ms mt mo me m3 n3 m4 n4 m5 n5 m6 n6 m7; grind
  · clear n1 v1 v2 v3 v4 v5 v6 hc mx un p2 p4 c3 c4 ch i4 i5 ms mt mo me m3 n3 m4 n4 m5 n5 m6 n6 m7; grind
  · clear n1 v1 v2 v3 v4 v5 v6 v7 mx un p2 p4 c3 c4 ch i4 i5 ms mt mo me m3 n3 m4 n4 m5 n5 m6 n6 m7; grind
  · clear n1 v1 v2 v3 v4 v5 v6 v7 hc un p2 p4 c3 c4 ch i4 i5 ms mt mo me m3 n3 m4 n4 m5 n5 m6 n6 m7; grind
  · clear n1 v1 v2 v3 v4 v5 v6 v7 hc mx p2 p4 c3 c4 ch i4 i5 ms mt mo me m3 n3 m4 n4 m5 n5 m6 n6 m7; grind
  · clear n1 v1 v2 v3 v4 v5 v6 v7 hc un p4 c3 c4 ch i4 i5 ms mt mo me m3 n3 m4 n4 m5 n5 m6 n6 m7; grind
  · clear n1 v1 v2 v3 v4 v5 v6 v7 hc un p2 c3 c4 ch i4 i5 ms mt mo me m3 n3 m4 n4 m5 n5 m6 n6 m7; grind
  · clear n1 v2 v3 v4 v5 v6 v7 hc un p2 p4 c4 ch i4 i5 ms mt mo me m3 n3 m4 n4 m5 n5 m6 n6 m7; grind
  · clear n1 v2 v3 v4 v5 v6 v7 hc un p2 p4 ch i4 i5 ms mt mo me m3 n3 m4 n4 m5 n5 m6 n6 m7; grind
  · clear n1 v2 v3 v4 v5 v6 v7 hc un p2 p4 c3 c4 i4 i5 ms mt mo me m3 n3 m4 n4 m5 n5 m6 n6 m7; grind
  · clear n1 v2 v3 v4 v5 v6 v7 hc un p2 p4 c3 c4 ch i5 ms mt mo me m3 n3 m4 n4 m5 n5 m6 n6 m7; grind
  · clear n1 v2 v3 v4 v5 v6 v7 hc p2 p4 c3 c4 ch ms mt mo me m3 n3 m4 n4 m5 n5 m6 n6 m7; grind
  · clear n1 v1 v2 v3 v4 v5 v6 v7 hc mx un p2 p4 c3 c4 ch i4 i5 mt mo me m3 n3 m4 n4 m5 n5 m6 n6 m7; grind
  · clear n1 v1 v2 v3 v4 v5 v6 v7 hc mx un p2 p4 c3 c4 ch i4 i5 mo me m3 n3 m4 n4 m5 n5 m6 n6 m7; grind
  · clear n1 v1 v2 v3 v4 v5 v6 v7 hc mx un p2 p4 c3 c4 ch i4 i5 mt me m3 n3 m4 n4 m5 n5 m6 n6 m7; grind
  · clear n1 v1 v2 v3 v4 v5 v6 v7 hc mx un p2 p4 c3 c4 ch i4 i5 mt mo m3 n3 m4 n4 m5 n5 m6 n6 m7; grind
  · clear n1 v1 v2 v3 v4 v5 v6 v7 hc un p2 p4 c3 c4 ch i4 i5 mo me n3 m4 n4 m5 n5 m6 n6 m7; grind
  · clear n1 v1 v2 v3 v4 v5 v6 v7 hc un p2 p4 c3 c4 ch i4 i5 mo me m4 n4 m5 n5 m6 n6 m7; grind
  · clear n1 v1 v2 v3 v4 v5 v6 v7 hc un p2 p4 c3 c4 ch i4 i5 mo me m3 n3 n4 m5 n5 m6 n6 m7; grind
  · clear n1 v1 v2 v3 v4 v5 v6 v7 hc p2 p4 c3 c4 ch i4 i5 mo me m3 n3 m5 n5 m6 n6 m7; grind
  · clear n1 v1 v2 v3 v4 v5 v6 v7 hc un p2 p4 c3 c4 ch i4 i5 mo me m3 n3 m4 n4 n5 m6 n6 m7; grind
  · clear n1 v1 v2 v3 v4 v5 v6 v7 hc un p2 p4 c3 c4 ch i4 i5 mo me m3 n3 m4 n4 m6 n6 m7; grind
  · clear n1 v1 v2 v3 v4 v5 v6 v7 hc un p2 p4 c3 c4 ch i4 i5 mo me m3 n3 m4 n4 m5 n5 n6 m7; grind
  · clear n1 v1 v2 v3 v4 v5 v6 v7 hc un p2 p4 c3 c4 ch i4 i5 mo me m3 n3 m4 n4 m5 n5 m7; grind
  · clear n1 v1 v2 v3 v4 v5 v6 v7 hc un p2 p4 c3 c4 ch i4 i5 mo me m3 n3 m4 n4 m5 n5 m6 n6; grind
theorem inv_cancel {n : Int} {f g : Int → Ld} {M : Ml → Prop} {S T : Int → Int} {h : Int} (H : Inv n f M S T h) (hp : (f h).ph = 2)
    (gt : g h = ⟨1, (f h).ep + 1, h⟩) (gn : ∀ i, i ≠ h → g i = f i) : Inv n g M S T h := by
  obtain ⟨n1, h0, v1, v2, v3, v4, v5, v6, v7, hc, mx, un, p2, p4, c3, c4, ch, i4, i5, ms, mt, mo, me, m3, n3, m4, n4, m5, n5, m6, n6, m7⟩ := H
  have gp : (g h).ph = 1 := by rw [gt]
  have ge : (g h).ep = (f h).ep + 1 := by rw [gt]
  have gq : (g h).pe = h := by rw [gt]
  have kv := v2 h h0.1 h0.2
  have kw := v7 h h0.1 h0.2 hp
  clear gt
  constructor
  · clear v1 v2 v3 v4 v5 v6 v7 hc mx un p2 p4 c3 c4 ch i4 i5 ms mt mo me m3 n3 m4 n4 m5 n5 m6 n6 m7; grind
  · clear n1 v1 v2 v3 v4 v5 v6 v7 hc mx un p2 p4 c3 c4 ch i4 i5 ms mt mo me m3 n3 m4 n4 m5 n5 m6 n6 m7; grind
  · clear n1 v2 v3 v4 v5 v6 v7 hc mx un p2 p4 c3 c4 ch i4 i5 ms mt mo me m3 n3 m4 n4 m5 n5 m6 n6 m7; grind
  · clear n1 v1 v3 v4 v5 v6 v7 hc mx un p2 p4 c3 c4 ch i4 i5 ms mt mo me m3 n3 m4 n4 m5 n5 m6 n6 m7; grind
  · clear n1 v1 v2 v4 v5 v6 v7 hc mx un p2 p4 c3 c4 ch i4 i5 ms mt mo me m3 n3 m4 n4 m5 n5 m6 n6 m7; grind
  · clear n1 v1 v2 v3 v5 v6 v7 hc mx un p2 p4 c3 c4 ch i4 i5 ms mt mo me m3 n3 m4 n4 m5 n5 m6 n6 m7; grind
  · clear n1 v1 v2 v3 v4 v6 v7 hc mx un p2 p4 c3 c4 ch i4 i5 ms mt mo me m3 n3 m4 n4 m5 n5 m6 n6 m7; grind
  · clear n1 v1 v2 v3 v4 v5 v7 hc mx un p2 p4 c3 c4 ch i4 i5 ms mt mo me m3 n3 m4 n4 m5 n5 m6 n6 m7; grind
  · clear n1 v1 v2 v3 v4 v5 v6 hc mx un p2 p4 c3 c4 ch i4 i5 ms mt mo me m3 n3 m4 n4 m5 n5 m6 n6 m7; grind
  · clear n1 v1 v2 v3 v4 v5 v6 v7 mx un p2 p4 c3 c4 ch i4 i5 ms mt mo me m3 n3 m4 n4 m5 n5 m6 n6 m7; grind
  · clear n1 v1 v2 v3 v4 v5 v6 v7 hc un p2 p4 c3 c4 ch i4 i5 ms mt mo me m3 n3 m4 n4 m5 n5 m6 n6 m7; grind
  · clear n1 v1 v2 v3 v4 v5 v6 v7 hc mx p2 p4 c3 c4 ch i4 i5 ms mt mo me m3 n3 m4 n4 m5 n5 m6 n6 m7; grind
  · clear n1 v1 v2 v3 v4 v5 v6 v7 hc mx un p4 c3 c4 ch i4 i5 ms mt mo me m3 n3 m4 n4 m5 n5 m6 n6 m7; grind
  · clear n1 v1 v2 v3 v4 v5 v6 v7 hc mx un p2 c3 c4 ch i4 i5 ms mt mo me m3 n3 m4 n4 m5 n5 m6 n6 m7; grind
  · clear n1 v2 v3 v4 v5 v6 v7 hc un p2 p4 c4 ch i4 i5 ms mt mo me m3 n3 m4 n4 m5 n5 m6 n6 m7; grind
  · clear n1 v2 v3 v4 v5 v6 v7 hc un p2 p4 ch i4 i5 ms mt mo me m3 n3 m4 n4 m5 n5 m6 n6 m7; grind
  · clear n1 v2 v3 v4 v5 v6 v7 hc un p2 p4 c3 c4 i4 i5 ms mt mo me m3 n3 m4 n4 m5 n5 m6 n6 m7; grind
  · clear n1 v2 v3 v4 v5 v6 v7 hc un p2 p4 c3 c4 ch i5 ms mt mo me m3 n3 m4 n4 m5 n5 m6 n6 m7; grind
  · clear n1 v2 v3 v4 v5 v6 v7 hc p2 p4 c3 c4 ch ms mt mo me m3 n3 m4 n4 m5 n5 m6 n6 m7; grind
  · clear n1 v1 v2 v3 v4 v5 v6 v7 hc mx un p2 p4 c3 c4 ch i4 i5 mt mo me m3 n3 m4 n4 m5 n5 m6 n6 m7; grind
  · clear n1 v1 v2 v3 v4 v5 v6 v7 hc mx un p2 p4 c3 c4 ch i4 i5 ms mo me m3 n3 m4 n4 m5 n5 m6 n6 m7; grind
  · clear n1 v1 v2 v3 v4 v5 v6 v7 hc mx un p2 p4 c3 c4 ch i4 i5 ms mt me m3 n3 m4 n4 m5 n5 m6 n6 m7; grind
  · clear n1 v1 v2 v3 v4 v5 v6 v7 hc mx un p2 p4 c3 c4 ch i4 i5 ms mt mo m3 n3 m4 n4 m5 n5 m6 n6 m7; grind
  · clear n1 v1 v2 v3 v4 v5 v6 v7 hc un p2 p4 c3 c4 ch i4 i5 mo me n3 m4 n4 m5 n5 m6 n6 m7; grind
  · clear n1 v1 v2 v3 v4 v5 v6 v7 hc un p2 p4 c3 c4 ch i4 i5 mo me m4 n4 m5 n5 m6 n6 m7; grind
  · clear n1 v1 v2 v3 v4 v5 v6 v7 hc un p2 p4 c3 c4 ch i4 i5 mo me m3 n3 n4 m5 n5 m6 n6 m7; grind
  · clear n1 v1 v2 v3 v4 v5 v6 v7 hc p2 p4 c3 c4 ch i4 i5 mo me m3 n3 m5 n5 m6 n6 m7; grind
  · clear n1 v1 v2 v3 v4 v5 v6 v7 hc un p2 p4 c3 c4 ch i4 i5 mo me m3 n3 m4 n4 n5 m6 n6 m7; grind
  · clear n1 v1 v2 v3 v4 v5 v6 v7 hc un p2 p4 c3 c4 ch i4 i5 mo me m3 n3 m4 n4 m6 n6 m7; grind
  · clear n1 v1 v2 v3 v4 v5 v6 v7 hc un p2 p4 c3 c4 ch i4 i5 mo me m3 n3 m4 n4 m5 n5 n6 m7; grind
  · clear n1 v1 v2 v3 v4 v5 v6 v7 hc un p2 p4 c3 c4 ch i4 i5 mo me m3 n3 m4 n4 m5 n5 m7; grind
  · clear n1 v1 v2 v3 v4 v5 v6 v7 hc un p2 p4 c3 c4 ch i4 i5 mo me m3 n3 m4 n4 m5 n5 m6 n6; grind
theorem inv_commit {n : Int} {f g : Int → Ld} {M : Ml → Prop} {S T : Int → Int} {h : Int} (H : Inv n f M S T h) {e s t : Int} (hm : M ⟨4, e, t, s⟩) (hp : (f s).ph = 2) (he : (f s).ep = e) (hq : (f s).pe = t)
    (gt : g s = ⟨3, e, t⟩) (gn : ∀ i, i ≠ s → g i = f i) : Inv n g M S T h := by
  obtain ⟨n1, h0, v1, v2, v3, v4, v5, v6, v7, hc, mx, un, p2, p4, c3, c4, ch, i4, i5, ms, mt, mo, me, m3, n3, m4, n4, m5, n5, m6, n6, m7⟩ := H
  have k1 := ms _ hm
  have k2 := mt _ hm
  have k3 := me _ hm (Or.inl rfl)
  have k4 := m4 _ hm rfl
  have k5 := n4 _ hm rfl
  dsimp only at k1 k2 k3 k4 k5
  obtain ⟨rfl, rfl⟩ := k3
  have hs : S e = h := Classical.byContradiction fun q => (un (S e) k2.1 k2.2.1 q).2 hp
  have k6 := k5 hp he
  have gp : (g (S e)).ph = 3 := by rw [gt]
  have ge : (g (S e)).ep = e := by rw [gt]
  have gq : (g (S e)).pe = T e := by rw [gt]
  have gs : g (T e) = f (T e) := gn _ (fun q => k2.2.2.2.2 q.symm)
  clear gt
  constructor
  · clear v1 v2 v3 v4 v5 v6 v7 hc mx un p2 p4 c3 c4 ch i4 i5 ms mt mo me m3 n3 m4 n4 m5 n5 m6 n6 m7; grind
  · clear n1 v1 v2 v3 v4 v5 v6 v7 hc mx un p2 p4 c3 c4 ch i4 i5 ms mt mo me m3 n3 m4 n4 m5 n5 m6 n6 m7; grind
  · clear n1 v2 v3 v4 v5 v6 v7 hc mx un p2 p4 c3 c4 ch i4 i5 ms mt mo me m3 n3 m4 n4 m5 n5 m6 n6 m7; grind
  · clear n1 v1 v3 v4 v5 v6 v7 hc mx un p2 p4 c3 c4 ch i4 i5 ms mt mo me m3 n3 m4 n4 m5 n5 m6 n6 m7; grind
  · clear n1 v1 v2 v4 v5 v6 v7 hc mx un p2 p4 c3 c4 ch i4 i5 ms mt mo me m3 n3 m4 n4 m5 n5 m6 n6 m7; grind
  · clear n1 v1 v2 v3 v5 v6 v7 hc mx un p2 p4 c3 c4 ch i4 i5 ms mt mo me m3 n3 m4 n4 m5 n5 m6 n6 m7; grind
  · clear n1 v1 v2 v3 v4 v6 v7 hc mx un p2 p4 c3 c4 ch i4 i5 ms mt mo me m3 n3 m4 n4 m5 n5 m6 n6 m7; grind
  · clear n1 v1 v2 v3 v4 v5 v7 hc mx un p2 p4 c3 c4 ch i4 i5 ms mt mo me m3 n3 m4 n4 m5 n5 m6 n6 m7; grind
  · clear n1 v1 v2 v3 v4 v5 v6 hc mx un p2 p4 c3 c4 ch i4 i5 ms mt mo me m3 n3 m4 n4 m5 n5 m6 n6 m7; grind
  · clear n1 v1 v2 v3 v4 v5 v6 v7 mx un p2 p4 c3 c4 ch i4 i5 ms mt mo me m3 n3 m4 n4 m5 n5 m6 n6 m7; grind
  · clear n1 v1 v2 v3 v4 v5 v6 v7 hc un p2 p4 c3 c4 ch i4 i5 ms mt mo me m3 n3 m4 n4 m5 n5 m6 n6 m7; grind
  · clear n1 v1 v2 v3 v4 v5 v6 v7 hc mx p2 p4 c3 c4 ch i4 i5 ms mt mo me m3 n3 m4 n4 m5 n5 m6 n6 m7; grind
  · clear n1 v1 v2 v3 v4 v5 v6 v7 hc mx un p4 c3 c4 ch i4 i5 ms mt mo me m3 n3 m4 n4 m5 n5 m6 n6 m7; grind
  · clear n1 v1 v2 v3 v4 v5 v6 v7 hc mx un p2 c3 c4 ch i4 i5 ms mt mo me m3 n3 m4 n4 m5 n5 m6 n6 m7; grind
  · clear n1 v2 v3 v4 v5 v6 v7 hc mx un p2 p4 c4 ch i4 i5 ms mt mo me m3 n3 m4 n4 m5 n5 m6 n6 m7; grind
  · clear n1 v2 v3 v4 v5 v6 v7 hc mx un p2 p4 ch i4 i5 ms mt mo me m3 n3 m4 n4 m5 n5 m6 n6 m7; grind
  · clear n1 v2 v3 v4 v5 v6 v7 hc un p2 p4 c3 c4 i4 i5 ms mt mo me m3 n3 m4 n4 m5 n5 m6 n6 m7; grind
  · clear n1 v2 v3 v4 v5 v6 v7 hc mx un p2 p4 c3 c4 ch i5 ms mt mo me m3 n3 m4 n4 m5 n5 m6 n6 m7; grind
  · clear n1 v2 v3 v4 v5 v6 v7 hc p2 p4 c3 c4 ch ms mt mo me m3 n3 m4 n4 m5 n5 m6 n6 m7; grind
  · clear n1 v1 v2 v3 v4 v5 v6 v7 hc mx un p2 p4 c3 c4 ch i4 i5 mt mo me m3 n3 m4 n4 m5 n5 m6 n6 m7; grind
  · clear n1 v1 v2 v3 v4 v5 v6 v7 hc mx un p2 p4 c3 c4 ch i4 i5 ms mo me m3 n3 m4 n4 m5 n5 m6 n6 m7; grind
  · clear n1 v1 v2 v3 v4 v5 v6 v7 hc mx un p2 p4 c3 c4 ch i4 i5 ms mt me m3 n3 m4 n4 m5 n5 m6 n6 m7; grind
  · clear n1 v1 v2 v3 v4 v5 v6 v7 hc mx un p2 p4 c3 c4 ch i4 i5 ms mt mo m3 n3 m4 n4 m5 n5 m6 n6 m7; grind
  · clear n1 v1 v2 v3 v4 v5 v6 v7 hc mx un p2 p4 c3 c4 ch i4 i5 ms mo me n3 m4 n4 m5 n5 m6 n6 m7; grind
  · clear n1 v1 v2 v3 v4 v5 v6 v7 hc p2 p4 c3 c4 ch i4 i5 ms mo me m4 n4 m5 n5 m6 n6 m7; grind
  · clear n1 v1 v2 v3 v4 v5 v6 v7 hc mx un p2 p4 c3 c4 ch i4 i5 ms mo me m3 n3 n4 m5 n5 m6 n6 m7; grind
  · clear n1 v1 v2 v3 v4 v5 v6 v7 hc mx p2 p4 c3 c4 ch i4 i5 ms mo me m3 n3 m5 n5 m6 n6 m7; grind
  · clear n1 v1 v2 v3 v4 v5 v6 v7 hc mx un p2 p4 c3 c4 ch i4 i5 ms mo me m3 n3 m4 n4 n5 m6 n6 m7; grind
  · clear n1 v1 v2 v3 v4 v5 v6 v7 hc mx p2 p4 c3 c4 ch i4 i5 ms mo me m3 n3 m4 n4 m6 n6 m7; grind
  · clear n1 v1 v2 v3 v4 v5 v6 v7 hc mx un p2 p4 c3 c4 ch i4 i5 ms mo me m3 n3 m4 n4 m5 n5 n6 m7; grind
  · clear n1 v1 v2 v3 v4 v5 v6 v7 hc mx un p2 p4 c3 c4 ch i4 i5 ms mo me m3 n3 m4 n4 m5 n5 m7; grind
  · clear n1 v1 v2 v3 v4 v5 v6 v7 hc mx un p2 p4 c3 c4 ch i4 i5 ms mo me m3 n3 m4 n4 m5 n5 m6 n6; grind
theorem inv_own {n : Int} {f g : Int → Ld} {M : Ml → Prop} {S T : Int → Int} {h : Int} (H : Inv n f M S T h) {e s t : Int} (hm : M ⟨5, e, s, t⟩) (hp : (f t).ph = 4) (he : (f t).ep = e) (hq : (f t).pe = s)
    (gt : g t = ⟨1, e, t⟩) (gn : ∀ i, i ≠ t → g i = f i) : Inv n g M S T t := by
  obtain ⟨n1, h0, v1, v2, v3, v4, v5, v6, v7, hc, mx, un, p2, p4, c3, c4, ch, i4, i5, ms, mt, mo, me, m3, n3, m4, n4, m5, n5, m6, n6, m7⟩ := H
  have k1 := ms _ hm
  have k2 := mt _ hm
  have k3 := mo _ hm (Or.inr (Or.inl rfl))
  have k4 := m5 _ hm rfl
  have k5 := n5 _ hm rfl
  dsimp only at k1 k2 k3 k4 k5
  obtain ⟨rfl, rfl⟩ := k3
  have k6 := k5 hp he
  have k7 := i5 (T e) k2.2.2.1 k2.2.2.2.1 hp (by rw [hq, k6.2, he])
  have hs : S e = h := by rw [← hq]; exact k7.1
  have kh : (f h).ep = e := by rw [← hs]; exact k6.2
  have gp : (g (T e)).ph = 1 := by rw [gt]
  have ge : (g (T e)).ep = e := by rw [gt]
  have gq : (g (T e)).pe = T e := by rw [gt]
  have gs : g (S e) = f (S e) := gn _ k2.2.2.2.2
  clear gt
  constructor
  · clear v1 v2 v3 v4 v5 v6 v7 hc mx un p2 p4 c3 c4 ch i4 i5 ms mt mo me m3 n3 m4 n4 m5 n5 m6 n6 m7; grind
  · clear n1 v1 v2 v3 v4 v5 v6 v7 hc mx un p2 p4 c3 c4 ch i4 i5 ms mo me m3 n3 m4 n4 m5 n5 m6 n6 m7; grind
  · clear n1 v2 v3 v4 v5 v6 v7 hc mx un p2 p4 c3 c4 ch i4 i5 ms mt mo me m3 n3 m4 n4 m5 n5 m6 n6 m7; grind
  · clear n1 v1 v3 v4 v5 v6 v7 hc mx un p2 p4 c3 c4 ch i4 i5 ms mt mo me m3 n3 m4 n4 m5 n5 m6 n6 m7; grind
  · clear n1 v1 v2 v4 v5 v6 v7 hc mx un p2 p4 c3 c4 ch i4 i5 ms mt mo me m3 n3 m4 n4 m5 n5 m6 n6 m7; grind
  · clear n1 v1 v2 v3 v5 v6 v7 hc mx un p2 p4 c3 c4 ch i4 i5 ms mt mo me m3 n3 m4 n4 m5 n5 m6 n6 m7; grind
  · clear n1 v1 v2 v3 v4 v6 v7 hc mx un p2 p4 c3 c4 ch i4 i5 ms mt mo me m3 n3 m4 n4 m5 n5 m6 n6 m7; grind
  · clear n1 v1 v2 v3 v4 v5 v7 hc mx un p2 p4 c3 c4 ch i4 i5 ms mt mo me m3 n3 m4 n4 m5 n5 m6 n6 m7; grind
  · clear n1 v1 v2 v3 v4 v5 v6 hc mx un p2 p4 c3 c4 ch i4 i5 ms mt mo me m3 n3 m4 n4 m5 n5 m6 n6 m7; grind
  · clear n1 v1 v2 v3 v4 v5 v6 v7 mx un p2 p4 c3 c4 ch i4 i5 ms mt mo me m3 n3 m4 n4 m5 n5 m6 n6 m7; grind
  · clear n1 v1 v2 v3 v4 v5 v6 v7 hc un p2 p4 c3 c4 ch i4 i5 ms mt mo me m3 n3 m4 n4 m5 n5 m6 n6 m7; grind
  · clear n1 v1 v2 v3 v4 v5 v6 v7 hc mx p2 p4 c3 c4 ch i4 i5 ms mt mo me m3 n3 m4 n4 m5 n5 m6 n6 m7; grind
  · clear n1 v1 v2 v3 v4 v5 v6 v7 hc mx un p4 c3 c4 ch i4 i5 ms mt mo me m3 n3 m4 n4 m5 n5 m6 n6 m7; grind
  · clear n1 v1 v2 v3 v4 v5 v6 v7 hc mx un p2 c3 c4 ch i4 i5 ms mt mo me m3 n3 m4 n4 m5 n5 m6 n6 m7; grind
  · clear n1 v2 v3 v4 v5 v6 v7 hc mx un p2 p4 c4 ch i4 i5 ms mt mo me m3 n3 m4 n4 m5 n5 m6 n6 m7; grind
  · clear n1 v2 v3 v4 v5 v6 v7 hc un p4 ch i4 i5 ms mt mo me m3 n3 m4 n4 m5 n5 m6 n6 m7; grind
  · clear n1 v2 v3 v4 v5 v6 v7 hc un p2 p4 c3 c4 i4 i5 ms mt mo me m3 n3 m4 n4 m5 n5 m6 n6 m7; grind
  · clear n1 v2 v3 v4 v5 v6 v7 hc mx un p2 p4 c3 c4 ch i5 ms mt mo me m3 n3 m4 n4 m5 n5 m6 n6 m7; grind
  · clear n1 v2 v3 v4 v5 v6 v7 hc p2 c3 c4 ch ms mt mo me m3 n3 m4 n4 m5 n5 m6 n6 m7; grind
  · clear n1 v1 v2 v3 v4 v5 v6 v7 hc un p2 p4 c3 c4 ch i4 i5 mt mo me m3 n3 m4 n4 m5 n5 m6 n6 m7; grind
  · clear n1 v1 v2 v3 v4 v5 v6 v7 hc mx un p2 p4 c3 c4 ch i4 i5 ms mo me m3 n3 m4 n4 m5 n5 m6 n6 m7; grind
  · clear n1 v1 v2 v3 v4 v5 v6 v7 hc mx un p2 p4 c3 c4 ch i4 i5 ms mt me m3 n3 m4 n4 m5 n5 m6 n6 m7; grind
  · clear n1 v1 v2 v3 v4 v5 v6 v7 hc mx un p2 p4 c3 c4 ch i4 i5 ms mt mo m3 n3 m4 n4 m5 n5 m6 n6 m7; grind
  · clear n1 v1 v2 v3 v4 v5 v6 v7 hc mx un p2 p4 c3 c4 ch i4 i5 ms mo me n3 m4 n4 m5 n5 m6 n6 m7; grind
  · clear n1 v1 v2 v3 v4 v5 v6 v7 hc p2 p4 c3 c4 ch i4 i5 mo me m4 n4 m5 n5 m6 n6 m7; grind
  · clear n1 v1 v2 v3 v4 v5 v6 v7 hc mx un p2 p4 c3 c4 ch i4 i5 ms mo me m3 n3 n4 m5 n5 m6 n6 m7; grind
  · clear n1 v1 v2 v3 v4 v5 v6 v7 hc p2 p4 c3 c4 ch i4 i5 mo me m3 n3 m5 n5 m6 n6 m7; grind
  · clear n1 v1 v2 v3 v4 v5 v6 v7 hc mx un p2 p4 c3 c4 ch i4 i5 ms mo me m3 n3 m4 n4 n5 m6 n6 m7; grind
  · clear n1 v1 v2 v3 v4 v5 v6 v7 hc p2 p4 c3 c4 ch i4 i5 mo me m3 n3 m4 n4 m6 n6 m7; grind
  · clear n1 v1 v2 v3 v4 v5 v6 v7 hc mx un p2 p4 c3 c4 ch i4 i5 ms mo me m3 n3 m4 n4 m5 n5 n6 m7; grind
  · clear n1 v1 v2 v3 v4 v5 v6 v7 hc mx un p2 p4 c3 c4 ch i4 i5 ms mo me m3 n3 m4 n4 m5 n5 m7; grind
  · clear n1 v1 v2 v3 v4 v5 v6 v7 hc mx un p2 p4 c3 c4 ch i4 i5 ms mo me m3 n3 m4 n4 m5 n5 m6 n6; grind
theorem inv_release {n : Int} {f g : Int → Ld} {M : Ml → Prop} {S T : Int → Int} {h : Int} (H : Inv n f M S T h) {e s t : Int} (hm : M ⟨6, e, t, s⟩) (hp : (f s).ph = 3) (he : (f s).ep = e) (hq : (f s).pe = t)
    (gt : g s = ⟨5, e, t⟩) (gn : ∀ i, i ≠ s → g i = f i) : Inv n g M S T h := by
  obtain ⟨n1, h0, v1, v2, v3, v4, v5, v6, v7, hc, mx, un, p2, p4, c3, c4, ch, i4, i5, ms, mt, mo, me, m3, n3, m4, n4, m5, n5, m6, n6, m7⟩ := H
  have k1 := ms _ hm
  have k2 := mt _ hm
  have k3 := me _ hm (Or.inr (Or.inl rfl))
  have k4 := m6 _ hm rfl
  have k5 := n6 _ hm rfl
  dsimp only at k1 k2 k3 k4 k5
  obtain ⟨rfl, rfl⟩ := k3
  have hs : S e ≠ h := fun q => by
    have := ch (by rw [← q]; exact hp)
    rw [← q, hq, he] at this
    exact k5 this.1 this.2
  have gh : g h = f h := gn h (fun q => hs q.symm)
  have gp : (g (S e)).ph = 5 := by rw [gt]
  have ge : (g (S e)).ep = e := by rw [gt]
  have gq : (g (S e)).pe = T e := by rw [gt]
  have gs : g (T e) = f (T e) := gn _ (fun q => k2.2.2.2.2 q.symm)
  have kc := v2 (S e) k2.1 k2.2.1
  clear gt
  constructor
  · clear v1 v2 v3 v4 v5 v6 v7 hc mx un p2 p4 c3 c4 ch i4 i5 ms mt mo me m3 n3 m4 n4 m5 n5 m6 n6 m7; grind
  · clear n1 v1 v2 v3 v4 v5 v6 v7 hc mx un p2 p4 c3 c4 ch i4 i5 ms mt mo me m3 n3 m4 n4 m5 n5 m6 n6 m7; grind
  · clear n1 v2 v3 v4 v5 v6 v7 hc mx un p2 p4 c3 c4 ch i4 i5 ms mt mo me m3 n3 m4 n4 m5 n5 m6 n6 m7; grind
  · clear n1 v1 v3 v4 v5 v6 v7 hc mx un p2 p4 c3 c4 ch i4 i5 ms mt mo me m3 n3 m4 n4 m5 n5 m6 n6 m7; grind
  · clear n1 v1 v2 v4 v5 v6 v7 hc mx un p2 p4 c3 c4 ch i4 i5 ms mt mo me m3 n3 m4 n4 m5 n5 m6 n6 m7; grind
  · clear n1 v1 v2 v3 v5 v6 v7 hc mx un p2 p4 c3 c4 ch i4 i5 ms mt mo me m3 n3 m4 n4 m5 n5 m6 n6 m7; grind
  · clear n1 v1 v2 v3 v4 v6 v7 hc mx un p2 p4 c3 c4 ch i4 i5 ms mt mo me m3 n3 m4 n4 m5 n5 m6 n6 m7; grind
  · clear n1 v1 v2 v3 v4 v5 v7 hc mx un p2 p4 c3 c4 ch i4 i5 ms mt mo me m3 n3 m4 n4 m5 n5 m6 n6 m7; grind
  · clear n1 v1 v2 v3 v4 v5 v6 hc mx un p2 p4 c3 c4 ch i4 i5 ms mt mo me m3 n3 m4 n4 m5 n5 m6 n6 m7; grind
  · clear n1 v1 v2 v3 v4 v5 v6 v7 mx un p2 p4 c3 c4 ch i4 i5 ms mt mo me m3 n3 m4 n4 m5 n5 m6 n6 m7; grind
  · clear n1 v1 v2 v3 v4 v5 v6 v7 hc un p2 p4 c3 c4 ch i4 i5 ms mt mo me m3 n3 m4 n4 m5 n5 m6 n6 m7; grind
  · clear n1 v1 v2 v3 v4 v5 v6 v7 hc mx p2 p4 c3 c4 ch i4 i5 ms mt mo me m3 n3 m4 n4 m5 n5 m6 n6 m7; grind
  · clear n1 v1 v2 v3 v4 v5 v6 v7 hc mx un p4 c3 c4 ch i4 i5 ms mt mo me m3 n3 m4 n4 m5 n5 m6 n6 m7; grind
  · clear n1 v1 v2 v3 v4 v5 v6 v7 hc mx un p2 c3 c4 ch i4 i5 ms mt mo me m3 n3 m4 n4 m5 n5 m6 n6 m7; grind
  · clear n1 v2 v3 v4 v5 v6 v7 hc mx un p2 p4 c4 ch i4 i5 ms mt mo me m3 n3 m4 n4 m5 n5 m6 n6 m7; grind
  · clear n1 v2 v3 v4 v5 v6 v7 hc mx un p2 p4 ch i4 i5 ms mt mo me m3 n3 m4 n4 m5 n5 m6 n6 m7; grind
  · clear n1 v2 v3 v4 v5 v6 v7 hc un p2 p4 c3 c4 i4 i5 ms mt mo me m3 n3 m4 n4 m5 n5 m6 n6 m7; grind
  · clear n1 v2 v3 v4 v5 v6 v7 hc mx un p2 p4 c3 c4 ch i5 ms mt mo me m3 n3 m4 n4 m5 n5 m6 n6 m7; grind
  · clear n1 v2 v3 v4 v5 v6 v7 hc mx p2 c3 c4 ch ms mt mo me m3 n3 m4 n4 m5 n5 m6 n6 m7; grind
  · clear n1 v1 v2 v3 v4 v5 v6 v7 hc mx un p2 p4 c3 c4 ch i4 i5 mt mo me m3 n3 m4 n4 m5 n5 m6 n6 m7; grind
  · clear n1 v1 v2 v3 v4 v5 v6 v7 hc mx un p2 p4 c3 c4 ch i4 i5 ms mo me m3 n3 m4 n4 m5 n5 m6 n6 m7; grind
  · clear n1 v1 v2 v3 v4 v5 v6 v7 hc mx un p2 p4 c3 c4 ch i4 i5 ms mt me m3 n3 m4 n4 m5 n5 m6 n6 m7; grind
  · clear n1 v1 v2 v3 v4 v5 v6 v7 hc mx un p2 p4 c3 c4 ch i4 i5 ms mt mo m3 n3 m4 n4 m5 n5 m6 n6 m7; grind
  · clear n1 v1 v2 v3 v4 v5 v6 v7 hc mx un p2 p4 c3 c4 ch i4 i5 ms mo me n3 m4 n4 m5 n5 m6 n6 m7; grind
  · clear n1 v1 v2 v3 v4 v5 v6 v7 hc mx un p2 p4 c3 c4 ch i4 i5 ms mo me m4 n4 m5 n5 m6 n6 m7; grind
  · clear n1 v1 v2 v3 v4 v5 v6 v7 hc mx un p2 p4 c3 c4 ch i4 i5 ms mo me m3 n3 n4 m5 n5 m6 n6 m7; grind
  · clear n1 v1 v2 v3 v4 v5 v6 v7 hc mx p2 p4 c3 c4 ch i4 i5 ms mo me m3 n3 m5 n5 m6 n6 m7; grind
  · clear n1 v1 v2 v3 v4 v5 v6 v7 hc mx un p2 p4 c3 c4 ch i4 i5 ms mo me m3 n3 m4 n4 n5 m6 n6 m7; grind
  · clear n1 v1 v2 v3 v4 v5 v6 v7 hc mx un p2 p4 c3 c4 ch i4 i5 ms mo me m3 n3 m4 n4 m6 n6 m7; grind
  · clear n1 v1 v2 v3 v4 v5 v6 v7 hc mx un p2 p4 c3 c4 ch i4 i5 ms mo me m3 n3 m4 n4 m5 n5 n6 m7; grind
  · clear n1 v1 v2 v3 v4 v5 v6 v7 hc mx un p2 p4 c3 c4 ch i4 i5 ms mo me m3 n3 m4 n4 m5 n5 m7; grind
  · clear n1 v1 v2 v3 v4 v5 v6 v7 hc mx un p2 p4 c3 c4 ch i4 i5 ms mo me m3 n3 m4 n4 m5 n5 m6 n6; grind
theorem inv_forget {n : Int} {f g : Int → Ld} {M : Ml → Prop} {S T : Int → Int} {h : Int} (H : Inv n f M S T h) {e s t : Int} (hm : M ⟨7, e, s, t⟩) (hp : (f t).ph = 4) (he : (f t).ep = e) (hq : (f t).pe = s)
    (gt : g t = ⟨5, e, s⟩) (gn : ∀ i, i ≠ t → g i = f i) : Inv n g M S T h := by
  obtain ⟨n1, h0, v1, v2, v3, v4, v5, v6, v7, hc, mx, un, p2, p4, c3, c4, ch, i4, i5, ms, mt, mo, me, m3, n3, m4, n4, m5, n5, m6, n6, m7⟩ := H
  have k1 := ms _ hm
  have k2 := mt _ hm
  have k3 := mo _ hm (Or.inr (Or.inr rfl))
  have k4 := m7 _ hm rfl
  dsimp only at k1 k2 k3 k4
  obtain ⟨rfl, rfl⟩ := k3
  have ht : T e ≠ h := fun q => by rw [q] at hp; omega
  have gh : g h = f h := gn h (fun q => ht q.symm)
  have gp : (g (T e)).ph = 5 := by rw [gt]
  have ge : (g (T e)).ep = e := by rw [gt]
  have gq : (g (T e)).pe = S e := by rw [gt]
  have gs : g (S e) = f (S e) := gn _ k2.2.2.2.2
  have kc := v2 (T e) k2.2.2.1 k2.2.2.2.1
  clear gt
  constructor
  · clear v1 v2 v3 v4 v5 v6 v7 hc mx un p2 p4 c3 c4 ch i4 i5 ms mt mo me m3 n3 m4 n4 m5 n5 m6 n6 m7; grind
  · clear n1 v1 v2 v3 v4 v5 v6 v7 hc mx un p2 p4 c3 c4 ch i4 i5 ms mt mo me m3 n3 m4 n4 m5 n5 m6 n6 m7; grind
  · clear n1 v2 v3 v4 v5 v6 v7 hc mx un p2 p4 c3 c4 ch i4 i5 ms mt mo me m3 n3 m4 n4 m5 n5 m6 n6 m7; grind
  · clear n1 v1 v3 v4 v5 v6 v7 hc mx un p2 p4 c3 c4 ch i4 i5 ms mt mo me m3 n3 m4 n4 m5 n5 m6 n6 m7; grind
  · clear n1 v1 v2 v4 v5 v6 v7 hc mx un p2 p4 c3 c4 ch i4 i5 ms mt mo me m3 n3 m4 n4 m5 n5 m6 n6 m7; grind
  · clear n1 v1 v2 v3 v5 v6 v7 hc mx un p2 p4 c3 c4 ch i4 i5 ms mt mo me m3 n3 m4 n4 m5 n5 m6 n6 m7; grind
  · clear n1 v1 v2 v3 v4 v6 v7 hc mx un p2 p4 c3 c4 ch i4 i5 ms mt mo me m3 n3 m4 n4 m5 n5 m6 n6 m7; grind
  · clear n1 v1 v2 v3 v4 v5 v7 hc mx un p2 p4 c3 c4 ch i4 i5 ms mt mo me m3 n3 m4 n4 m5 n5 m6 n6 m7; grind
  · clear n1 v1 v2 v3 v4 v5 v6 hc mx un p2 p4 c3 c4 ch i4 i5 ms mt mo me m3 n3 m4 n4 m5 n5 m6 n6 m7; grind
  · clear n1 v1 v2 v3 v4 v5 v6 v7 mx un p2 p4 c3 c4 ch i4 i5 ms mt mo me m3 n3 m4 n4 m5 n5 m6 n6 m7; grind
  · clear n1 v1 v2 v3 v4 v5 v6 v7 hc un p2 p4 c3 c4 ch i4 i5 ms mt mo me m3 n3 m4 n4 m5 n5 m6 n6 m7; grind
  · clear n1 v1 v2 v3 v4 v5 v6 v7 hc mx p2 p4 c3 c4 ch i4 i5 ms mt mo me m3 n3 m4 n4 m5 n5 m6 n6 m7; grind
  · clear n1 v1 v2 v3 v4 v5 v6 v7 hc mx un p4 c3 c4 ch i4 i5 ms mt mo me m3 n3 m4 n4 m5 n5 m6 n6 m7; grind
  · clear n1 v1 v2 v3 v4 v5 v6 v7 hc mx un p2 c3 c4 ch i4 i5 ms mt mo me m3 n3 m4 n4 m5 n5 m6 n6 m7; grind
  · clear n1 v2 v3 v4 v5 v6 v7 hc mx un p2 p4 c4 ch i4 i5 ms mt mo me m3 n3 m4 n4 m5 n5 m6 n6 m7; grind
  · clear n1 v2 v3 v4 v5 v6 v7 hc mx un p2 p4 ch i4 i5 ms mt mo me m3 n3 m4 n4 m5 n5 m6 n6 m7; grind
  · clear n1 v2 v3 v4 v5 v6 v7 hc un p4 c3 c4 i4 i5 ms mt mo me m3 n3 m4 n4 m5 n5 m6 n6 m7; grind
  · clear n1 v2 v3 v4 v5 v6 v7 hc mx un p2 p4 c3 c4 ch i5 ms mt mo me m3 n3 m4 n4 m5 n5 m6 n6 m7; grind
  · clear n1 v2 v3 v4 v5 v6 v7 hc mx p2 p4 c3 c4 ch ms mt mo me m3 n3 m4 n4 m5 n5 m6 n6 m7; grind
  · clear n1 v1 v2 v3 v4 v5 v6 v7 hc mx un p2 p4 c3 c4 ch i4 i5 mt mo me m3 n3 m4 n4 m5 n5 m6 n6 m7; grind
  · clear n1 v1 v2 v3 v4 v5 v6 v7 hc mx un p2 p4 c3 c4 ch i4 i5 ms mo me m3 n3 m4 n4 m5 n5 m6 n6 m7; grind
  · clear n1 v1 v2 v3 v4 v5 v6 v7 hc mx un p2 p4 c3 c4 ch i4 i5 ms mt me m3 n3 m4 n4 m5 n5 m6 n6 m7; grind
  · clear n1 v1 v2 v3 v4 v5 v6 v7 hc mx un p2 p4 c3 c4 ch i4 i5 ms mt mo m3 n3 m4 n4 m5 n5 m6 n6 m7; grind
  · clear n1 v1 v2 v3 v4 v5 v6 v7 hc mx un p2 p4 c3 c4 ch i4 i5 ms mo me n3 m4 n4 m5 n5 m6 n6 m7; grind
  · clear n1 v1 v2 v3 v4 v5 v6 v7 hc mx un p2 p4 c3 c4 ch i4 i5 ms mo me m4 n4 m5 n5 m6 n6 m7; grind
  · clear n1 v1 v2 v3 v4 v5 v6 v7 hc mx un p2 p4 c3 c4 ch i4 i5 ms mo me m3 n3 n4 m5 n5 m6 n6 m7; grind
  · clear n1 v1 v2 v3 v4 v5 v6 v7 hc mx p2 p4 c3 c4 ch i4 i5 mo me m3 n3 m5 n5 m6 n6 m7; grind
  · clear n1 v1 v2 v3 v4 v5 v6 v7 hc mx un p2 p4 c3 c4 ch i4 i5 ms mo me m3 n3 m4 n4 n5 m6 n6 m7; grind
  · clear n1 v1 v2 v3 v4 v5 v6 v7 hc mx un p2 p4 c3 c4 ch i4 i5 ms mo me m3 n3 m4 n4 m6 n6 m7; grind
  · clear n1 v1 v2 v3 v4 v5 v6 v7 hc mx un p2 p4 c3 c4 ch i4 i5 ms mo me m3 n3 m4 n4 m5 n5 n6 m7; grind
  · clear n1 v1 v2 v3 v4 v5 v6 v7 hc mx un p2 p4 c3 c4 ch i4 i5 ms mo me m3 n3 m4 n4 m5 n5 m7; grind
  · clear n1 v1 v2 v3 v4 v5 v6 v7 hc mx un p2 p4 c3 c4 ch i4 i5 ms mo me m3 n3 m4 n4 m5 n5 m6 n6; grind
theorem inv_send {n : Int} {f : Int → Ld} {M M' : Ml → Prop} {S T : Int → Int} {h : Int} (H : Inv n f M S T h) {m0 : Ml} (hM : ∀ m, M' m → M m ∨ m = m0)
    (a1 : 1 ≤ m0.ep ∧ m0.ep ≤ (f h).ep ∧ 3 ≤ m0.kind ∧ m0.kind ≤ 8) (a2 : 0 ≤ S m0.ep ∧ S m0.ep < n ∧ 0 ≤ T m0.ep ∧ T m0.ep < n ∧ S m0.ep ≠ T m0.ep)
    (a3 : (m0.kind = 3 ∨ m0.kind = 5 ∨ m0.kind = 7) → m0.fr = S m0.ep ∧ m0.to = T m0.ep) (a4 : (m0.kind = 4 ∨ m0.kind = 6 ∨ m0.kind = 8) → m0.fr = T m0.ep ∧ m0.to = S m0.ep)
    (b3 : m0.kind = 3 → m0.ep ≤ (f (S m0.ep)).ep) (d3 : m0.kind = 3 → (f (S m0.ep)).ep = m0.ep → (f (S m0.ep)).ph = 2 ∨ m0.ep ≤ (f (T m0.ep)).ep)
    (b4 : m0.kind = 4 → m0.ep ≤ (f (T m0.ep)).ep) (d4 : m0.kind = 4 → (f (S m0.ep)).ph = 2 → (f (S m0.ep)).ep = m0.ep → (f (T m0.ep)).ph = 4 ∧ (f (T m0.ep)).ep = m0.ep)
    (b5 : m0.kind = 5 → m0.ep ≤ (f (T m0.ep)).ep) (d5 : m0.kind = 5 → (f (T m0.ep)).ph = 4 → (f (T m0.ep)).ep = m0.ep → (f (S m0.ep)).ph = 3 ∧ (f (S m0.ep)).ep = m0.ep)
    (b6 : m0.kind = 6 → m0.ep ≤ (f (T m0.ep)).ep) (d6 : m0.kind = 6 → (f (T m0.ep)).ph = 4 → (f (T m0.ep)).ep ≠ m0.ep)
    (b7 : m0.kind = 7 → m0.ep < (f (S m0.ep)).ep) : Inv n f M' S T h := by
  obtain ⟨n1, h0, v1, v2, v3, v4, v5, v6, v7, hc, mx, un, p2, p4, c3, c4, ch, i4, i5, ms, mt, mo, me, m3, n3, m4, n4, m5, n5, m6, n6, m7⟩ := H
  constructor
  · exact n1
  · exact h0
  · exact v1
  · exact v2
  · exact v3
  · exact v4
  · exact v5
  · exact v6
  · exact v7
  · exact hc
  · exact mx
  · exact un
  · exact p2
  · exact p4
  · exact c3
  · exact c4
  · exact ch
  · exact i4
  · exact i5
  · intro m hm; rcases hM m hm with q | rfl
    · exact ms m q
    · exact a1
  · intro m hm; rcases hM m hm with q | rfl
    · exact mt m q
    · exact a2
  · intro m hm; rcases hM m hm with q | rfl
    · exact mo m q
    · exact a3
  · intro m hm; rcases hM m hm with q | rfl
    · exact me m q
    · exact a4
  · intro m hm; rcases hM m hm with q | rfl
    · exact m3 m q
    · exact b3
  · intro m hm; rcases hM m hm with q | rfl
    · exact n3 m q
    · exact d3
  · intro m hm; rcases hM m hm with q | rfl
    · exact m4 m q
    · exact b4
  · intro m hm; rcases hM m hm with q | rfl
    · exact n4 m q
    · exact d4
  · intro m hm; rcases hM m hm with q | rfl
    · exact m5 m q
    · exact b5
  · intro m hm; rcases hM m hm with q | rfl
    · exact n5 m q
    · exact d5
  · intro m hm; rcases hM m hm with q | rfl
    · exact m6 m q
    · exact b6
  · intro m hm; rcases hM m hm with q | rfl
    · exact n6 m q
    · exact d6
  · intro m hm; rcases hM m hm with q | rfl
    · exact m7 m q
    · exact b7
theorem send_nag {n : Int} {f : Int → Ld} {M M' : Ml → Prop} {S T : Int → Int} {h : Int} (H : Inv n f M S T h) {i : Int} (i0 : 0 ≤ i) (i1 : i < n) (hp : (f i).ph = 2 ∨ (f i).ph = 3 ∨ (f i).ph = 4) (hM : ∀ m, M' m → M m ∨ m = ⟨nag (f i), (f i).ep, i, (f i).pe⟩) : Inv n f M' S T h := by
  have H0 := H
  obtain ⟨n1, h0, v1, v2, v3, v4, v5, v6, v7, hc, mx, un, p2, p4, c3, c4, ch, i4, i5, ms, mt, mo, me, m3, n3, m4, n4, m5, n5, m6, n6, m7⟩ := H
  have k1 := v1 i i0 i1
  have k3 := v3 i i0 i1
  have k6 := v6 i i0 i1
  have km := mx i i0 i1
  have q2 := p2 i i0 i1
  have q4 := p4 i i0 i1
  have q3 := c3 i i0 i1
  have r4 := i4 i i0 i1
  have r5 := i5 i i0 i1
  have r6 := c4 i i0 i1
  have r7 := un i i0 i1
  have rh := un h
  have nn : nag (f i) = if (f i).ph = 2 then 3 else if (f i).ph = 3 then 5 else if (f i).ph = 4 then 4 else 0 := rfl
  clear v1 v2 v3 v4 v5 v6 v7 mx un p2 p4 c3 c4 i4 i5 ms mt mo me m3 n3 m4 n4 m5 n5 m6 n6 m7
  refine inv_send H0 hM ?_ ?_ ?_ ?_ ?_ ?_ ?_ ?_ ?_ ?_ ?_ ?_ ?_ <;> dsimp only
  all_goals first | grind
theorem send_cancel {n : Int} {f : Int → Ld} {M M' : Ml → Prop} {S T : Int → Int} {h : Int} (H : Inv n f M S T h) {e s t : Int} (hm : M ⟨4, e, t, s⟩) (he : e < (f s).ep) (hM : ∀ m, M' m → M m ∨ m = ⟨7, e, s, t⟩) : Inv n f M' S T h := by
  have H0 := H
  obtain ⟨n1, h0, v1, v2, v3, v4, v5, v6, v7, hc, mx, un, p2, p4, c3, c4, ch, i4, i5, ms, mt, mo, me, m3, n3, m4, n4, m5, n5, m6, n6, m7⟩ := H
  have k1 := ms _ hm
  have k2 := mt _ hm
  have k3 := me _ hm (by simp)
  have k5 := m5 _ hm
  dsimp only at k1 k2 k3 k5
  clear v1 v2 v3 v4 v5 v6 v7 mx un p2 p4 c3 c4 i4 i5 ms mt mo me m3 n3 m4 n4 m5 n5 m6 n6 m7
  refine inv_send H0 hM ?_ ?_ ?_ ?_ ?_ ?_ ?_ ?_ ?_ ?_ ?_ ?_ ?_ <;> dsimp only
  all_goals first | grind
theorem send_mine {n : Int} {f : Int → Ld} {M M' : Ml → Prop} {S T : Int → Int} {h : Int} (H : Inv n f M S T h) {e s t : Int} (hm : M ⟨5, e, s, t⟩) (he : e ≤ (f t).ep) (hi : (f t).ph = 4 → (f t).ep ≠ e) (hM : ∀ m, M' m → M m ∨ m = ⟨6, e, t, s⟩) : Inv n f M' S T h := by
  have H0 := H
  obtain ⟨n1, h0, v1, v2, v3, v4, v5, v6, v7, hc, mx, un, p2, p4, c3, c4, ch, i4, i5, ms, mt, mo, me, m3, n3, m4, n4, m5, n5, m6, n6, m7⟩ := H
  have k1 := ms _ hm
  have k2 := mt _ hm
  have k3 := mo _ hm (by simp)
  have k5 := m5 _ hm
  dsimp only at k1 k2 k3 k5
  clear v1 v2 v3 v4 v5 v6 v7 mx un p2 p4 c3 c4 i4 i5 ms mt mo me m3 n3 m4 n4 m5 n5 m6 n6 m7
  refine inv_send H0 hM ?_ ?_ ?_ ?_ ?_ ?_ ?_ ?_ ?_ ?_ ?_ ?_ ?_ <;> dsimp only
  all_goals first | grind
theorem send_full {n : Int} {f : Int → Ld} {M M' : Ml → Prop} {S T : Int → Int} {h : Int} (H : Inv n f M S T h) {e s t : Int} (hm : M ⟨3, e, s, t⟩) (hM : ∀ m, M' m → M m ∨ m = ⟨8, e, t, s⟩) : Inv n f M' S T h := by
  have H0 := H
  obtain ⟨n1, h0, v1, v2, v3, v4, v5, v6, v7, hc, mx, un, p2, p4, c3, c4, ch, i4, i5, ms, mt, mo, me, m3, n3, m4, n4, m5, n5, m6, n6, m7⟩ := H
  have k1 := ms _ hm
  have k2 := mt _ hm
  have k3 := mo _ hm (by simp)
  have k5 := m5 _ hm
  dsimp only at k1 k2 k3 k5
  clear v1 v2 v3 v4 v5 v6 v7 mx un p2 p4 c3 c4 i4 i5 ms mt mo me m3 n3 m4 n4 m5 n5 m6 n6 m7
  refine inv_send H0 hM ?_ ?_ ?_ ?_ ?_ ?_ ?_ ?_ ?_ ?_ ?_ ?_ ?_ <;> dsimp only
  all_goals first | grind
theorem inv_begin {n h : Int} (h1 : 1 ≤ n ∧ n ≤ 8) (h2 : 0 ≤ h ∧ h < n) {f : Int → Ld} (hf : ∀ i, 0 ≤ i → i < n → f i = if i = h then ⟨1, 0, h⟩ else ⟨0, 0, h⟩) : Inv n f (fun _ => False) (fun _ => 0) (fun _ => 0) h := by
  have fh : f h = ⟨1, 0, h⟩ := by rw [hf h h2.1 h2.2, if_pos rfl]
  constructor
  case n1 => exact h1
  case h0 => exact h2
  case hc => rw [fh]; exact Or.inl rfl
  case ch => rw [fh]; intro q; cases q
  case ms => intro m hm; cases hm
  case mt => intro m hm; cases hm
  case mo => intro m hm; cases hm
  case me => intro m hm; cases hm
  case m3 => intro m hm; cases hm
  case n3 => intro m hm; cases hm
  case m4 => intro m hm; cases hm
  case n4 => intro m hm; cases hm
  case m5 => intro m hm; cases hm
  case n5 => intro m hm; cases hm
  case m6 => intro m hm; cases hm
  case n6 => intro m hm; cases hm
  case m7 => intro m hm; cases hm
  all_goals
    intro i i0 i1
    rw [hf i i0 i1]
    by_cases q : i = h
    · subst q; simp [fh]; try omega
    · simp [q, fh]; try omega
end Go.Proofs.Ytnpabeodakncfaa
