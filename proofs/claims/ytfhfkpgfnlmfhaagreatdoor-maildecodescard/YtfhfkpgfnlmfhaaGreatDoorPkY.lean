/- A text of the base. -/
import Derived.Test.YtfhfkpgfnlmfhaaGreatDoorPkW
import Derived.Test.YtfhfkpgfnlmfhaaGreatDoorPkX
/- Encode. -/
namespace Go.Proofs.YtfhfkpgfnlmfhaaGreatDoor
open Go.RowKit

theorem Wide.far0 {w : World} {v : Value} {bs : List Nat} (h : Wide w v bs) : Far w v bs [] := by
  rcases h with h | h
  · exact Or.inl ⟨h, by simp⟩
  · exact Or.inr h
/-- A message in memory. -/
structure MW (w : World) (p : Ml) (l : Lm) : Prop where
  wide : ∀ o, isT o → Wide w (slT l p o) (getT p o)
  len : ∀ o, isT o → (getT p o).length ≤ 140737488355328
  byt : ∀ o, isT o → ∀ x ∈ getT p o, x < 256
  root : p.root < 18446744073709551616
theorem MW.kept {w w' : World} {p : Ml} {l : Lm} (h : MW w p l) (k : Kept [] w w') : MW w' p l := ⟨fun o ho => (h.wide o ho).kept k, h.len, h.byt, h.root⟩
theorem body_lt {p : Ml} (h : snd p = true) (hr : p.root < 18446744073709551616) (hb : ∀ o, isT o → ∀ x ∈ getT p o, x < 256) : ∀ x ∈ body p, x < 256 := by
  intro x hx
  unfold body encL at hx
  obtain ⟨c, hc, hx⟩ := List.mem_flatMap.1 hx
  have ho := snd_ok h hr c hc
  cases c with
  | byte o => obtain ⟨_, h1, h2⟩ := ho; simp [encP] at hx; omega
  | num o => exact form_byte _ x hx
  | flag => simp [encP] at hx; split at hx <;> omega
  | root => exact le_lt _ _ x hx
  | text o =>
    simp only [encP, List.mem_append] at hx
    rcases hx with hx | hx
    · exact form_byte _ x hx
    · exact hb o ho.1 x hx
theorem enc_len (p : Ml) : (enc p).length = (body p).length + 4 := by unfold enc summed; rw [List.length_append, le_len]
theorem enc_lt {p : Ml} (h : snd p = true) (hr : p.root < 18446744073709551616) (hb : ∀ o, isT o → ∀ x ∈ getT p o, x < 256) : ∀ x ∈ enc p, x < 256 := by
  intro x hx
  unfold enc summed at hx
  rcases List.mem_append.1 hx with hx | hx
  · exact body_lt h hr hb x hx
  · exact le_lt _ _ x hx
/-- What Encode answers. -/
def EncP (w : World) (p : Ml) (e : Ending) (w' : World) : Prop := Kept [] w w' ∧ ((snd p = true ∧ ∃ a cap, e = .returned (.tuple #[.slice a (enc p).length cap, .int .i64 0]) ∧ w'.ownsRow w.heap.size 5 1 (.slice a (enc p).length cap) (enc p).length (u8s (enc p))) ∨ (snd p = false ∧ e = .returned (.tuple #[.slice none 0 0, .int .i64 190])))
theorem Wide.lt {w : World} {v : Value} {bs : List Nat} (h : Wide w v bs) (hn : ∀ a, v ≠ .slice (some a) 0 0) {x : Nat} (hx : v.ownBlock = some x) : x < w.heap.size := by
  rcases h with h | ⟨a, rfl, _⟩
  · exact h.lt hx
  · exact absurd rfl (hn a)
theorem enc_fw {w w2 : World} {bw : Nat} {F3 : List Nat} (hk : Kept [] w w2) (hb : w.heap.size ≤ bw) (hf : ∀ x ∈ F3, x ∈ [bw] ∨ w2.heap.size ≤ x) : ∀ x ∈ F3, w.heap.size ≤ x := by
  intro x hx
  have := hk.size
  rcases hf x hx with h | h
  · simp at h; omega
  · omega
theorem enc_k3 {w w2 w3 : World} {bw : Nat} (hk : Kept [] w w2) (hb : w.heap.size ≤ bw) (k3 : Kept (w.heap.size :: [bw]) w2 w3) : Kept [] w w3 :=
  hk.trans k3 (fun x hx => Or.inr (by simp at hx; omega))
end Go.Proofs.YtfhfkpgfnlmfhaaGreatDoor
