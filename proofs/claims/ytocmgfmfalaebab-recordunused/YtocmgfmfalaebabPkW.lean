/- A text of the base. -/
import Derived.Test.YtocmgfmfalaebabPkU
/- RecordForm. -/
namespace Go.Proofs.Ytocmgfmfalaebab
open Go.RowKit

theorem zeroW (w : World) : RecW w zeroP nilL := ⟨Or.inl (Or.inl ⟨rfl, rfl⟩), Or.inl (Or.inl ⟨rfl, rfl⟩), Or.inl (Or.inl ⟨rfl, rfl⟩), by simp [zeroP], by simp [zeroP], by simp [zeroP]⟩
theorem rv_zero : rv zeroP nilL = .agg #[.int .i64 0, .int .i64 0, .int .i64 0, .int .i64 0, .int .i64 0, .int .i64 0, .int .i64 0, .slice none 0 0, .slice none 0 0, .int .i64 0, .slice none 0 0] := rfl
/-- The lists of a sound record are short. -/
theorem snd_len {p : Pl} (h : snd p = true) : p.key.length ≤ 64 ∧ p.val.length ≤ 256 ∧ p.copy.length ≤ 262144 := by
  rcases (snd_iff p).1 h with h | h | h | h
  · obtain ⟨-, -, -, -, h5, -, -, h8⟩ := h
    have := wrt_iff.1 h5
    rw [h8]
    simp
    omega
  · obtain ⟨-, -, -, -, -, -, ⟨-, h1, h2, -⟩, h8⟩ := h
    rw [h1, h2, h8]; simp
  · obtain ⟨-, -, -, -, h5, -, -, ⟨-, h1, h2, -⟩⟩ := h
    rw [h1, h2]; simp; exact h5
  · obtain ⟨-, -, -, -, -, -, ⟨-, h1, h2, -⟩, h8⟩ := h
    rw [h1, h2, h8]; simp
theorem NewR.snd {w W : World} {p : Pl} {l : Lo} (h : NewR w p l W) (hs : snd p = true) : RecW W p l := by
  have := snd_len hs
  exact h.recW (by omega) (by omega) (by omega)

end Go.Proofs.Ytocmgfmfalaebab
