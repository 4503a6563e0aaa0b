/- A writer with its blocks as one set: every call, whatever its state. -/
import Derived.Test.YtiabhgkndejigabPS
namespace Go.Proofs.Ytiabhgkndejigab
open Go.RowKit

/-- In w there is a writer at block b in the state s; F: its blocks. -/
def Ws (w : World) (b : Nat) (F : List Nat) (s : WS) : Prop := ∃ v sv, Wr w b s v sv ∧ F = foot b v sv
def WsP (w : World) (b : Nat) (F : List Nat) (s' : WS) (w' : World) : Prop := ∃ F', Ws w' b F' s' ∧ Kept F w w' ∧ ∀ x ∈ F', x ∈ F ∨ w.heap.size ≤ x

theorem WsP.of {w w' : World} {b : Nat} {v sv : Value} {s' : WS} (h : WPost w b v sv s' w') : WsP w b (foot b v sv) s' w' := by
  obtain ⟨v', sv', h1, h2, h3⟩ := h
  exact ⟨_, ⟨v', sv', h1, rfl⟩, h2, h3⟩
theorem Ws.lt {w : World} {b : Nat} {F : List Nat} {s : WS} (h : Ws w b F s) : ∀ x ∈ F, x < w.heap.size := by
  obtain ⟨v, sv, h1, rfl⟩ := h; exact foot_lt h1
theorem Ws.mem {w : World} {b : Nat} {F : List Nat} {s : WS} (h : Ws w b F s) : b ∈ F := by
  obtain ⟨v, sv, h1, rfl⟩ := h; simp [foot]
theorem Ws.kept {G : List Nat} {w w' : World} {b : Nat} {F : List Nat} {s : WS} (h : Ws w b F s) (k : Kept G w w') (hF : ∀ x ∈ F, x ∉ G) : Ws w' b F s := by
  obtain ⟨v, sv, h1, rfl⟩ := h; exact ⟨v, sv, h1.kept k hF, rfl⟩
theorem WsP.from {w W w' : World} {b : Nat} {F : List Nat} {s' : WS} (k : Kept [] w W) (h : WsP W b F s' w') : WsP w b F s' w' := by
  obtain ⟨F', h1, h2, h3⟩ := h
  refine ⟨F', h1, (k.mono (by simp)).trans h2 (fun x hx => Or.inl hx), fun x hx => ?_⟩
  rcases h3 x hx with h | h
  · exact Or.inl h
  · right; have := k.size; omega

theorem wdone_okS {w : World} {b : Nat} {F : List Nat} {s : WS} (h : Ws w b F s) (hf : s.fault = 0) (hs : s.sts = []) :
    Calls Try.prog 16 #[.pointer (some ⟨b, 0, none⟩)] w fun e w' => ∃ a cap, e = .returned (.tuple #[.slice a s.bs.length cap, .int .i64 0]) ∧ w'.ownsRow w.heap.size 5 1 (.slice a s.bs.length cap) s.bs.length (u8s s.bs) ∧ Kept [] w w' := by
  obtain ⟨v, sv, h1, rfl⟩ := h
  exact wdone_ok h1 hf hs
theorem wdone_faultS {w : World} {b : Nat} {F : List Nat} {s : WS} (h : Ws w b F s) (hf : s.fault ≠ 0) :
    Calls Try.prog 16 #[.pointer (some ⟨b, 0, none⟩)] w fun e w' => e = .returned (.tuple #[.slice none 0 0, .int .i64 (s.fault : Int)]) ∧ ∃ m, w' = w.drewN m := by
  obtain ⟨v, sv, h1, rfl⟩ := h
  exact wdone_fault h1 hf

set_option maxRecDepth 100000 in
set_option maxHeartbeats 400000 in
theorem wlen_fault {w : World} {b : Nat} {F : List Nat} {s : WS} (h : Ws w b F s) (hf : s.fault ≠ 0) :
    Calls Try.prog 30 #[.pointer (some ⟨b, 0, none⟩)] w fun e w' => e = .returned (.int .i64 0) ∧ w = w' := by
  obtain ⟨v, sv, h1, rfl⟩ := h
  have HH := hide h1
  clear h1
  go_enter Try.func30, Try.ntmps30
  go_wp2_with (first | (go_at_call 49; refine (fails_yes (unhide HH) hf).mono ?_; rintro e w' ⟨rfl, rfl⟩))
  go_ret
  exact ⟨rfl, rfl⟩

theorem tlay_s {w : World} {b : Nat} {F : List Nat} {s : WS} (h : Ws w b F s) (t : Th) (ok : t.ok) (hS : Far w t.pv t.p F) (hl : s.bs.length ≤ 1000000000000) (hp : t.p.length ≤ 1000000000000) (hst : ∀ x ∈ s.sts, x ≤ s.bs.length) :
    Calls Try.prog 15 #[t.val, .pointer (some ⟨b, 0, none⟩)] w fun e w' => e = .returned (.tuple #[]) ∧ WsP w b F (t.lay s) w' := by
  obtain ⟨v, sv, h1, rfl⟩ := h
  refine (tlay_any h1 t ok hS hl hp hst).mono ?_
  rintro e w' ⟨rfl, hp⟩
  exact ⟨rfl, WsP.of hp⟩
theorem wopen_s {w : World} {b : Nat} {F : List Nat} {s : WS} (h : Ws w b F s) :
    Calls Try.prog 18 #[.pointer (some ⟨b, 0, none⟩)] w fun e w' => e = .returned (.tuple #[]) ∧ WsP w b F (wOpen s) w' := by
  obtain ⟨v, sv, h1, rfl⟩ := h
  refine (wopen_any h1).mono ?_
  rintro e w' ⟨rfl, hp⟩
  exact ⟨rfl, WsP.of hp⟩
theorem wclose_s {w : World} {b : Nat} {F : List Nat} {s : WS} (h : Ws w b F s) (hst : ∀ x ∈ s.sts, x ≤ s.bs.length) (hl : s.bs.length ≤ 1000000000000) :
    Calls Try.prog 20 #[.pointer (some ⟨b, 0, none⟩)] w fun e w' => e = .returned (.tuple #[]) ∧ WsP w b F (wClose s) w' := by
  obtain ⟨v, sv, h1, rfl⟩ := h
  refine (wclose_any h1 hst hl).mono ?_
  rintro e w' ⟨rfl, hp⟩
  exact ⟨rfl, WsP.of hp⟩
theorem wbyte_outS {w : World} {b : Nat} {F : List Nat} {s : WS} (h : Ws w b F s) (n : Int) (hn : n < 0 ∨ 255 < n) :
    Calls Try.prog 26 #[.pointer (some ⟨b, 0, none⟩), .int .i64 n] w fun e w' => e = .returned (.tuple #[]) ∧ WsP w b F (wFail s 2) w' := by
  obtain ⟨v, sv, h1, rfl⟩ := h
  refine (wbyte_out h1 n hn).mono ?_
  rintro e w' ⟨rfl, hp⟩
  exact ⟨rfl, WsP.of hp⟩
theorem wfixed_outS {w : World} {b : Nat} {F : List Nat} {s : WS} (h : Ws w b F s) (n : Nat) (size : Int) (hn : size < 1 ∨ 8 < size) :
    Calls Try.prog 27 #[.pointer (some ⟨b, 0, none⟩), .int .u64 n, .int .i64 size] w fun e w' => e = .returned (.tuple #[]) ∧ WsP w b F (wFail s 2) w' := by
  obtain ⟨v, sv, h1, rfl⟩ := h
  refine (wfixed_out h1 n size hn).mono ?_
  rintro e w' ⟨rfl, hp⟩
  exact ⟨rfl, WsP.of hp⟩
theorem wraw_s {w : World} {b : Nat} {F : List Nat} {s : WS} (h : Ws w b F s) (pv : Value) (ps : List Nat) (hp : Far w pv ps F) (hl : s.bs.length + ps.length ≤ 70368744177664) :
    Calls Try.prog 19 #[.pointer (some ⟨b, 0, none⟩), pv] w fun e w' => e = .returned (.tuple #[]) ∧ WsP w b F (wLay s ps) w' := by
  obtain ⟨v, sv, h1, rfl⟩ := h
  refine (wraw_anyE h1 pv ps hp hl).mono ?_
  rintro e w' ⟨rfl, hp⟩
  exact ⟨rfl, WsP.of hp⟩
theorem new_s (room : Nat) (w : World) (hr : room < 9223372036854775808) :
    Calls Try.prog 10 #[.int .i64 room] w fun e w' => ∃ b, e = .returned (.pointer (some ⟨b, 0, none⟩)) ∧ Ws w' b [b] (newWS room) ∧ w.heap.size ≤ b ∧ Kept [] w w' := by
  refine (new_any room w hr).mono ?_
  rintro e w' ⟨b, rfl, h2, h1, h3⟩
  exact ⟨b, rfl, ⟨nilS, nilS, h1, rfl⟩, h2, h3⟩
end Go.Proofs.Ytiabhgkndejigab
