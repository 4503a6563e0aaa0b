/- Tables that are alike; tables made by ops are sound. -/
import Derived.Test.YtkejpbfbpomjfabCRdPZ
import Derived.Test.YtkejpbfbpomjfabCSwPZ
namespace Go.Proofs.Ytkejpbfbpomjfab.tre
open Go.RowKit
set_option linter.unusedVariables false

/-- the same rows, the same revision; the trees may stand otherwise -/
structure Alk (T U : Tb) : Prop where
  t : Snd T
  u : Snd U
  list : U.t.list = T.t.list
  rev : U.rev = T.rev
theorem Alk.size {T U : Tb} (h : Alk T U) : U.t.size = T.t.size := by rw [← Tr.list_length, ← Tr.list_length, h.list]
theorem Alk.tsz {T U : Tb} (h : Alk T U) : tSz U = tSz T := by unfold tSz; rw [h.rev, h.size, h.list]
theorem Alk.form {T U : Tb} (h : Alk T U) : tblF U = tblF T := by unfold tblF; rw [h.rev, h.size, h.list]
theorem Alk.fnd {T U : Tb} (h : Alk T U) (o : Opm) : tre.fnd U o = tre.fnd T o := by
  unfold tre.fnd
  rw [Tr.at_list, Tr.at_list, Tr.rank_list _ _ h.t.tok.ok.rise, Tr.rank_list _ _ h.u.tok.ok.rise, Tr.find_list _ _ h.t.tok.ok.rise, Tr.find_list _ _ h.u.tok.ok.rise, h.list]
theorem Alk.rfs {T U : Tb} (h : Alk T U) (o : Opm) : tre.rfs U o = tre.rfs T o := by unfold tre.rfs; rw [h.rev]
theorem Alk.dn {T U : Tb} (h : Alk T U) (o : Opm) : tre.dn U o = tre.dn T o := by unfold tre.dn; rw [h.fnd]
theorem Alk.rvn {T U : Tb} (h : Alk T U) (o : Opm) : tre.rvn U o = tre.rvn T o := by unfold tre.rvn; rw [h.rev]
theorem chg_list {t u : TI} (ht : Rise t.list) (hu : Rise u.list) (h : u.list = t.list) (o : Opm) (r : Nat) : (chg u o r).list = (chg t o r).list := by
  unfold chg
  split
  · rw [set_list ht, set_list hu, h]
  · split
    · rw [(Tr.without_list t _ ht).1, (Tr.without_list u _ hu).1, h]
    · exact h
theorem Snd.zero : Snd ⟨.nil, 0⟩ := ⟨Tok.new, (fun e he => by cases he), List.Pairwise.nil⟩
theorem Snd.nxt {T : Tb} (h : Snd T) {o : Opm} (hr : rfs T o = 0) : Snd (nxt T o) := by
  have hrise := h.tok.ok.rise
  have hsub : ∀ k, (lowL k T.t.list ++ highL k T.t.list).Sublist T.t.list := fun k => by
    rcases row_cases hrise k with ⟨x, -, h2⟩ | ⟨-, h2⟩
    · conv => rhs; rw [h2]
      exact List.Sublist.append (List.Sublist.refl _) (List.sublist_cons_self ..)
    · conv => rhs; rw [h2]
      exact List.Sublist.refl _
  refine ⟨h.tok.nxt hr, fun e he => ?_, ?_⟩
  · unfold tre.nxt at he
    by_cases hd : dn T o = true
    · rw [if_pos hd] at he
      unfold chg at he
      by_cases h24 : o.kind = 2 ∨ o.kind = 4
      · rw [if_pos h24] at he
        simp only at he
        rw [set_list hrise] at he
        rcases List.mem_append.1 he with he | he
        · exact h.key e (List.mem_filter.1 he).1
        · rcases List.mem_cons.1 he with rfl | he
          · simp only
            rw [strB_size]
            have hg := (right_len hr).1
            unfold rgt at hg
            rcases h24 with h2 | h2 <;> simp [h2] at hg <;> omega
          · exact h.key e (List.mem_filter.1 he).1
      · rw [if_neg h24] at he
        by_cases h3 : o.kind = 3
        · rw [if_pos h3] at he
          simp only at he
          rw [(Tr.without_list T.t _ hrise).1] at he
          exact h.key e ((hsub _).subset he)
        · rw [if_neg h3] at he; exact h.key e he
    · rw [if_neg hd] at he
      exact h.key e he
  · have hold : ∀ L : List (ByteArray × VT), L.Sublist T.t.list → (L.map fun e => e.2.2.toNat).Nodup := fun L hL => List.Pairwise.sublist (hL.map _) h.nd
    unfold tre.nxt
    by_cases hd : dn T o = true
    · rw [if_pos hd]
      unfold chg
      by_cases h24 : o.kind = 2 ∨ o.kind = 4
      · rw [if_pos h24]
        simp only
        rw [set_list hrise]
        have hw : wrs o = true := by unfold wrs; simp; omega
        have hnew : ∀ e ∈ T.t.list, e.2.2.toNat ≠ rvn T o := fun e he => by
          have h1 := (h.tok.up e he).2
          have h2 : rvn T o = T.rev + 1 := by unfold rvn; rw [if_pos hw]
          have h3 := (h.tok.up e he).1
          omega
        have hs := hsub (strB o.key)
        have h0 := hold _ hs
        rw [List.map_append] at h0
        rw [List.map_append, List.map_cons]
        obtain ⟨n1, n2, n3⟩ := List.nodup_append.1 h0
        refine List.nodup_append.2 ⟨n1, List.nodup_cons.2 ⟨fun hm => ?_, n2⟩, fun x hx y hy => ?_⟩
        · obtain ⟨e, he, h4⟩ := List.mem_map.1 hm
          simp only [Int.toNat_natCast] at h4
          exact hnew e (hs.subset (List.mem_append_right _ he)) h4
        · rcases List.mem_cons.1 hy with rfl | hy
          · obtain ⟨e, he, h4⟩ := List.mem_map.1 hx
            intro h5
            simp only [Int.toNat_natCast] at h5
            exact hnew e (hs.subset (List.mem_append_left _ he)) (h4.trans h5)
          · exact n3 x hx y hy
      · rw [if_neg h24]
        by_cases h3 : o.kind = 3
        · rw [if_pos h3]
          simp only
          rw [(Tr.without_list T.t _ hrise).1]
          exact hold _ (hsub _)
        · rw [if_neg h3]; exact h.nd
    · rw [if_neg hd]; exact h.nd
theorem Snd.stp {T : Tb} (h : Snd T) (o : Opm) : Snd (stp T o) := by
  unfold tre.stp
  split
  · rename_i hr; exact h.nxt hr
  · exact h
theorem mkT_snd (os : List Opm) : Snd (mkT os) := by
  unfold mkT
  have : ∀ (os : List Opm) (T : Tb), Snd T → Snd (os.foldl tre.stp T) := by
    intro os
    induction os with
    | nil => intro T h; exact h
    | cons o os ih => intro T h; exact ih _ (h.stp o)
  exact this os _ Snd.zero
theorem Alk.nxt {T U : Tb} (h : Alk T U) {o : Opm} (hr : tre.rfs T o = 0) : Alk (nxt T o) (nxt U o) := by
  refine ⟨h.t.nxt hr, h.u.nxt (by rw [h.rfs]; exact hr), ?_, ?_⟩
  · unfold tre.nxt
    rw [h.dn, h.rvn]
    split
    · exact chg_list h.t.tok.ok.rise h.u.tok.ok.rise h.list o _
    · exact h.list
  · unfold tre.nxt
    simp only
    exact h.rvn o
theorem Alk.stp {T U : Tb} (h : Alk T U) (o : Opm) : Alk (stp T o) (stp U o) := by
  unfold tre.stp
  rw [h.rfs]
  split
  · rename_i hr; exact h.nxt hr
  · exact h
end Go.Proofs.Ytkejpbfbpomjfab.tre
