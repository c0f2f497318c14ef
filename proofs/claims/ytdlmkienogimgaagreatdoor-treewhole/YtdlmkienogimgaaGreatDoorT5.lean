/- This text proves what at and spotOf answer: what is at a path, and the spot of a path, or what is wrong; old memory is as it was; the conditions are that the tree lies there, that a text is no longer than texts can be, and that the library's variable internal/bytealg.MaxLen holds some number. -/
import Derived.Test.YtdlmkienogimgaaGreatDoorT4
namespace Go.Proofs.YtdlmkienogimgaaGreatDoor
open Go.RowKit Go.Deep Go.Shelf Go.Maps

theorem fo_cases {L : List Ent} {M : Nat → Option Nat} (hG : Good L M) : ∀ (ks p : List (List UInt8)) (i : Nat), look L p = some i →
    (∃ j, fo L M p i ks = (0, some j) ∧ look L (p ++ ks) = some j) ∨ (∃ e, (e = 3 ∨ e = 5) ∧ fo L M p i ks = (e, none) ∧ look L (p ++ ks) = none)
  | [], p, i, h => .inl ⟨i, rfl, by rw [List.append_nil]; exact h⟩
  | k :: ks, p, i, h => by
    cases hM : M i with
    | none =>
      refine .inr ⟨3, .inl rfl, fo_file hM, ?_⟩
      cases hj : look L (p ++ k :: ks) with
      | none => rfl
      | some j =>
        obtain ⟨d, hd, hm⟩ := hG.above (k :: ks) p j (by simp) (look_mem hj)
        rw [hG.uni.same hd (look_mem h), hM] at hm
        cases hm
    | some m =>
      have e : p ++ k :: ks = (p ++ [k]) ++ ks := by simp
      cases hl : look L (p ++ [k]) with
      | none =>
        refine .inr ⟨5, .inr rfl, fo_none hM hl, ?_⟩
        cases hj : look L (p ++ k :: ks) with
        | none => rfl
        | some j =>
          rw [e] at hj
          obtain ⟨d, hd⟩ := hG.upto ks (p ++ [k]) j (look_mem hj)
          exact absurd hd (look_none.1 hl d)
      | some j =>
        rw [fo_some hM hl, e]
        exact fo_cases hG ks (p ++ [k]) j hl
theorem atF_cases {L : List Ent} {M : Nat → Option Nat} (hG : Good L M) (ns : List (List UInt8)) :
    (∃ j, atF L M ns = (0, some j) ∧ look L ns = some j) ∨ (∃ e, (e = 3 ∨ e = 5) ∧ atF L M ns = (e, none) ∧ look L ns = none) :=
  fo_cases hG ns [] _ (root_look hG)

/-- What is at the path of a text. -/
def atS (L : List Ent) (M : Nat → Option Nat) (l : List UInt8) : Nat × Option Nat := if pE l = 0 then atF L M (pN l) else (pE l, none)

/-- The spot of a text's path. -/
def spE (L : List Ent) (M : Nat → Option Nat) (l : List UInt8) : Nat :=
  if pE l ≠ 0 then pE l else if pN l = [] then 7 else if (atF L M (pN l).dropLast).1 ≠ 0 then (atF L M (pN l).dropLast).1 else if M ((atF L M (pN l).dropLast).2.getD 0) = none then 3 else 0
def lastN (l : List UInt8) : List UInt8 := (pN l).getLast?.getD []
def noSpot : Value := .agg #[.pointer none, .string ⟨#[]⟩, .int .i64 0]
def spV (L : List Ent) (M : Nat → Option Nat) (l : List UInt8) : Value :=
  if spE L M l = 0 then .agg #[ptr ((atF L M (pN l).dropLast).2.getD 0), .string (bs (lastN l)), .int .i64 ((pN l).length : Int)] else noSpot

theorem spE_zero {L : List Ent} {M : Nat → Option Nat} (hG : Good L M) {l : List UInt8} (h : spE L M l = 0) :
    ∃ q k d m, pE l = 0 ∧ pN l = q ++ [k] ∧ isN k = true ∧ look L q = some d ∧ M d = some m ∧ spV L M l = .agg #[ptr d, .string (bs k), .int .i64 ((q.length : Int) + 1)] := by
  have h0 := h
  unfold spE at h
  split at h
  · rename_i h1; exact absurd h h1
  · rename_i h1
    have h1' : pE l = 0 := by simpa using h1
    split at h
    · cases h
    · rename_i h2
      split at h
      · rename_i h3; exact absurd h h3
      · rename_i h3
        split at h
        · cases h
        · rename_i h4
          have hc : pN l = (pN l).dropLast ++ [(pN l).getLast h2] := (List.dropLast_concat_getLast h2).symm
          rcases atF_cases hG (pN l).dropLast with ⟨j, hj, hl⟩ | ⟨e, he, hj, hl⟩
          · rw [hj] at h4
            simp only [Option.getD_some] at h4
            cases hm : M j with
            | none => exact absurd hm h4
            | some m =>
              refine ⟨_, _, j, m, h1', hc, fol_names _ _ (List.getLast_mem h2), hl, hm, ?_⟩
              unfold spV lastN
              rw [if_pos h0, hj, List.getLast?_eq_some_getLast h2]
              have : ((pN l).length : Int) = ((pN l).dropLast.length : Int) + 1 := by
                have := congrArg List.length hc
                rw [List.length_append, List.length_singleton] at this
                omega
              rw [this]; rfl
          · rw [hj] at h3
            rcases he with rfl | rfl <;> simp at h3

set_option maxHeartbeats 4000000 in
theorem at_any (w : World) (base t : Nat) (L : List Ent) (M : Nat → Option Nat) (h : TreeAt w base t L M) (s : ByteArray) (hs : s.size ≤ maxLen) (hm : Mx w) :
    Calls Tryz.prog 39 #[ptr t, .string s] w fun e w' => e = .returned (.tuple #[valO (atS L M s.data.toList).2, errV (atS L M s.data.toList).1]) ∧ Below w.heap.size w w' := by
  have HP : Hid _ := fun (_ : Nat) => parts_any w s hs hm
  have HT : Hid (TreeAt w base t L M) := h
  clear h hs hm
  unfold ptr
  by_cases he : pE s.data.toList = 0
  · have HA : Hid (atS L M s.data.toList = atF L M (nms s.data.toList)) := by show atS L M s.data.toList = atF L M (nms s.data.toList); unfold atS nms; rw [if_pos he, if_pos he]
    have HN : Hid (∀ k ∈ nms s.data.toList, k.length ≤ 1000) := by
      show ∀ k ∈ nms s.data.toList, k.length ≤ 1000
      intro k hk
      unfold nms at hk
      rw [if_pos he] at hk
      have := isN_len (fol_names _ k hk)
      omega
    rw [he, errV_zero] at HP
    rw [HA.out]
    generalize nms s.data.toList = ns at *
    clear he HA
    obtain ⟨R, hR⟩ : ∃ R, atF L M ns = R := ⟨_, rfl⟩
    have HF : Hid _ := fun (w' : World) (v : Value) (hb : Below w.heap.size w w') (hv : StrsIs w' v ns) => follow_any w' base t L M (HT.out.later hb) v ns hv HN.out
    rw [hR] at HF ⊢
    unfold ptr at HF
    clear hR
    obtain ⟨R1, R2⟩ := R
    generalize valO R2 = V at *
    generalize errV R1 = E at *
    go_enter Tryz.func39, Tryz.ntmps39
    go_wp2_with (first
      | (go_at_call 9; refine (HP.out 0).mono ?_; rintro e w' ⟨v, rfl, hv, hb⟩)
      | (go_at_call 67; refine (HF.out _ _ hb hv).mono ?_; rintro e w' ⟨rfl, rfl⟩))
    go_ret2
    exact ⟨rfl, hb⟩
  · have HA : Hid (atS L M s.data.toList = (pE s.data.toList, none)) := if_neg he
    rw [errV_pos he] at HP
    rw [HA.out]
    simp only [valO]
    rw [errV_pos he]
    generalize pE s.data.toList = E at *
    clear HA he
    go_enter Tryz.func39, Tryz.ntmps39
    go_wp2_with (go_at_call 9; refine (HP.out 0).mono ?_; rintro e w' ⟨v, rfl, hv, hb⟩)
    go_ret2
    exact ⟨rfl, hb⟩

end Go.Proofs.YtdlmkienogimgaaGreatDoor
