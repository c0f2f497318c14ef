/- This text proves what Dir, File, Link and Drop do: a name more, or less, or what is wrong is told; nothing is turned but one directory's map; the conditions are that the tree lies there. -/
import Derived.Test.YtdlmkienogimgaaGreatDoorT15
namespace Go.Proofs.YtdlmkienogimgaaGreatDoor
open Go.RowKit Go.Deep Go.Shelf Go.Maps

theorem fo_congr {L : List Ent} {M M' : Nat → Option Nat} (he : ∀ p i, (p, i) ∈ L → M' i = M i) : ∀ (ks p : List (List UInt8)) (i : Nat), (p, i) ∈ L → fo L M' p i ks = fo L M p i ks
  | [], _, _, _ => rfl
  | k :: ks, p, i, hi => by
    have e := he p i hi
    cases hM : M i with
    | none => rw [fo_file hM, fo_file (by rw [e, hM])]
    | some m =>
      cases hl : look L (p ++ [k]) with
      | none => rw [fo_none hM hl, fo_none (by rw [e, hM]) hl]
      | some j => rw [fo_some hM hl, fo_some (by rw [e, hM]) hl, fo_congr he ks _ j (look_mem hl)]
theorem atF_congr {L : List Ent} {M M' : Nat → Option Nat} (hG : Good L M) (he : ∀ p i, (p, i) ∈ L → M' i = M i) (ns : List (List UInt8)) : atF L M' ns = atF L M ns :=
  fo_congr he ns [] _ (look_mem (root_look hG))
theorem spE_congr {L : List Ent} {M M' : Nat → Option Nat} (hG : Good L M) (he : ∀ p i, (p, i) ∈ L → M' i = M i) (l : List UInt8) : spE L M' l = spE L M l := by
  unfold spE
  rw [atF_congr hG he]
  rcases atF_cases hG (pN l).dropLast with ⟨j, hj, hl⟩ | ⟨e, hee, hj, hl⟩
  · rw [hj, Option.getD_some, he _ j (look_mem hl)]
  · rw [hj]
    have : e ≠ 0 := by rcases hee with rfl | rfl <;> decide
    simp [this]
theorem puE_congr {L : List Ent} {M M' : Nat → Option Nat} (hG : Good L M) (he : ∀ p i, (p, i) ∈ L → M' i = M i) (l : List UInt8) : puE L M' l = puE L M l := by
  unfold puE frE
  rw [spE_congr hG he]
theorem TreeAt.congrM {w : World} {base t : Nat} {L : List Ent} {M M' : Nat → Option Nat} (h : TreeAt w base t L M) (he : ∀ p i, (p, i) ∈ L → M' i = M i) : TreeAt w base t L M' :=
  ⟨h.good.congr he, h.low, h.tree, fun p i hi => by rw [he p i hi]; exact h.node p i hi, fun p i m hi hm => h.maps p i m hi (by rw [← he p i hi]; exact hm), fun p i q j m hi hj h1 h2 => h.apart p i q j m hi hj (by rw [← he p i hi]; exact h1) (by rw [← he q j hj]; exact h2)⟩

/-- A new thing has a name, or what is wrong is told. -/
def MkS (dir : Bool) (L : List Ent) (M : Nat → Option Nat) (s : List UInt8) (e : Nat) (L' : List Ent) (M' : Nat → Option Nat) : Prop :=
  e = puE L M s ∧ ∃ i, (∀ x, (x, i) ∉ L) ∧ (M' i).isSome = dir ∧ (∀ j, j ≠ i → M' j = M j) ∧ L' = if puE L M s = 0 then L ++ [(pN s, i)] else L

theorem not_old {w : World} {base t i : Nat} {L : List Ent} {M : Nat → Option Nat} (h : TreeAt w base t L M) (hi : w.heap.size ≤ i) (x : List (List UInt8)) : (x, i) ∉ L := fun hx => by
  have := (h.node x i hx).1.lt
  omega

/-- One thing more. -/
def ext (M : Nat → Option Nat) (i : Nat) (o : Option Nat) (j : Nat) : Option Nat := if j = i then o else M j
theorem ext_same (M : Nat → Option Nat) (i : Nat) (o : Option Nat) : ext M i o i = o := if_pos rfl
theorem ext_other {M : Nat → Option Nat} {i j : Nat} {o : Option Nat} (h : j ≠ i) : ext M i o j = M j := if_neg h

/-- A new thing's name. -/
theorem put_new (w w1 : World) (base t i : Nat) (o : Option Nat) (L : List Ent) (M : Nat → Option Nat) (h : TreeAt w base t L M) (s : ByteArray) (hs : s.size ≤ maxLen) (hm : Mx w) (hbw : base ≤ w.heap.size) (hb : Below w.heap.size w w1) (hi : w.heap.size ≤ i)
    (hn : NodeAt w1 i o) (hmap : ∀ mi, o = some mi → MapIs w1 mi (fun _ => none) ∧ w.heap.size ≤ mi) :
    Calls Tryz.prog 41 #[ptr t, .string s, ptr i] w1 fun e w' => ∃ n L' M', e = .returned (errV n) ∧ MkS o.isSome L M s.data.toList n L' M' ∧ TreeAt w' base t L' M' ∧ Turned base w w' := by
  have he : ∀ p j, (p, j) ∈ L → ext M i o j = M j := fun p j hj => ext_other (by have := (h.node p j hj).1.lt; omega)
  have hT := (h.later hb).congrM he
  have hnew := fun x => not_old h hi x
  have hz := hb.size
  refine (put_any _ base t i L _ hT s hs (hm.later hb) (by omega) (.inr hnew) ⟨by rw [ext_same]; exact hn, by omega⟩ (fun mi hmi => ?_)).mono ?_
  · rw [ext_same] at hmi
    obtain ⟨g1, g2⟩ := hmap mi hmi
    refine ⟨g1, by omega, fun x j hx e => ?_⟩
    rw [he x j hx] at e
    have := (h.maps x j _ hx e).1.lt
    omega
  · rintro e w' ⟨rfl, g1, g2⟩
    refine ⟨_, _, _, rfl, ⟨puE_congr h.good he _, i, hnew, by rw [ext_same], fun j hj => ext_other hj, rfl⟩, ?_, (Turned.of_below hb hbw).trans g2⟩
    unfold puL at g1
    rw [puE_congr h.good he] at g1
    exact g1

set_option maxHeartbeats 2000000 in
set_option maxRecDepth 100000 in
theorem dir_any (w : World) (base t : Nat) (L : List Ent) (M : Nat → Option Nat) (h : TreeAt w base t L M) (s : ByteArray) (hs : s.size ≤ maxLen) (hm : Mx w) (hbw : base ≤ w.heap.size) :
    Calls Tryz.prog 14 #[ptr t, .string s] w fun e w' => ∃ n L' M', e = .returned (errV n) ∧ MkS true L M s.data.toList n L' M' ∧ TreeAt w' base t L' M' ∧ Turned base w w' := by
  have HP : Hid (∀ w1, w1 = (w.alloc (.map #[] 0)).alloc (.cells #[.map (some w.heap.size)] 77) → Calls Tryz.prog 41 #[ptr t, .string s, ptr (w.heap.size + 1)] w1 fun e w' => ∃ n L' M', e = .returned (errV n) ∧ MkS true L M s.data.toList n L' M' ∧ TreeAt w' base t L' M' ∧ Turned base w w') := by
    show ∀ w1, _ → _
    rintro w1 rfl
    have hmade := MapIs.made w
    refine put_new w _ base t (w.heap.size + 1) (some w.heap.size) L M h s hs hm hbw ((below_alloc w _).trans ((below_alloc _ _).mono (by simp))) (by omega) (boxed_two _ _ _ _) fun mi e => ?_
    cases e
    exact ⟨hmade.block ((below_alloc (w.alloc (.map #[] 0)) _).block _ (by simp)), Nat.le_refl _⟩
  unfold ptr at HP ⊢
  go_enter Tryz.func14, Tryz.ntmps14
  go_wp2_with (first
    | (go_at_call 45; refine (newDir_any _).mono ?_; unfold ptr; rintro e w1 ⟨rfl, rfl⟩)
    | (go_at_call 41; refine (HP.out _ rfl).mono ?_; rintro e w2 ⟨n, L', M', rfl, k1, k2, k3⟩))
  go_ret
  exact ⟨n, L', M', rfl, k1, k2, k3⟩

set_option maxHeartbeats 2000000 in
set_option maxRecDepth 100000 in
theorem file_any (w : World) (base t : Nat) (L : List Ent) (M : Nat → Option Nat) (h : TreeAt w base t L M) (s : ByteArray) (hs : s.size ≤ maxLen) (hm : Mx w) (hbw : base ≤ w.heap.size) :
    Calls Tryz.prog 12 #[ptr t, .string s] w fun e w' => ∃ n L' M', e = .returned (errV n) ∧ MkS false L M s.data.toList n L' M' ∧ TreeAt w' base t L' M' ∧ Turned base w w' := by
  have HP : Hid (∀ w1, w1 = w.alloc (.cells #[.map none] 77) → Calls Tryz.prog 41 #[ptr t, .string s, ptr w.heap.size] w1 fun e w' => ∃ n L' M', e = .returned (errV n) ∧ MkS false L M s.data.toList n L' M' ∧ TreeAt w' base t L' M' ∧ Turned base w w') := by
    show ∀ w1, _ → _
    rintro w1 rfl
    refine put_new w _ base t w.heap.size none L M h s hs hm hbw (below_alloc w _) (Nat.le_refl _) (Boxed.new w _ _) fun mi e => ?_
    cases e
  unfold ptr at HP ⊢
  go_enter Tryz.func12, Tryz.ntmps12
  go_wp2_with (first
    | (go_at_call 41; refine (HP.out _ rfl).mono ?_; rintro e w2 ⟨n, L', M', rfl, k1, k2, k3⟩))
  go_ret
  exact ⟨n, L', M', rfl, k1, k2, k3⟩

end Go.Proofs.YtdlmkienogimgaaGreatDoor
