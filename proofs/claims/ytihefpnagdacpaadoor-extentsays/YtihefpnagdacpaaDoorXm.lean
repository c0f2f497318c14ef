/- This text proves plain mathematics of edges: of a sorted list one of each is left, and a set that is made edge by edge is the set that is made place by place; it speaks of no program; no condition. -/
import Derived.Test.YtihefpnagdacpaaDoorX0
import Derived.Test.YtihefpnagdacpaaDoorXs
namespace Go.Proofs.YtihefpnagdacpaaDoor
open Go.Lib

theorem sorted_le {zs : List Int} (h : zs.Pairwise (fun a b => a ≤ b)) {i j : Nat} (hij : i ≤ j) (hj : j < zs.length) : zs.toArray[i]! ≤ zs.toArray[j]! := by
  have e : ∀ k, k < zs.length → zs.toArray[k]! = zs[k]! := fun k hk => by simp
  rw [getElem!_pos zs.toArray i (by simp; omega), getElem!_pos zs.toArray j (by simpa using hj)]
  by_cases he : i = j
  · subst he; exact Int.le_refl _
  · have := List.pairwise_iff_getElem.1 h i j (by omega) hj (by omega)
    simpa using this

theorem compact_upto {zs : List Int} (h : zs.Pairwise (fun a b => a ≤ b)) : ∀ m, m ≤ zs.length → (compactUpTo zs.toArray m).Pairwise (fun a b => a < b) ∧ (∀ x ∈ compactUpTo zs.toArray m, ∃ j, j < m ∧ x = zs.toArray[j]!) ∧ (∀ j, j < m → zs.toArray[j]! ∈ compactUpTo zs.toArray m)
  | 0, _ => ⟨by simp [compactUpTo], fun x hx => by simp [compactUpTo] at hx, fun j hj => absurd hj (Nat.not_lt_zero _)⟩
  | m + 1, hm => by
    obtain ⟨h1, h2, h3⟩ := compact_upto h m (by omega)
    rw [compactUpTo_succ]
    cases hk : keeps zs.toArray m with
    | true =>
      rw [if_pos rfl]
      refine ⟨?_, fun x hx => ?_, fun j hj => ?_⟩
      · rw [List.pairwise_append]
        refine ⟨h1, by simp, fun x hx y hy => ?_⟩
        obtain ⟨j, hj, rfl⟩ := h2 x hx
        obtain rfl := List.mem_singleton.1 hy
        have hne : zs.toArray[m]! ≠ zs.toArray[m - 1]! := by
          intro e
          have : keeps zs.toArray m = false := keeps_neg (by omega) e
          rw [hk] at this; cases this
        have a1 := sorted_le h (i := j) (j := m - 1) (by omega) (by omega)
        have a2 := sorted_le h (i := m - 1) (j := m) (by omega) (by omega)
        omega
      · rcases List.mem_append.1 hx with hx | hx
        · obtain ⟨j, hj, e⟩ := h2 x hx
          exact ⟨j, by omega, e⟩
        · exact ⟨m, by omega, List.mem_singleton.1 hx⟩
      · by_cases e : j = m
        · subst e; simp
        · exact List.mem_append.2 (.inl (h3 j (by omega)))
    | false =>
      rw [if_neg (by simp), List.append_nil]
      refine ⟨h1, fun x hx => ?_, fun j hj => ?_⟩
      · obtain ⟨j, hj, e⟩ := h2 x hx
        exact ⟨j, by omega, e⟩
      · by_cases e : j = m
        · subst e
          have h0 : j ≠ 0 := fun e0 => by
            subst e0
            have := keeps_lt_one zs.toArray 0 (by omega)
            rw [hk] at this; cases this
          have he : zs.toArray[j]! = zs.toArray[j - 1]! := Classical.byContradiction fun hne => by
            have := keeps_pos (d := zs.toArray) (m := j) hne
            rw [hk] at this; cases this
          rw [he]
          exact h3 (j - 1) (by omega)
        · exact h3 j (by omega)

theorem compact_up {zs : List Int} (h : zs.Pairwise (fun a b => a ≤ b)) : (compact zs).Pairwise (fun a b => a < b) ∧ ∀ x, x ∈ compact zs ↔ x ∈ zs := by
  obtain ⟨h1, h2, h3⟩ := compact_upto h zs.length (Nat.le_refl _)
  refine ⟨h1, fun x => ⟨fun hx => ?_, fun hx => ?_⟩⟩
  · obtain ⟨j, hj, rfl⟩ := h2 x hx
    rw [getElem!_pos zs.toArray j (by simpa using hj)]
    simp
  · obtain ⟨j, hj, rfl⟩ := List.mem_iff_getElem.1 hx
    have := h3 j hj
    rw [getElem!_pos zs.toArray j (by simpa using hj)] at this
    have e : zs.toArray[j] = zs[j] := by simp
    rw [e] at this
    exact this
theorem compact_len (zs : List Int) : (compact zs).length ≤ zs.length := by
  unfold compact compactUpTo
  rw [List.length_map]
  refine Nat.le_trans (List.length_filter_le _ _) (by simp)

/-- Where runs begin, and end. -/
def edL : List Rn → List Int
  | [] => []
  | x :: l => x.1 :: (x.1 + x.2) :: edL l
theorem edL_append : ∀ a b : List Rn, edL (a ++ b) = edL a ++ edL b
  | [], _ => rfl
  | x :: a, b => by simp only [List.cons_append, edL, edL_append a b]
theorem edL_len : ∀ l : List Rn, (edL l).length = 2 * l.length
  | [] => rfl
  | x :: l => by simp only [edL, List.length_cons, edL_len l]; omega
theorem edL_mem : ∀ {l : List Rn} {x : Rn}, x ∈ l → x.1 ∈ edL l ∧ x.1 + x.2 ∈ edL l
  | [], x, h => by cases h
  | y :: l, x, h => by
    simp only [edL, List.mem_cons]
    rcases List.mem_cons.1 h with rfl | h
    · exact ⟨.inl rfl, .inr (.inl rfl)⟩
    · have := edL_mem h
      exact ⟨.inr (.inr this.1), .inr (.inr this.2)⟩
theorem edL_in : ∀ {l : List Rn}, (∀ x ∈ l, isR x) → ∀ v ∈ edL l, 0 ≤ v ∧ v ≤ 1000
  | [], _, v, h => by cases h
  | y :: l, hl, v, h => by
    have h1 := hl y (by simp)
    unfold isR at h1
    simp only [edL, List.mem_cons] at h
    rcases h with rfl | rfl | h
    · omega
    · omega
    · exact edL_in (fun x hx => hl x (by simp [hx])) v h

/-- The edges of a set and a run, rising, each once. -/
def edg (l : List Rn) (r : Rn) : List Int := compact (sortI (r.1 :: (r.1 + r.2) :: edL l))
theorem edg_mem (l : List Rn) (r : Rn) (x : Int) : x ∈ edg l r ↔ x ∈ r.1 :: (r.1 + r.2) :: edL l := by
  unfold edg
  rw [(compact_up (sortI_up _)).2, sortI_mem]
theorem edg_up (l : List Rn) (r : Rn) : (edg l r).Pairwise (fun a b => a < b) := (compact_up (sortI_up _)).1
theorem edg_len (l : List Rn) (r : Rn) : 0 < (edg l r).length ∧ (edg l r).length ≤ 2 * l.length + 2 := by
  constructor
  · have := (edg_mem l r r.1).2 (by simp)
    exact List.length_pos_of_mem this
  · unfold edg
    refine Nat.le_trans (compact_len _) ?_
    rw [sortI_len]
    simp only [List.length_cons, edL_len]
    omega
theorem edg_in {l : List Rn} {r : Rn} (hl : ∀ x ∈ l, isR x) (hr : isR r) {v : Int} (h : v ∈ edg l r) : 0 ≤ v ∧ v ≤ 1000 := by
  rw [edg_mem] at h
  unfold isR at hr
  simp only [List.mem_cons] at h
  rcases h with rfl | rfl | h
  · omega
  · omega
  · exact edL_in hl v h
theorem up_lt {es : List Int} (h : es.Pairwise (fun a b => a < b)) {i j : Nat} (hij : i < j) (hj : j < es.length) : nth es i < nth es j := by
  rw [nth_lt (by omega), nth_lt hj]
  exact List.pairwise_iff_getElem.1 h i j (by omega) hj hij
theorem up_side {es : List Int} (h : es.Pairwise (fun a b => a < b)) {i : Nat} (hi : i + 1 < es.length) {v : Int} (hv : v ∈ es) : v ≤ nth es i ∨ nth es (i + 1) ≤ v := by
  obtain ⟨j, hj, rfl⟩ := List.mem_iff_getElem.1 hv
  rw [← nth_lt hj]
  by_cases e : j ≤ i
  · by_cases e2 : j = i
    · subst e2; exact .inl (Int.le_refl _)
    · exact .inl (Int.le_of_lt (up_lt h (by omega) (by omega)))
  · by_cases e2 : j = i + 1
    · subst e2; exact .inr (Int.le_refl _)
    · exact .inr (Int.le_of_lt (up_lt h (by omega) hj))
theorem up_first {es : List Int} (h : es.Pairwise (fun a b => a < b)) {v : Int} (hv : v ∈ es) : nth es 0 ≤ v ∧ v ≤ nth es (es.length - 1) := by
  obtain ⟨j, hj, rfl⟩ := List.mem_iff_getElem.1 hv
  rw [← nth_lt hj]
  constructor
  · by_cases e : j = 0
    · subst e; exact Int.le_refl _
    · exact Int.le_of_lt (up_lt h (by omega) hj)
  · by_cases e : j = es.length - 1
    · rw [← e]; exact Int.le_refl _
    · exact Int.le_of_lt (up_lt h (by omega) (by omega))

theorem memR_same : ∀ {l : List Rn} {p q : Int}, (∀ x ∈ l, inR x p = inR x q) → memR l p = memR l q
  | [], _, _, _ => rfl
  | x :: l, p, q, h => by rw [memR_cons, memR_cons, h x (by simp), memR_same fun y hy => h y (by simp [hy])]

/-- The set, up to an edge. -/
structure EdI (b : Bool → Bool → Bool) (l : List Rn) (r : Rn) (s : List Rn) (i : Nat) : Prop where
  ok : Okc (-1) s
  low : eF (-1) s ≤ nth (edg l r) i
  mem : ∀ p, memR s p = (decide (p < nth (edg l r) i) && b (memR l p) (inR r p))
  len : s.length ≤ i

theorem ed_at {l : List Rn} {r : Rn} {i : Nat} (hi : i + 1 < (edg l r).length) {p : Int} (h1 : nth (edg l r) i ≤ p) (h2 : p < nth (edg l r) (i + 1)) : memR l p = memR l (nth (edg l r) i) ∧ inR r p = inR r (nth (edg l r) i) := by
  have hlt := up_lt (edg_up l r) (show i < i + 1 by omega) hi
  have A : ∀ x : Rn, x.1 ∈ edg l r → x.1 + x.2 ∈ edg l r → inR x p = inR x (nth (edg l r) i) := fun x g1 g2 => by
    have s1 := up_side (edg_up l r) hi g1
    have s2 := up_side (edg_up l r) hi g2
    unfold inR
    rw [decide_eq_decide]
    omega
  refine ⟨memR_same fun x hx => A x ((edg_mem l r _).2 ?_) ((edg_mem l r _).2 ?_), A r ((edg_mem l r _).2 (by simp)) ((edg_mem l r _).2 (by simp))⟩
  · simp [(edL_mem hx).1]
  · simp [(edL_mem hx).2]

theorem EdI.start {b : Bool → Bool → Bool} {l : List Rn} {r : Rn} (hb : b false false = false) (hl : ∀ x ∈ l, isR x) (hr : isR r) : EdI b l r [] 0 := by
  refine ⟨trivial, ?_, fun p => ?_, Nat.le_refl _⟩
  · have := edg_in hl hr (nth_mem (edg_len l r).1)
    show (-1 : Int) ≤ _
    omega
  · by_cases hp : p < nth (edg l r) 0
    · rw [decide_eq_true hp, Bool.true_and]
      have A : ∀ x : Rn, x.1 ∈ edg l r → inR x p = false := fun x g => by
        have := (up_first (edg_up l r) g).1
        exact (inR_false x p).2 (by omega)
      have e1 : memR l p = false := by
        unfold memR
        rw [List.any_eq_false]
        intro x hx
        rw [A x ((edg_mem l r _).2 (by simp [(edL_mem hx).1]))]
        simp
      rw [e1, A r ((edg_mem l r _).2 (by simp)), hb]
      rfl
    · rw [decide_eq_false hp]; rfl

theorem EdI.step {b : Bool → Bool → Bool} {l : List Rn} {r : Rn} {s : List Rn} {i : Nat} (h : EdI b l r s i) (hl : ∀ x ∈ l, isR x) (hr : isR r) (hi : i + 1 < (edg l r).length) :
    (b (memR l (nth (edg l r) i)) (inR r (nth (edg l r) i)) = true → EdI b l r (gro s (nth (edg l r) i) (nth (edg l r) (i + 1))) (i + 1)) ∧
    (b (memR l (nth (edg l r) i)) (inR r (nth (edg l r) i)) = false → EdI b l r s (i + 1)) := by
  have hlt := up_lt (edg_up l r) (show i < i + 1 by omega) hi
  have a1 := edg_in hl hr (nth_mem (show i < (edg l r).length by omega))
  have a2 := edg_in hl hr (nth_mem hi)
  constructor
  · intro ht
    obtain ⟨g1, g2, g3, g4⟩ := gro_ok h.ok h.low hlt a2.2 a1.1
    refine ⟨g1, by rw [g2]; exact Int.le_refl _, fun p => ?_, by have := h.len; omega⟩
    rw [g3, h.mem]
    by_cases p1 : p < nth (edg l r) i
    · rw [decide_eq_true p1, decide_eq_true (show p < nth (edg l r) (i + 1) by omega), (inR_false (nth (edg l r) i, nth (edg l r) (i + 1) - nth (edg l r) i) p).2 (by show ¬ (nth (edg l r) i ≤ p ∧ _); omega)]
      simp
    · by_cases p2 : p < nth (edg l r) (i + 1)
      · obtain ⟨k1, k2⟩ := ed_at hi (by omega) p2
        rw [decide_eq_false p1, decide_eq_true p2, k1, k2, ht, (inR_iff (nth (edg l r) i, nth (edg l r) (i + 1) - nth (edg l r) i) p).2 (by show nth (edg l r) i ≤ p ∧ p < nth (edg l r) i + (nth (edg l r) (i + 1) - nth (edg l r) i); omega)]
        rfl
      · rw [decide_eq_false p1, decide_eq_false p2, (inR_false (nth (edg l r) i, nth (edg l r) (i + 1) - nth (edg l r) i) p).2 (by show ¬ (nth (edg l r) i ≤ p ∧ p < nth (edg l r) i + (nth (edg l r) (i + 1) - nth (edg l r) i)); omega)]
        rfl
  · intro ht
    refine ⟨h.ok, by have := h.low; omega, fun p => ?_, by have := h.len; omega⟩
    rw [h.mem]
    by_cases p1 : p < nth (edg l r) i
    · rw [decide_eq_true p1, decide_eq_true (show p < nth (edg l r) (i + 1) by omega)]
    · by_cases p2 : p < nth (edg l r) (i + 1)
      · obtain ⟨k1, k2⟩ := ed_at hi (by omega) p2
        rw [decide_eq_false p1, decide_eq_true p2, k1, k2, ht]
        rfl
      · rw [decide_eq_false p1, decide_eq_false p2]

theorem EdI.done {b : Bool → Bool → Bool} {l : List Rn} {r : Rn} {s : List Rn} {i : Nat} (h : EdI b l r s i) (hb : b false false = false) (hi : i + 1 = (edg l r).length) : s = bld (chP b l r) 1000 := by
  refine bld_one h.ok fun p _ _ => ?_
  rw [h.mem]
  by_cases hp : p < nth (edg l r) i
  · rw [decide_eq_true hp]; rfl
  · rw [decide_eq_false hp]
    have A : ∀ x : Rn, x.1 + x.2 ∈ edg l r → inR x p = false := fun x g => by
      have := (up_first (edg_up l r) g).2
      rw [show (edg l r).length - 1 = i by omega] at this
      exact (inR_false x p).2 (by omega)
    have e1 : memR l p = false := by
      unfold memR
      rw [List.any_eq_false]
      intro x hx
      rw [A x ((edg_mem l r _).2 (by simp [(edL_mem hx).2]))]
      simp
    unfold chP
    rw [e1, A r ((edg_mem l r _).2 (by simp)), hb]
    rfl

end Go.Proofs.YtihefpnagdacpaaDoor
