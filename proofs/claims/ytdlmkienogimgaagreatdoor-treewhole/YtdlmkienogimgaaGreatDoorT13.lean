/- This text proves plain facts on trees of names as lists of paths: what is there with a name more, with one less, and with one moved; it speaks of no call; no condition. -/
import Derived.Test.YtdlmkienogimgaaGreatDoorT0
namespace Go.Proofs.YtdlmkienogimgaaGreatDoor
open Go.Lib

theorem Good.congr {L : List Ent} {M M' : Nat → Option Nat} (h : Good L M) (he : ∀ p i, (p, i) ∈ L → M' i = M i) : Good L M' := by
  obtain ⟨r, t, rfl, hr⟩ := h.root
  refine ⟨h.uni, ⟨r, t, rfl, by rw [he [] r (by simp)]; exact hr⟩, h.nam, fun p k i hi => ?_, fun p q i hp hq hm => h.one p q i hp hq (by rw [← he p i hp]; exact hm), h.few⟩
  obtain ⟨d, hd, hm⟩ := h.up p k i hi
  exact ⟨d, hd, by rw [he p d hd]; exact hm⟩

theorem look_eq {L L' : List Ent} {p p' : List (List UInt8)} (hu' : Uni L') (h : ∀ i, (p', i) ∈ L' ↔ (p, i) ∈ L) : look L' p' = look L p := by
  cases e : look L p with
  | none =>
    rw [look_none]
    intro i hi
    exact look_none.1 e i ((h i).1 hi)
  | some j => exact hu'.look.2 ((h j).2 (look_mem e))

/-! ### a name more -/
theorem put_uni {L : List Ent} {p : List (List UInt8)} {i : Nat} (hu : Uni L) (hp : look L p = none) : Uni (L ++ [(p, i)]) := by
  unfold Uni
  rw [List.pairwise_append]
  refine ⟨hu, by simp, fun x hx y hy e => ?_⟩
  rw [List.mem_singleton] at hy
  subst hy
  exact look_none.1 hp x.2 (by rw [← show x.1 = p from e]; exact hx)
theorem put_look {L : List Ent} {p x : List (List UInt8)} {i : Nat} (hu : Uni L) (hp : look L p = none) : look (L ++ [(p, i)]) x = if x = p then some i else look L x := by
  have hu' := put_uni (i := i) hu hp
  split
  · rename_i e
    subst e
    exact hu'.look.2 (by simp)
  · rename_i e
    refine look_eq hu' fun j => ?_
    simp [e]

theorem put_good {L : List Ent} {M : Nat → Option Nat} (h : Good L M) {q : List (List UInt8)} {k : List UInt8} {d i : Nat} (hq : look L q = some d) (hd : (M d).isSome = true) (hp : look L (q ++ [k]) = none) (hk : isN k = true) (hl : q.length + 1 ≤ 8) (hf : L.length ≤ 24)
    (hi : M i = none ∨ ∀ x, (x, i) ∉ L) : Good (L ++ [(q ++ [k], i)]) M := by
  obtain ⟨r, t, hL, hr⟩ := h.root
  have hmem : ∀ x j, (x, j) ∈ L ++ [(q ++ [k], i)] → (x, j) ∈ L ∨ (x = q ++ [k] ∧ j = i) := fun x j hx => by
    rcases List.mem_append.1 hx with hx | hx
    · exact .inl hx
    · rw [List.mem_singleton] at hx
      cases hx
      exact .inr ⟨rfl, rfl⟩
  refine ⟨put_uni h.uni hp, ⟨r, t ++ [(q ++ [k], i)], by rw [hL]; rfl, hr⟩, fun x j hx => ?_, fun x c j hx => ?_, fun x y j hx hy hm => ?_, by simp; omega⟩
  · rcases hmem x j hx with hx | ⟨rfl, rfl⟩
    · exact h.nam x j hx
    · refine ⟨by simp; omega, fun c hc => ?_⟩
      rcases List.mem_append.1 hc with hc | hc
      · exact (h.nam q d (look_mem hq)).2 c hc
      · rw [List.mem_singleton.1 hc]; exact hk
  · rcases hmem _ j hx with hx1 | ⟨hx1, _⟩
    · obtain ⟨d', hd', hm⟩ := h.up x c j hx1
      exact ⟨d', List.mem_append_left _ hd', hm⟩
    · obtain ⟨rfl, _⟩ := List.append_inj' hx1 rfl
      exact ⟨d, List.mem_append_left _ (look_mem hq), hd⟩
  · have hni : ∀ z, (z, j) ∈ L → j ≠ i := fun z hz e => by
      subst e
      rcases hi with hi | hi
      · rw [hi] at hm; cases hm
      · exact hi z hz
    rcases hmem x j hx with hx1 | ⟨hx1, hx2⟩
    · rcases hmem y j hy with hy1 | ⟨_, hy2⟩
      · exact h.one x y j hx1 hy1 hm
      · exact absurd hy2 (hni x hx1)
    · rcases hmem y j hy with hy1 | ⟨hy1, _⟩
      · exact absurd hx2 (hni y hy1)
      · rw [hx1, hy1]

/-! ### a name less -/
def cutL (L : List Ent) (p : List (List UInt8)) : List Ent := L.filter fun x => decide (x.1 ≠ p)
theorem mem_cutL {L : List Ent} {p : List (List UInt8)} {x : Ent} : x ∈ cutL L p ↔ x ∈ L ∧ x.1 ≠ p := by simp [cutL]
theorem cut_uni {L : List Ent} (p : List (List UInt8)) (hu : Uni L) : Uni (cutL L p) := List.Pairwise.filter _ hu
theorem cut_look {L : List Ent} {p x : List (List UInt8)} (hu : Uni L) : look (cutL L p) x = if x = p then none else look L x := by
  split
  · rename_i e
    rw [look_none]
    intro i hi
    exact (mem_cutL.1 hi).2 e
  · rename_i e
    exact look_eq (cut_uni p hu) fun j => by rw [mem_cutL]; exact ⟨fun h => h.1, fun h => ⟨h, e⟩⟩
theorem cut_good {L : List Ent} {M : Nat → Option Nat} (h : Good L M) {p : List (List UInt8)} (hp : p ≠ []) (hk : kids L p = []) : Good (cutL L p) M := by
  obtain ⟨r, t, rfl, hr⟩ := h.root
  refine ⟨cut_uni p h.uni, ⟨r, cutL t p, by simp [cutL, Ne.symm hp], hr⟩, fun x j hx => h.nam x j (mem_cutL.1 hx).1, fun x c j hx => ?_, fun x y j hx hy => h.one x y j (mem_cutL.1 hx).1 (mem_cutL.1 hy).1, ?_⟩
  · obtain ⟨d, hd, hm⟩ := h.up x c j (mem_cutL.1 hx).1
    refine ⟨d, mem_cutL.2 ⟨hd, fun e => ?_⟩, hm⟩
    have e' : x = p := e
    subst e'
    have : c ∈ kids (([], r) :: t) x := mem_kids.2 ⟨j, (mem_cutL.1 hx).1⟩
    rw [hk] at this
    cases this
  · exact Nat.le_trans (List.length_filter_le _ _) h.few
theorem cut_len {L : List Ent} (hu : Uni L) {p : List (List UInt8)} {i : Nat} (hp : look L p = some i) : (cutL L p).length + 1 = L.length := by
  have hm := look_mem hp
  obtain ⟨a, b, rfl⟩ := List.append_of_mem hm
  unfold Uni at hu
  rw [List.pairwise_append, List.pairwise_cons] at hu
  obtain ⟨_, ⟨h2, _⟩, h3⟩ := hu
  have e1 : cutL a p = a := List.filter_eq_self.2 fun x hx => by simpa using h3 x hx (p, i) (by simp)
  have e2 : cutL b p = b := List.filter_eq_self.2 fun x hx => by simpa using Ne.symm (h2 x hx)
  unfold cutL at e1 e2 ⊢
  rw [List.filter_append, List.filter_cons, if_neg (by simp), e1, e2]
  simp; omega

/-! ### a name moved -/
def mv (p p2 x : List (List UInt8)) : List (List UInt8) := if p <+: x then p2 ++ x.drop p.length else x
def movL (L : List Ent) (p p2 : List (List UInt8)) : List Ent := L.map fun x => (mv p p2 x.1, x.2)
theorem mv_under (p p2 u : List (List UInt8)) : mv p p2 (p ++ u) = p2 ++ u := by
  unfold mv; rw [if_pos (List.prefix_append _ _), List.drop_left]
theorem mv_off {p p2 x : List (List UInt8)} (h : ¬ p <+: x) : mv p p2 x = x := if_neg h
theorem mv_self (p p2 : List (List UInt8)) : mv p p2 p = p2 := by have := mv_under p p2 []; simpa using this

/-- What a move asks. -/
structure Mov (L : List Ent) (M : Nat → Option Nat) (q q2 : List (List UInt8)) (k k2 : List UInt8) (i d d2 : Nat) : Prop where
  good : Good L M
  here : look L (q ++ [k]) = some i
  from' : look L q = some d ∧ (M d).isSome = true
  goal : look L q2 = some d2 ∧ (M d2).isSome = true
  free : look L (q2 ++ [k2]) = none
  name : isN k2 = true
  out : ¬ (q ++ [k]) <+: q2
  deep : ∀ u j, (q ++ [k] ++ u, j) ∈ L → q2.length + 1 + u.length ≤ 8

section
variable {L : List Ent} {M : Nat → Option Nat} {q q2 : List (List UInt8)} {k k2 : List UInt8} {i d d2 : Nat}

theorem snoc_pre {p x : List (List UInt8)} {c : List UInt8} (h : p <+: x ++ [c]) : p = x ++ [c] ∨ p <+: x := by
  obtain ⟨u, hu⟩ := h
  by_cases hn : u = []
  · left; rw [hn, List.append_nil] at hu; exact hu
  · right
    refine ⟨u.dropLast, ?_⟩
    have := congrArg List.dropLast hu
    rw [List.dropLast_concat, List.dropLast_append_of_ne_nil hn] at this
    exact this

theorem Mov.off (h : Mov L M q q2 k k2 i d d2) : ¬ (q ++ [k]) <+: (q2 ++ [k2]) := fun hp => by
  rcases snoc_pre hp with e | e
  · have := h.here
    rw [e, h.free] at this
    cases this
  · exact h.out e
theorem Mov.none_below (h : Mov L M q q2 k k2 i d d2) {x : List (List UInt8)} {j : Nat} (hx : (x, j) ∈ L) : ¬ (q2 ++ [k2]) <+: x := fun ⟨u, hu⟩ => by
  subst hu
  obtain ⟨d', hd'⟩ := h.good.upto u _ j hx
  exact look_none.1 h.free d' hd'
theorem Mov.inj (h : Mov L M q q2 k k2 i d d2) {a b : Ent} (ha : a ∈ L) (hb : b ∈ L) (e : mv (q ++ [k]) (q2 ++ [k2]) a.1 = mv (q ++ [k]) (q2 ++ [k2]) b.1) : a.1 = b.1 := by
  by_cases h1 : (q ++ [k]) <+: a.1
  · obtain ⟨u, hu⟩ := h1
    rw [← hu, mv_under] at e
    by_cases h2 : (q ++ [k]) <+: b.1
    · obtain ⟨v, hv⟩ := h2
      rw [← hv, mv_under] at e
      rw [← hu, ← hv, List.append_cancel_left e]
    · rw [mv_off h2] at e
      exact absurd ⟨u, e⟩ (h.none_below (j := b.2) hb)
  · rw [mv_off h1] at e
    by_cases h2 : (q ++ [k]) <+: b.1
    · obtain ⟨v, hv⟩ := h2
      rw [← hv, mv_under] at e
      exact absurd ⟨v, e.symm⟩ (h.none_below (j := a.2) ha)
    · rw [mv_off h2] at e
      exact e
theorem Mov.uni (h : Mov L M q q2 k k2 i d d2) : Uni (movL L (q ++ [k]) (q2 ++ [k2])) := by
  unfold Uni movL
  rw [List.pairwise_map]
  refine List.Pairwise.imp_of_mem ?_ h.good.uni
  intro a b ha hb hne e
  exact hne (h.inj ha hb e)
theorem mem_movL {p p2 : List (List UInt8)} {x : Ent} : x ∈ movL L p p2 ↔ ∃ y j, (y, j) ∈ L ∧ x = (mv p p2 y, j) := by
  unfold movL
  rw [List.mem_map]
  constructor
  · rintro ⟨y, hy, rfl⟩; exact ⟨y.1, y.2, hy, rfl⟩
  · rintro ⟨y, j, hy, rfl⟩; exact ⟨(y, j), hy, rfl⟩
theorem Mov.good' (h : Mov L M q q2 k k2 i d d2) : Good (movL L (q ++ [k]) (q2 ++ [k2])) M := by
  have hroot : mv (q ++ [k]) (q2 ++ [k2]) [] = [] := mv_off fun ⟨u, hu⟩ => by simp at hu
  have hg2 : mv (q ++ [k]) (q2 ++ [k2]) q2 = q2 := mv_off h.out
  refine ⟨h.uni, ?_, fun x j hx => ?_, fun x c j hx => ?_, fun x y j hx hy hm => ?_, by unfold movL; rw [List.length_map]; exact h.good.few⟩
  · obtain ⟨r, t, rfl, hr⟩ := h.good.root
    exact ⟨r, t.map fun x => (mv (q ++ [k]) (q2 ++ [k2]) x.1, x.2), by unfold movL; rw [List.map_cons, hroot], hr⟩
  · obtain ⟨y, j', hy, e⟩ := mem_movL.1 hx
    cases e
    obtain ⟨h1, h2⟩ := h.good.nam y j hy
    by_cases hp : (q ++ [k]) <+: y
    · obtain ⟨u, rfl⟩ := hp
      rw [mv_under]
      refine ⟨by have := h.deep u j hy; simp; omega, fun c hc => ?_⟩
      rcases List.mem_append.1 hc with hc | hc
      · rcases List.mem_append.1 hc with hc | hc
        · exact (h.good.nam _ _ (look_mem h.goal.1)).2 c hc
        · rw [List.mem_singleton.1 hc]; exact h.name
      · exact h2 c (List.mem_append_right _ hc)
    · rw [mv_off hp]; exact ⟨h1, h2⟩
  · obtain ⟨y, j', hy, e⟩ := mem_movL.1 hx
    simp only [Prod.mk.injEq] at e
    obtain ⟨e, rfl⟩ := e
    have hyn : y ≠ [] := fun e' => by rw [e', hroot] at e; simp at e
    obtain ⟨y0, cy, rfl⟩ : ∃ y0 cy, y = y0 ++ [cy] := ⟨_, _, (List.dropLast_concat_getLast hyn).symm⟩
    obtain ⟨d0, hd0, hm0⟩ := h.good.up y0 cy j hy
    by_cases hp : (q ++ [k]) <+: y0 ++ [cy]
    · rcases snoc_pre hp with e1 | e1
      · rw [← e1, mv_self] at e
        obtain ⟨rfl, _⟩ := List.append_inj' e rfl
        exact ⟨d2, mem_movL.2 ⟨x, d2, look_mem h.goal.1, by rw [hg2]⟩, h.goal.2⟩
      · obtain ⟨u, rfl⟩ := e1
        rw [List.append_assoc, mv_under, ← List.append_assoc] at e
        obtain ⟨rfl, _⟩ := List.append_inj' e rfl
        exact ⟨d0, mem_movL.2 ⟨_, d0, hd0, by rw [mv_under]⟩, hm0⟩
    · rw [mv_off hp] at e
      obtain ⟨rfl, _⟩ := List.append_inj' e rfl
      exact ⟨d0, mem_movL.2 ⟨_, d0, hd0, by rw [mv_off fun hq => hp (hq.trans (List.prefix_append _ _))]⟩, hm0⟩
  · obtain ⟨a, ja, ha, e1⟩ := mem_movL.1 hx
    obtain ⟨b, jb, hb, e2⟩ := mem_movL.1 hy
    cases e1
    cases e2
    rw [h.good.one a b j ha hb hm]
/-- What is at a path behind a move. -/
theorem Mov.look (h : Mov L M q q2 k k2 i d d2) {x : List (List UInt8)} {j : Nat} (hx : (x, j) ∈ L) (c : List UInt8) :
    look (movL L (q ++ [k]) (q2 ++ [k2])) (mv (q ++ [k]) (q2 ++ [k2]) x ++ [c]) = if x = q2 ∧ c = k2 then some i else if x = q ∧ c = k then none else Go.Proofs.YtdlmkienogimgaaGreatDoor.look L (x ++ [c]) := by
  have hg2 : mv (q ++ [k]) (q2 ++ [k2]) q2 = q2 := mv_off h.out
  have hg1 : mv (q ++ [k]) (q2 ++ [k2]) q = q := mv_off fun ⟨u, hu⟩ => by have := congrArg List.length hu; simp at this
  split
  · rename_i e
    obtain ⟨rfl, rfl⟩ := e
    rw [hg2]
    exact h.uni.look.2 (mem_movL.2 ⟨_, i, look_mem h.here, by rw [mv_self]⟩)
  · rename_i n2
    split
    · rename_i e
      obtain ⟨rfl, rfl⟩ := e
      rw [hg1, look_none]
      intro j' hj'
      obtain ⟨y, jy, hy, e⟩ := mem_movL.1 hj'
      simp only [Prod.mk.injEq] at e
      obtain ⟨e, rfl⟩ := e
      by_cases hp : (x ++ [c]) <+: y
      · obtain ⟨u, rfl⟩ := hp
        rw [mv_under] at e
        exact h.none_below (look_mem h.here) ⟨u, e.symm⟩
      · rw [mv_off hp] at e
        exact hp (by rw [e]; exact List.prefix_rfl)
    · rename_i n1
      have hstep : mv (q ++ [k]) (q2 ++ [k2]) x ++ [c] = mv (q ++ [k]) (q2 ++ [k2]) (x ++ [c]) := by
        by_cases hp : (q ++ [k]) <+: x
        · obtain ⟨u, rfl⟩ := hp
          rw [mv_under, List.append_assoc (q ++ [k]), mv_under, List.append_assoc]
        · rw [mv_off hp, mv_off fun hq => ?_]
          rcases snoc_pre hq with e | e
          · obtain ⟨rfl, e2⟩ := List.append_inj' e rfl
            exact n1 ⟨rfl, by simpa using e2.symm⟩
          · exact hp e
      rw [hstep]
      refine look_eq h.uni fun j' => ?_
      constructor
      · intro hj
        obtain ⟨y, jy, hy, e⟩ := mem_movL.1 hj
        simp only [Prod.mk.injEq] at e
        obtain ⟨e, rfl⟩ := e
        by_cases hp : (q ++ [k]) <+: x ++ [c]
        · obtain ⟨u, hu⟩ := hp
          rw [← hu] at e ⊢
          rw [mv_under] at e
          by_cases hp2 : (q ++ [k]) <+: y
          · obtain ⟨v, rfl⟩ := hp2
            rw [mv_under] at e
            rw [List.append_cancel_left e]; exact hy
          · rw [mv_off hp2] at e
            exact absurd ⟨u, e⟩ (h.none_below hy)
        · rw [mv_off hp] at e
          by_cases hp2 : (q ++ [k]) <+: y
          · obtain ⟨v, rfl⟩ := hp2
            rw [mv_under] at e
            exfalso
            have hpre : (q2 ++ [k2]) <+: x ++ [c] := ⟨v, e.symm⟩
            rcases snoc_pre hpre with e3 | e3
            · obtain ⟨rfl, e4⟩ := List.append_inj' e3 rfl
              exact n2 ⟨rfl, by simpa using e4.symm⟩
            · exact h.none_below hx e3
          · rw [mv_off hp2] at e
            rw [e]; exact hy
      · intro hj
        exact mem_movL.2 ⟨_, j', hj, rfl⟩
end

end Go.Proofs.YtdlmkienogimgaaGreatDoor
