/- This text proves that a tree lies in memory still when a directory's map has a name more, one less, or when a name has moved; the condition is that it lay there. -/
import Derived.Test.YtdlmkienogimgaaGreatDoorT13
import Derived.Test.YtdlmkienogimgaaGreatDoorT12
namespace Go.Proofs.YtdlmkienogimgaaGreatDoor
open Go.RowKit Go.Deep Go.Shelf Go.Maps

theorem box_map {w : World} {b m : Nat} {ty : TypeId} {v : Value} {f : List UInt8 → Option Nat} (h : Boxed w b ty v) (hm : MapIs w m f) : b ≠ m := by
  intro e
  subst e
  obtain ⟨es, c, hc⟩ := hm.map
  rw [show w.heap[b]? = _ from h] at hc
  cases hc
theorem MapIs.congr {w : World} {b : Nat} {f g : List UInt8 → Option Nat} (h : MapIs w b f) (e : ∀ k, f k = g k) : MapIs w b g := by
  rw [show g = f from funext fun k => (e k).symm]; exact h

/-- All but some maps of the tree are as they were: its boxes are. -/
theorem TreeAt.boxes {w w' : World} {base t : Nat} {L : List Ent} {M : Nat → Option Nat} (h : TreeAt w base t L M) {X : Nat → Prop} (hX : ∀ b, X b → ∃ p i, (p, i) ∈ L ∧ M i = some b) (ho : ∀ b, b < w.heap.size → ¬ X b → w'.heap[b]? = w.heap[b]?) {b : Nat} {ty : TypeId} {v : Value} (hb : Boxed w b ty v) : Boxed w' b ty v := by
  refine (ho b hb.lt fun hx => ?_).trans hb
  obtain ⟨p, i, hi, hm⟩ := hX b hx
  exact box_map hb (h.maps p i b hi hm).1 rfl

theorem tree_put {w w' : World} {base t : Nat} {L : List Ent} {M : Nat → Option Nat} {q : List (List UInt8)} {k : List UInt8} {d m i : Nat} (h : TreeAt w base t L M) (hq : look L q = some d) (hd : M d = some m) (hp : look L (q ++ [k]) = none) (hk : isN k = true) (hl : q.length + 1 ≤ 8) (hf : L.length ≤ 24)
    (hi : M i = none ∨ ∀ x, (x, i) ∉ L) (hnode : NodeAt w' i (M i) ∧ base ≤ i) (hmap : ∀ mi, M i = some mi → MapIs w' mi (fun _ => none) ∧ base ≤ mi ∧ ∀ x j, (x, j) ∈ L → M j ≠ some mi)
    (hM : MapIs w' m (upd (fun c => look L (q ++ [c])) k (some i))) (ho : ∀ b, b < w.heap.size → b ≠ m → w'.heap[b]? = w.heap[b]?) : TreeAt w' base t (L ++ [(q ++ [k], i)]) M := by
  have hG := put_good h.good hq (by rw [hd]; rfl) hp hk hl hf hi
  have hbox : ∀ {b : Nat} {ty : TypeId} {v : Value}, Boxed w b ty v → Boxed w' b ty v := fun hb => h.boxes (X := fun b => b = m) (fun b e => ⟨q, d, look_mem hq, by rw [hd, e]⟩) ho hb
  have hmem : ∀ x j, (x, j) ∈ L ++ [(q ++ [k], i)] → (x, j) ∈ L ∨ (x = q ++ [k] ∧ j = i) := fun x j hx => by
    rcases List.mem_append.1 hx with hx | hx
    · exact .inl hx
    · rw [List.mem_singleton] at hx
      cases hx
      exact .inr ⟨rfl, rfl⟩
  have hnew : ∀ mi, M i = some mi → ∀ x, (x, i) ∉ L := fun mi hmi => by
    rcases hi with hi | hi
    · rw [hi] at hmi; cases hmi
    · exact hi
  refine ⟨hG, h.low, fun r hr => ?_, fun x j hx => ?_, fun x j mj hx hmj => ?_, fun x j y j' mj hx hy h1 h2 => ?_⟩
  · rcases hmem _ _ hr with hr | ⟨hr, _⟩
    · exact hbox (h.tree r hr)
    · simp at hr
  · rcases hmem _ _ hx with hx | ⟨_, rfl⟩
    · exact ⟨hbox (h.node x j hx).1, (h.node x j hx).2⟩
    · exact hnode
  · rcases hmem _ _ hx with hx1 | ⟨rfl, rfl⟩
    · obtain ⟨g1, g2⟩ := h.maps x j mj hx1 hmj
      refine ⟨?_, g2⟩
      by_cases e : mj = m
      · subst e
        have e1 := h.apart x j q d mj hx1 (look_mem hq) hmj hd
        subst e1
        have e2 := h.good.one x q j hx1 (look_mem hq) (by rw [hd]; rfl)
        subst e2
        refine hM.congr fun c => ?_
        rw [put_look h.good.uni hp]
        unfold upd
        by_cases hc : c = k
        · rw [if_pos hc, if_pos (by rw [hc])]
        · rw [if_neg hc, if_neg (fun e => hc (by simpa using e))]
      · refine (g1.block (ho mj g1.lt e)).congr fun c => ?_
        rw [put_look h.good.uni hp, if_neg]
        intro e1
        obtain ⟨rfl, _⟩ := List.append_inj' e1 rfl
        have := h.good.uni.same hx1 (look_mem hq)
        rw [this, hd] at hmj
        cases hmj
        exact e rfl
    · obtain ⟨g1, g2, _⟩ := hmap mj hmj
      refine ⟨g1.congr fun c => ?_, g2⟩
      rw [put_look h.good.uni hp, if_neg (fun e => by simp at e)]
      cases e : look L (q ++ [k] ++ [c]) with
      | none => rfl
      | some j' =>
        obtain ⟨d', hd', _⟩ := h.good.up _ _ _ (look_mem e)
        exact absurd hd' (look_none.1 hp d')
  · rcases hmem _ _ hx with hx1 | ⟨_, rfl⟩
    · rcases hmem _ _ hy with hy1 | ⟨_, rfl⟩
      · exact h.apart x j y j' mj hx1 hy1 h1 h2
      · exact absurd h1 ((hmap mj h2).2.2 x j hx1)
    · rcases hmem _ _ hy with hy1 | ⟨_, rfl⟩
      · exact absurd h2 ((hmap mj h1).2.2 y j' hy1)
      · rfl

theorem tree_cut {w w' : World} {base t : Nat} {L : List Ent} {M : Nat → Option Nat} {q : List (List UInt8)} {k : List UInt8} {d m : Nat} (h : TreeAt w base t L M) (hq : look L q = some d) (hd : M d = some m) (hk : kids L (q ++ [k]) = [])
    (hM : MapIs w' m (upd (fun c => look L (q ++ [c])) k none)) (ho : ∀ b, b < w.heap.size → b ≠ m → w'.heap[b]? = w.heap[b]?) : TreeAt w' base t (cutL L (q ++ [k])) M := by
  have hbox : ∀ {b : Nat} {ty : TypeId} {v : Value}, Boxed w b ty v → Boxed w' b ty v := fun hb => h.boxes (X := fun b => b = m) (fun b e => ⟨q, d, look_mem hq, by rw [hd, e]⟩) ho hb
  refine ⟨cut_good h.good (by simp) hk, h.low, fun r hr => hbox (h.tree r (mem_cutL.1 hr).1), fun x j hx => ⟨hbox (h.node x j (mem_cutL.1 hx).1).1, (h.node x j (mem_cutL.1 hx).1).2⟩, fun x j mj hx hmj => ?_, fun x j y j' mj hx hy => h.apart x j y j' mj (mem_cutL.1 hx).1 (mem_cutL.1 hy).1⟩
  obtain ⟨hx1, hxk⟩ := mem_cutL.1 hx
  obtain ⟨g1, g2⟩ := h.maps x j mj hx1 hmj
  refine ⟨?_, g2⟩
  by_cases e : mj = m
  · subst e
    have e1 := h.apart x j q d mj hx1 (look_mem hq) hmj hd
    subst e1
    have e2 := h.good.one x q j hx1 (look_mem hq) (by rw [hd]; rfl)
    subst e2
    refine hM.congr fun c => ?_
    rw [cut_look h.good.uni]
    unfold upd
    by_cases hc : c = k
    · rw [if_pos hc, if_pos (by rw [hc])]
    · rw [if_neg hc, if_neg (fun e => hc (by simpa using e))]
  · refine (g1.block (ho mj g1.lt e)).congr fun c => ?_
    rw [cut_look h.good.uni, if_neg]
    intro e1
    obtain ⟨rfl, _⟩ := List.append_inj' e1 rfl
    have := h.good.uni.same hx1 (look_mem hq)
    rw [this, hd] at hmj
    cases hmj
    exact e rfl

/-- What a directory has behind a move. -/
def movF (L : List Ent) (q q2 : List (List UInt8)) (k k2 : List UInt8) (i : Nat) (x : List (List UInt8)) (c : List UInt8) : Option Nat := if x = q2 ∧ c = k2 then some i else if x = q ∧ c = k then none else look L (x ++ [c])

theorem tree_move {w w' : World} {base t : Nat} {L : List Ent} {M : Nat → Option Nat} {q q2 : List (List UInt8)} {k k2 : List UInt8} {i d d2 m m2 : Nat} (h : TreeAt w base t L M) (hm : Mov L M q q2 k k2 i d d2) (hd : M d = some m) (hd2 : M d2 = some m2)
    (hM : MapIs w' m (movF L q q2 k k2 i q)) (hM2 : MapIs w' m2 (movF L q q2 k k2 i q2)) (ho : ∀ b, b < w.heap.size → b ≠ m → b ≠ m2 → w'.heap[b]? = w.heap[b]?) : TreeAt w' base t (movL L (q ++ [k]) (q2 ++ [k2])) M := by
  have hbox : ∀ {b : Nat} {ty : TypeId} {v : Value}, Boxed w b ty v → Boxed w' b ty v := fun hb => h.boxes (X := fun b => b = m ∨ b = m2) (fun b e => by
    rcases e with e | e
    · exact ⟨q, d, look_mem hm.from'.1, by rw [hd, e]⟩
    · exact ⟨q2, d2, look_mem hm.goal.1, by rw [hd2, e]⟩) (fun b hb hn => ho b hb (fun e => hn (.inl e)) (fun e => hn (.inr e))) hb
  refine ⟨hm.good', h.low, fun r hr => ?_, fun x j hx => ?_, fun x j mj hx hmj => ?_, fun x j y j' mj hx hy => ?_⟩
  · obtain ⟨y, j, hy, e⟩ := mem_movL.1 hr
    simp only [Prod.mk.injEq] at e
    obtain ⟨e, rfl⟩ := e
    obtain ⟨r', hr', _⟩ := h.good.start
    have hroot : mv (q ++ [k]) (q2 ++ [k2]) [] = [] := mv_off fun ⟨u, hu⟩ => by simp at hu
    have := hm.inj (a := (y, r)) (b := ([], r')) hy hr' (by
      show mv (q ++ [k]) (q2 ++ [k2]) y = mv (q ++ [k]) (q2 ++ [k2]) []
      rw [hroot]; exact e.symm)
    have hy2 : y = [] := this
    subst hy2
    exact hbox (h.tree r hy)
  · obtain ⟨y, j', hy, e⟩ := mem_movL.1 hx
    cases e
    exact ⟨hbox (h.node y j hy).1, (h.node y j hy).2⟩
  · obtain ⟨y, j', hy, e⟩ := mem_movL.1 hx
    simp only [Prod.mk.injEq] at e
    obtain ⟨rfl, rfl⟩ := e
    obtain ⟨g1, g2⟩ := h.maps y j mj hy hmj
    refine ⟨MapIs.congr (f := movF L q q2 k k2 i y) ?_ fun c => by rw [hm.look hy]; rfl, g2⟩
    by_cases e : mj = m
    · subst e
      have e1 := h.apart y j q d mj hy (look_mem hm.from'.1) hmj hd
      subst e1
      have e2 := h.good.one y q j hy (look_mem hm.from'.1) hm.from'.2
      subst e2
      exact hM
    · by_cases e' : mj = m2
      · subst e'
        have e1 := h.apart y j q2 d2 mj hy (look_mem hm.goal.1) hmj hd2
        subst e1
        have e2 := h.good.one y q2 j hy (look_mem hm.goal.1) hm.goal.2
        subst e2
        exact hM2
      · refine (g1.block (ho mj g1.lt e e')).congr fun c => ?_
        unfold movF
        rw [if_neg, if_neg]
        · rintro ⟨rfl, _⟩
          have := h.good.uni.same hy (look_mem hm.from'.1)
          rw [this, hd] at hmj
          cases hmj
          exact e rfl
        · rintro ⟨rfl, _⟩
          have := h.good.uni.same hy (look_mem hm.goal.1)
          rw [this, hd2] at hmj
          cases hmj
          exact e' rfl
  · obtain ⟨a, ja, ha, e1⟩ := mem_movL.1 hx
    obtain ⟨b, jb, hb, e2⟩ := mem_movL.1 hy
    cases e1
    cases e2
    exact h.apart a j b j' mj ha hb

end Go.Proofs.YtdlmkienogimgaaGreatDoor
