/- This text proves what the document's own NewFds returns, and plain facts on the document's lists behind each step, and what stays in memory behind each; the conditions are those that each fact names. -/
import Derived.Test.YtekonojkllnejaaDoorJ10
namespace Go.Proofs.YtekonojkllnejaaDoor
open Go.RowKit Go.Deep

theorem nth_snoc {xs : List Int} {y : Int} {i : Nat} : nth (xs ++ [y]) i = if i = xs.length then y else nth xs i := by
  by_cases h : i = xs.length
  · rw [if_pos h]; unfold nth; simp [h]
  · rw [if_neg h]
    rcases Nat.lt_or_ge i xs.length with h1 | h1
    · unfold nth; simp [List.getElem?_append_left h1]
    · have h2 : xs.length + 1 ≤ i := by omega
      unfold nth
      rw [List.getD_eq_getElem?_getD, List.getD_eq_getElem?_getD, List.getElem?_eq_none (by simpa using h2), List.getElem?_eq_none h1]
theorem nth_lst {n : Nat} {i : Nat} (h : i < n) : nth (List.replicate n (-1)) i = -1 := by
  unfold nth; simp [h]

theorem dpE_bad {F : Nat → Option Nat} {fd : Int} (h : dpE F fd ≠ 0) : dpN F fd = 0 := by
  unfold dpE at h
  unfold dpN
  cases hf : fo F fd with
  | none => rfl
  | some b => rw [hf] at h; exact dp_bad h
theorem dpE_good {F : Nat → Option Nat} {fd : Int} (h : dpE F fd = 0) : ∃ b d i, fd = ((i : Nat) : Int) ∧ i < 8 ∧ F i = some b ∧ d < 8 ∧ F d = none ∧ dpN F fd = d ∧ dpF F fd = upd F d (some b) := by
  unfold dpE at h
  unfold dpN dpF
  cases hf : fo F fd with
  | none => rw [hf] at h; exact absurd h (opE_none hf)
  | some b =>
    rw [hf] at h
    obtain ⟨k1, k2, k3, k4⟩ := opE_some hf
    simp only at h
    unfold giE at h
    by_cases h1 : lst F < 8
    · refine ⟨b, lst F, fd.toNat, by omega, by omega, k4, h1, lst_free h1, ?_, ?_⟩
      · show giN F = _; unfold giN; rw [if_pos h1]
      · show giF F b = _; unfold giF; rw [if_pos h1]
    · rw [if_neg h1] at h; cases h
/-- What opening one more leaves, where a number is free. -/
theorem on_good {F : Nat → Option Nat} {Z : Nat → Nat × Nat} {i q : Nat} {n : Int} (hi : i < 8) (hF : F i = none) (hn : 0 ≤ n ∧ n ≤ 64) :
    ∃ x, x < 8 ∧ F x = none ∧ onN F n = x ∧ onE F n = 0 ∧ onF F n q = upd F x (some q) ∧ onZ Z n q = upd Z q (n.toNat, 0) := by
  have h1 : lst F < 8 := by
    have := lst_le F
    rcases Nat.lt_or_ge (lst F) 8 with h | h
    · exact h
    · exact absurd hF (lst_before (by omega))
  unfold onN onE onF onZ
  rw [if_pos hn, if_pos hn, if_pos hn, if_pos hn]
  unfold giN giE giF
  rw [if_pos h1, if_pos h1, if_pos h1]
  exact ⟨_, h1, lst_free h1, rfl, rfl, rfl, rfl⟩

theorem rel_new : Rel (fun _ => none) (fun _ => (0, 0)) (List.replicate 8 (-1)) [] [] [] :=
  ⟨fun i hi => by rw [nth_lst hi]; simp, rfl, List.nodup_nil, (fun i b _ h => by cases h), (fun k b h => by simp at h)⟩

theorem rel_open {F : Nat → Option Nat} {Z : Nat → Nat × Nat} {O S A : List Int} {adr : List Nat} {n : Int} {q : Nat} (h : Rel F Z O S A adr) (hO : O.length = 8) (hA : A.length = S.length) (hq : q ∉ adr) :
    Rel (onF F n q) (onZ Z n q) (onO F O S n) (onS F S n) (onA F A n) (if onE F n = 0 then adr ++ [q] else adr) := by
  by_cases hn : 0 ≤ n ∧ n ≤ 64
  · have hne : ∀ k b, adr[k]? = some b → b ≠ q := fun k b hb e => hq (e ▸ List.mem_of_getElem? hb)
    by_cases hl : lst F < 8
    · obtain ⟨x, hx, hxF, e1, e2, e3, e4⟩ := on_good (Z := Z) (q := q) (n := n) hl (lst_free hl) hn
      have hxl : x = lst F := by
        have : onN F n = lst F := by unfold onN; rw [if_pos hn]; unfold giN; rw [if_pos hl]
        omega
      subst hxl
      unfold onO onS onA
      rw [e2, e3, e4, if_pos rfl, if_pos rfl, if_pos rfl, if_pos rfl]
      refine ⟨fun i hi => ?_, by simp [h.len], ?_, fun i b hi hb => ?_, fun k b hb => ?_⟩
      · rw [nth_set (by omega)]
        by_cases e : i = lst F
        · rw [if_pos e, e, upd_self]
          constructor
          · intro h; omega
          · intro h; cases h
        · rw [if_neg e, upd_other e]
          exact h.frs i hi
      · exact List.nodup_append.2 ⟨h.nd, by simp, fun a ha b hb e => by
          have : b = q := by simpa using hb
          exact hq (this ▸ e ▸ ha)⟩
      · rw [nth_set (by omega)]
        by_cases e : i = lst F
        · rw [e, upd_self] at hb
          cases hb
          rw [if_pos e]
          exact ⟨S.length, rfl, by rw [h.len]; simp⟩
        · rw [upd_other e] at hb
          rw [if_neg e]
          obtain ⟨k, h1, h2⟩ := h.num i b hi hb
          exact ⟨k, h1, by rw [List.getElem?_append_left (List.getElem?_eq_some_iff.1 h2).1]; exact h2⟩
      · rw [nth_snoc, nth_snoc, hA, h.len]
        by_cases e : k = adr.length
        · subst e
          have : b = q := by simpa using hb.symm
          subst this
          rw [if_pos rfl, if_pos rfl, upd_self]
          exact ⟨by show n = ((n.toNat : Nat) : Int); omega, rfl⟩
        · have hk : k < adr.length := by
            have := (List.getElem?_eq_some_iff.1 hb).1
            rw [List.length_append, List.length_singleton] at this
            omega
          rw [List.getElem?_append_left hk] at hb
          rw [if_neg e, if_neg e, upd_other (hne k b hb)]
          exact h.val k b hb
    · have e1 : onE F n = 4 := by unfold onE; rw [if_pos hn]; unfold giE; rw [if_neg hl]
      have e2 : onF F n q = F := by unfold onF; rw [if_pos hn]; unfold giF; rw [if_neg hl]
      have e3 : onZ Z n q = upd Z q (n.toNat, 0) := if_pos hn
      unfold onO onS onA
      rw [e1, e2, e3, if_neg (by decide), if_neg (by decide), if_neg (by decide), if_neg (by decide)]
      exact ⟨h.frs, h.len, h.nd, h.num, fun k b hb => by rw [upd_other (hne k b hb)]; exact h.val k b hb⟩
  · have e1 : onE F n = 1 := if_neg hn
    have e2 : onF F n q = F := if_neg hn
    have e3 : onZ Z n q = Z := if_neg hn
    unfold onO onS onA
    rw [e1, e2, e3, if_neg (by decide), if_neg (by decide), if_neg (by decide), if_neg (by decide)]
    exact h

theorem rel_dup {F : Nat → Option Nat} {Z : Nat → Nat × Nat} {O S A : List Int} {adr : List Nat} {fd : Int} (h : Rel F Z O S A adr) (hO : O.length = 8) : Rel (dpF F fd) Z (dpO F O fd) S A adr := by
  by_cases he : dpE F fd = 0
  · obtain ⟨b, d, i, rfl, hi, hFi, hd, hFd, e1, e2⟩ := dpE_good he
    have hdl : d = lst F := by
      unfold dpN at e1
      unfold dpE at he
      rw [fo_nat hi, hFi] at e1 he
      simp only at e1 he
      unfold giN at e1
      unfold giE at he
      by_cases hl : lst F < 8
      · rw [if_pos hl] at e1; exact e1.symm
      · rw [if_neg hl] at he; cases he
    rw [dpO_good he, e2, ← hdl, Int.toNat_natCast]
    obtain ⟨k, h1, h2⟩ := h.num i b hi hFi
    refine ⟨fun j hj => ?_, h.len, h.nd, fun j c hj hc => ?_, h.val⟩
    · rw [nth_set (by omega)]
      by_cases e : j = d
      · rw [if_pos e, e, upd_self, h1]
        constructor
        · intro h; omega
        · intro h; cases h
      · rw [if_neg e, upd_other e]
        exact h.frs j hj
    · rw [nth_set (by omega)]
      by_cases e : j = d
      · rw [e, upd_self] at hc
        cases hc
        rw [if_pos e]
        exact ⟨k, h1, h2⟩
      · rw [upd_other e] at hc
        rw [if_neg e]
        exact h.num j c hj hc
  · have e2 : dpF F fd = F := by
      unfold dpE at he
      unfold dpF
      cases hf : fo F fd with
      | none => rfl
      | some b =>
        rw [hf] at he
        simp only at he ⊢
        unfold giE at he
        unfold giF
        by_cases hl : lst F < 8
        · rw [if_pos hl] at he; exact absurd rfl he
        · rw [if_neg hl]
    rw [dpO_bad he, e2]
    exact h

theorem rel_close {F : Nat → Option Nat} {Z : Nat → Nat × Nat} {O S A : List Int} {adr : List Nat} {k : Nat} (h : Rel F Z O S A adr) (hO : O.length = 8) (hk : k < 8) : Rel (upd F k none) Z (O.set k (-1)) S A adr := by
  refine ⟨fun j hj => ?_, h.len, h.nd, fun j c hj hc => ?_, h.val⟩
  · rw [nth_set (by omega)]
    by_cases e : j = k
    · rw [if_pos e, e, upd_self]; simp
    · rw [if_neg e, upd_other e]
      exact h.frs j hj
  · by_cases e : j = k
    · rw [e, upd_self] at hc
      cases hc
    · rw [upd_other e] at hc
      rw [nth_set (by omega), if_neg e]
      exact h.num j c hj hc

theorem rel_move {F : Nat → Option Nat} {Z : Nat → Nat × Nat} {O S A : List Int} {adr : List Nat} {fd y : Int} (h : Rel F Z O S A adr) (hA : A.length = S.length) : Rel F (mvZ F Z fd y) O S (mvA F Z O A fd y) adr := by
  by_cases he : mvE F Z fd y = 0
  · obtain ⟨b, M, P, Q, h1, h2, h3, h4⟩ := mv_good he
    obtain ⟨_, e2, e3⟩ := mv_of h1 h2 h3 h4
    obtain ⟨_, f1, f2, f3⟩ := opE_some h1
    obtain ⟨k, k1, k2⟩ := h.num fd.toNat b (by omega) f3
    rw [mvA_good he, e2, e3, k1, Int.toNat_natCast]
    have hkl := (List.getElem?_eq_some_iff.1 k2).1
    refine ⟨h.frs, h.len, h.nd, h.num, fun j c hc => ?_⟩
    rw [nth_set (by rw [hA, h.len]; exact hkl)]
    by_cases e : j = k
    · subst e
      rw [k2] at hc
      cases hc
      rw [if_pos rfl, upd_self]
      have := (h.val j b k2).1
      rw [h2] at this
      exact ⟨this, rfl⟩
    · have hcb : c ≠ b := by
        intro hcb
        subst hcb
        have hjl := (List.getElem?_eq_some_iff.1 hc).1
        have e1 := (List.getElem?_eq_some_iff.1 hc).2
        have e2 := (List.getElem?_eq_some_iff.1 k2).2
        have hp := List.pairwise_iff_getElem.1 h.nd
        rcases Nat.lt_trichotomy j k with hl | hl | hl
        · exact hp j k hjl hkl hl (e1.trans e2.symm)
        · exact e hl
        · exact hp k j hkl hjl hl (e2.trans e1.symm)
      rw [if_neg e, upd_other hcb]
      exact h.val j c hc
  · rw [mvA_bad he, (mv_bad he).1]
    exact h

/-- The program's numbers, and the document's, in memory beside each other. -/
structure Mem (w wr : World) (G X : Nat) (vo vs va : Value) (F : Nat → Option Nat) (Z : Nat → Nat × Nat) (O S A : List Int) : Prop where
  tab : TabAt wr G G F Z
  doc : Doc wr G vo vs va O S A
  box : Box3 wr X vo vs va
  old : Below G w wr
  low : G ≤ X
  offF : ¬ Fp G F X
  offD : ¬ Db vo vs va X
  apart : ∀ b, Db vo vs va b → ¬ Fp G F b

theorem Mem.later {w wr w' : World} {G X : Nat} {vo vs va : Value} {F : Nat → Option Nat} {Z : Nat → Nat × Nat} {O S A : List Int} (h : Mem w wr G X vo vs va F Z O S A) (hb : Below wr.heap.size wr w') : Mem w w' G X vo vs va F Z O S A :=
  ⟨h.tab.later hb, h.doc.later hb, h.box.later hb, h.old.trans (hb.mono (Nat.le_of_lt h.tab.lt)), h.low, h.offF, h.offD, h.apart⟩
theorem Mem.prog {w wr w' : World} {G X : Nat} {vo vs va : Value} {F F' : Nat → Option Nat} {Z Z' : Nat → Nat × Nat} {O S A : List Int} (h : Mem w wr G X vo vs va F Z O S A) (hs : Stp wr w' G G F F' Z') : Mem w w' G X vo vs va F' Z' O S A := by
  have hx := h.box.lt
  refine ⟨hs.at', h.doc.frame fun b hb => hs.tch.block b (h.doc.fp hb).2 (h.apart b hb), h.box.same (hs.tch.block X hx h.offF), h.old.trans (hs.below h.tab), h.low, fun hF => ?_, h.offD, fun b hb hF => ?_⟩
  · rcases hs.new X hF with e | e
    · exact h.offF e
    · omega
  · rcases hs.new b hF with e | e
    · exact h.apart b hb e
    · have := (h.doc.fp hb).2; omega
/-- Behind a step of the document's, ahead of the store into the box. -/
structure Mid (w w2 : World) (G X : Nat) (vo' vs' va' : Value) (F : Nat → Option Nat) (Z : Nat → Nat × Nat) (O' S' A' : List Int) : Prop where
  tab : TabAt w2 G G F Z
  doc : Doc w2 G vo' vs' va' O' S' A'
  box : ∃ vo vs va, Box3 w2 X vo vs va
  old : Below G w w2
  low : G ≤ X
  offF : ¬ Fp G F X
  offD : ¬ Db vo' vs' va' X
  apart : ∀ b, Db vo' vs' va' b → ¬ Fp G F b
theorem Mem.ref {w wr w2 : World} {G X : Nat} {vo vs va vo' vs' va' : Value} {F : Nat → Option Nat} {Z : Nat → Nat × Nat} {O S A O' S' A' : List Int} (h : Mem w wr G X vo vs va F Z O S A)
    (hD : Doc w2 G vo' vs' va' O' S' A') (hT : Tch (Db vo vs va) wr w2) (hN : ∀ b, Db vo' vs' va' b → Db vo vs va b ∨ wr.heap.size ≤ b) : Mid w w2 G X vo' vs' va' F Z O' S' A' ∧ Box3 w2 X vo vs va := by
  have hx := h.box.lt
  have hbx : Box3 w2 X vo vs va := h.box.same (hT.block X hx h.offD)
  refine ⟨⟨h.tab.frame fun b hb => hT.block b (h.tab.fp hb).2 (fun hd => h.apart b hd hb), hD, ⟨_, _, _, hbx⟩, h.old.trans (hT.below (fun b hb => (h.doc.fp hb).1) (Nat.le_of_lt h.tab.lt)), h.low, h.offF, fun hd => ?_, fun b hb hF => ?_⟩, hbx⟩
  · rcases hN X hd with e | e
    · exact h.offD e
    · omega
  · rcases hN b hb with e | e
    · exact h.apart b e hF
    · have := (h.tab.fp hF).2; omega
theorem Mid.set {w w2 : World} {G X : Nat} {vo vs va : Value} {F : Nat → Option Nat} {Z : Nat → Nat × Nat} {O S A : List Int} (h : Mid w w2 G X vo vs va F Z O S A) :
    Mem w (((w2.setCell ⟨X, 0, none⟩ vo).setCell ⟨X, 1, none⟩ vs).setCell ⟨X, 2, none⟩ va) G X vo vs va F Z O S A := by
  have hT := tch_set3 w2 X vo vs va
  obtain ⟨p, q, r, hb⟩ := h.box
  refine ⟨h.tab.frame fun b hF => hT.block b (h.tab.fp hF).2 (fun e => h.offF (e ▸ hF)), h.doc.frame fun b hd => hT.block b (h.doc.fp hd).2 (fun e => h.offD (e ▸ hd)), hb.set vo vs va, h.old.trans (hT.below (fun b e => by rw [e]; exact h.low) (Nat.le_of_lt h.tab.lt)), h.low, h.offF, h.offD, h.apart⟩
theorem Mid.set0 {w w2 : World} {G X : Nat} {vo vs va v : Value} {F : Nat → Option Nat} {Z : Nat → Nat × Nat} {O S A : List Int} (h : Mid w w2 G X vo vs va F Z O S A) (hb : Box3 w2 X v vs va) :
    Mem w (w2.setCell ⟨X, 0, none⟩ vo) G X vo vs va F Z O S A := by
  have hT : Tch (fun c => c = X) w2 (w2.setCell ⟨X, 0, none⟩ vo) := Tch.set w2 vo rfl
  refine ⟨h.tab.frame fun b hF => hT.block b (h.tab.fp hF).2 (fun e => h.offF (e ▸ hF)), h.doc.frame fun b hd => hT.block b (h.doc.fp hd).2 (fun e => h.offD (e ▸ hd)), hb.set0 vo, h.old.trans (hT.below (fun b e => by rw [e]; exact h.low) (Nat.le_of_lt h.tab.lt)), h.low, h.offF, h.offD, h.apart⟩

theorem results_cell1 {fn : Func} {p : Tmp} {ty : TypeId} (h : fn.results = #[.cell p ty]) (tmps : Array Value) (P : Program) (w : World) :
    (results fn tmps).run P w = ((asAddr (tmps.getD p undef)).run P w).andThen fun a w₁ => (loadVar ty a).run P w₁ := by
  simp only [results, h]
  simp [Sem.run_bind, Result.andThen]

end Go.Proofs.YtekonojkllnejaaDoor
