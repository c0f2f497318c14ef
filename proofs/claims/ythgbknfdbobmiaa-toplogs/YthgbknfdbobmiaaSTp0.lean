/- This text says in plain words what three disks have in common, one with a log, one with notes, and one with two tables, between turns and in a turn, and that a write, an end and an undoing keep it; it speaks of no call; no condition. -/
import Derived.Test.YthgbknfdbobmiaaZT8
import Derived.Test.YthgbknfdbobmiaaW0
import Derived.Test.YthgbknfdbobmiaaS3
namespace Go.Proofs.Ythgbknfdbobmiaa

/-- A turn that has written nothing is seen to have ended as if it had not. -/
theorem Zw.vals_none {L : List Zw.Rc} {t : Nat} (h : ∀ r ∈ L, r.t ≠ t) (H : Nat → Nat) : Zw.vals (L ++ [⟨t, 0, 0, true⟩]) H = Zw.vals L H := by
  unfold Zw.vals
  rw [Zw.valO_append]
  show Zw.redo (L ++ [⟨t, 0, 0, true⟩]) t (Zw.valO L (L ++ [⟨t, 0, 0, true⟩]) H) = _
  rw [Zw.redo_skip _ _ _ fun r hr k => by
    rcases List.mem_append.1 hr with k1 | k1
    · exact h r k1 k.2
    · rw [List.mem_singleton.1 k1] at k; exact absurd k.1 (by simp)]
  refine Zw.valO_congr L H fun r _ _ X => ?_
  rw [Zw.redo_append, Zw.redo_one]
  exact if_neg fun k => absurd k.1 (by simp)
/-- And one that has written one thing more. -/
theorem Zw.vals_more {L : List Zw.Rc} {t b v : Nat} (h : Zw.endd L t = false) (H : Nat → Nat) :
    Zw.vals (L ++ [⟨t, b, v, false⟩] ++ [⟨t, 0, 0, true⟩]) H = putV (Zw.vals (L ++ [⟨t, 0, 0, true⟩]) H) b v := by
  have e0 : ∀ M X, Zw.stp t X ⟨t, 0, 0, true⟩ = X ∧ Zw.redo (M ++ [⟨t, 0, 0, true⟩]) t X = Zw.redo M t X := fun M X => by
    have : ∀ Y, Zw.stp t Y ⟨t, 0, 0, true⟩ = Y := fun Y => if_neg fun k => absurd k.1 (by simp)
    refine ⟨this X, ?_⟩
    rw [Zw.redo_append, Zw.redo_one, this]
  unfold Zw.vals
  rw [Zw.valO_append, Zw.valO_append, Zw.valO_append]
  show Zw.redo (L ++ [⟨t, b, v, false⟩] ++ [⟨t, 0, 0, true⟩]) t (Zw.vst (L ++ [⟨t, b, v, false⟩] ++ [⟨t, 0, 0, true⟩]) (Zw.valO L (L ++ [⟨t, b, v, false⟩] ++ [⟨t, 0, 0, true⟩]) H) ⟨t, b, v, false⟩) = putV (Zw.redo (L ++ [⟨t, 0, 0, true⟩]) t (Zw.valO L (L ++ [⟨t, 0, 0, true⟩]) H)) b v
  rw [show ∀ M X, Zw.vst M X ⟨t, b, v, false⟩ = X from fun M X => if_neg (by simp), (e0 _ _).2, (e0 _ _).2, Zw.redo_append, Zw.redo_one]
  rw [show ∀ X, Zw.stp t X ⟨t, b, v, false⟩ = putV X b v from fun X => if_pos ⟨rfl, rfl⟩]
  congr 2
  refine Zw.valO_congr L H fun x hx hxe X => ?_
  have hne : t ≠ x.t := fun k => by
    rw [Zw.endd_iff.2 ⟨x, hx, hxe, k.symm⟩] at h
    cases h
  have e1 : ∀ y Y, ¬ (y : Zw.Rc).t = x.t → Zw.redo [y] x.t Y = Y := fun y Y hy => Zw.redo_skip _ _ _ fun r hr k => by rw [List.mem_singleton.1 hr] at k; exact hy k.2
  rw [Zw.redo_append, Zw.redo_append, Zw.redo_append, e1 ⟨t, b, v, false⟩ _ hne]
theorem un_own {d : Ud} {t b v : Int} (h : wrE d.L t b v = 0) : unD (wrD d t b v) t = unD d t := by
  obtain ⟨T, B, V, rfl, rfl, rfl, hT, hB, hV, ho, hl⟩ := wr_nat h
  rw [wrD_yes h, Int.toNat_natCast, Int.toNat_natCast, Int.toNat_natCast]
  have hx : ofT (T : Int) ⟨T, B, d.H B⟩ = true := ofT_iff.2 rfl
  show (⟨udo (ofT (T : Int)) (d.L ++ [⟨T, B, d.H B⟩]) (putV d.H B V), cut (T : Int) (d.L ++ [⟨T, B, d.H B⟩])⟩ : Ud) = _
  rw [udo_wr _ _ _ _ _ _ hx]
  unfold cut unD
  rw [List.filter_append, List.filter_cons_of_neg (by rw [hx]; decide), List.filter_nil, List.append_nil]
  rfl

/-- Between turns. -/
structure BetT (t : Nat) (D : Zw.Dk) (U : Ud) (C : Nat → Int) : Prop where
  z : D.H = nV
  lo : ∀ r ∈ D.L, r.t < t
  len : D.L.length ≤ 4 * t
  wv : Zw.vals D.L nV = U.H
  un : U.L = []
  s1 : ∀ i, i < 8 → vlS C 24 i = (U.H i : Int)
  s0 : ∀ i, i < 8 → vlS C 16 i = (U.H i : Int)
/-- In a turn. -/
structure MidT (t j : Nat) (D : Zw.Dk) (H0 : Nat → Nat) (U : Ud) (C : Nat → Int) : Prop where
  z : D.H = nV
  lo : ∀ r ∈ D.L, r.t < t ∨ (r.t = t ∧ r.e = false)
  len : D.L.length ≤ 4 * t + j
  hv : Zw.vals D.L nV = H0
  he : Zw.vals (D.L ++ [⟨t, 0, 0, true⟩]) nV = U.H
  un : unD U (t : Int) = ⟨H0, []⟩
  ns : ∀ x ∈ U.L, x.t = t
  ul : U.L.length ≤ j
  s1 : ∀ i, i < 8 → vlS C 24 i = (U.H i : Int)
  s0 : ∀ i, i < 8 → vlS C 16 i = (H0 i : Int)

theorem bet_start : BetT 0 Zw.dk0 ud0 sh0 := by
  have e : ∀ z i, 16 ≤ z → vlS sh0 z i = 0 := fun z i hz => by
    unfold vlS
    have : sh0 (z + i) = -1 := by unfold sh0; rw [if_neg (by omega)]
    rw [this, if_pos rfl]
  exact ⟨rfl, fun _ h => absurd h (by simp [Zw.dk0]), by simp [Zw.dk0], rfl, rfl, fun i _ => e 24 i (by decide), fun i _ => e 16 i (by decide)⟩
theorem BetT.mid {t : Nat} {D : Zw.Dk} {U : Ud} {C : Nat → Int} (h : BetT t D U C) : MidT t 0 D U.H U C := by
  refine ⟨h.z, fun r hr => .inl (h.lo r hr), by have := h.len; omega, h.wv, ?_, ?_, ?_, ?_, h.s1, h.s0⟩
  · rw [Zw.vals_none (fun r hr => Nat.ne_of_lt (h.lo r hr)), h.wv]
  · unfold unD cut udo
    rw [h.un]; rfl
  · rw [h.un]; intro x hx; cases hx
  · rw [h.un]; exact Nat.le_refl _
theorem MidT.no {t j : Nat} {D : Zw.Dk} {H0 : Nat → Nat} {U : Ud} {C : Nat → Int} (h : MidT t j D H0 U C) : Zw.endd D.L t = false := by
  cases k : Zw.endd D.L t with
  | false => rfl
  | true =>
    obtain ⟨r, h1, h2, h3⟩ := Zw.endd_iff.1 k
    rcases h.lo r h1 with m | m
    · omega
    · rw [m.2] at h2; cases h2
theorem MidT.may {t j : Nat} {D : Zw.Dk} {H0 : Nat → Nat} {U : Ud} {C : Nat → Int} (h : MidT t j D H0 U C) (ht : t < 10) : Zw.mayE D.L (t : Int) = 0 := by
  unfold Zw.mayE
  rw [if_pos (by omega), Int.toNat_natCast, h.no]
  rfl
/-- A write says the same on all three, and does the same. -/
theorem MidT.write {t j : Nat} {D : Zw.Dk} {H0 : Nat → Nat} {U : Ud} {C : Nat → Int} (h : MidT t j D H0 U C) (hg : GoodS C) (ht : t < 10) (hj : j < 3) (b v : Int) :
    Zw.wrE D.L (t : Int) b v = erS b v ∧ wrE U.L (t : Int) b v = erS b v ∧ MidT t (j + 1) (Zw.wrD D (t : Int) b v) H0 (wrD U (t : Int) b v) (noS C b v) := by
  have hl := h.len
  have hu := h.ul
  by_cases hk : 0 ≤ b ∧ b < 8 ∧ 0 ≤ v ∧ v ≤ 1000
  · have e1 := Zw.wr_good (h.may ht) hk (by omega)
    have hown : ∀ B, own U.L B = -1 ∨ own U.L B = (t : Int) := fun B => by
      by_cases k : own U.L B = -1
      · exact .inl k
      · obtain ⟨x, hx, _, e⟩ := own_mem k
        exact .inr (by rw [e, h.ns x hx])
    have e2 : wrE U.L (t : Int) b v = 0 := wrE_nul (okP_iff.2 ⟨by omega, by omega, by omega⟩) (hown _) (by omega)
    have e3 : erS b v = 0 := if_pos hk
    have e4 : noS C b v = wrS C b.toNat v := if_pos hk
    obtain ⟨B, rfl⟩ : ∃ B : Nat, b = (B : Int) := ⟨b.toNat, by omega⟩
    obtain ⟨V, rfl⟩ : ∃ V : Nat, v = (V : Int) := ⟨v.toNat, by omega⟩
    refine ⟨e1.trans e3.symm, e2.trans e3.symm, ?_⟩
    have hun := un_own e2
    have hB : B < 8 := by omega
    rw [e4, Zw.wrD_more e1, Int.toNat_natCast]
    rw [wrD_yes e2, Int.toNat_natCast, Int.toNat_natCast, Int.toNat_natCast] at hun ⊢
    refine ⟨h.z, fun r hr => ?_, ?_, ?_, ?_, hun.trans h.un, fun x hx => ?_, ?_, fun i hi => ?_, fun i hi => (hg.old_stays hB _ i hi).trans (h.s0 i hi)⟩
    · rcases List.mem_append.1 hr with k | k
      · exact h.lo r k
      · rw [List.mem_singleton.1 k]; exact .inr ⟨rfl, rfl⟩
    · show (D.L ++ [_]).length ≤ _
      rw [List.length_append, List.length_singleton]; omega
    · exact (Zw.vals_write rfl h.no nV).trans h.hv
    · show Zw.vals (D.L ++ [_] ++ [_]) nV = putV U.H B V
      rw [Zw.vals_more h.no, h.he]
    · rcases List.mem_append.1 hx with k | k
      · exact h.ns x k
      · rw [List.mem_singleton.1 k]
    · show (U.L ++ [_]).length ≤ _
      rw [List.length_append, List.length_singleton]; omega
    · rw [hg.now_is hB _ i hi]
      show _ = ((putV U.H B V i : Nat) : Int)
      rw [putV_at]
      by_cases e : i = B
      · rw [if_pos e, if_pos e]
      · rw [if_neg e, if_neg e]; exact h.s1 i hi
  · have e1 := Zw.wr_bad (h.may ht) hk
    have e2 : wrE U.L (t : Int) b v = 1 := if_neg fun k => hk (by have := okP_iff.1 k; omega)
    have e3 : erS b v = 1 := if_neg hk
    have e4 : noS C b v = C := if_neg hk
    refine ⟨e1.trans e3.symm, e2.trans e3.symm, ?_⟩
    rw [e4, Zw.wrD_same (by rw [e1]; decide), wrD_no (by rw [e2]; decide)]
    exact ⟨h.z, h.lo, by omega, h.hv, h.he, h.un, h.ns, by omega, h.s1, h.s0⟩
/-- A turn ends. -/
theorem MidT.end' {t j : Nat} {D : Zw.Dk} {H0 : Nat → Nat} {U : Ud} {C : Nat → Int} (h : MidT t j D H0 U C) (hg : GoodS C) (ht : t < 10) (hj : j ≤ 3) :
    Zw.enE D.L (t : Int) = 0 ∧ enE (t : Int) = 0 ∧ BetT (t + 1) (Zw.enD D (t : Int)) (enD U (t : Int)) (endS C) := by
  have hl := h.len
  have e1 : Zw.enE D.L (t : Int) = 0 := by
    unfold Zw.enE
    rw [if_pos (h.may ht), if_neg (by omega)]
  refine ⟨e1, if_pos (by omega), ?_⟩
  rw [Zw.enD_more e1]
  have ec : cut (t : Int) U.L = [] := by
    unfold cut
    rw [List.filter_eq_nil_iff]
    intro x hx
    rw [ofT_iff.2 (by rw [h.ns x hx])]; decide
  refine ⟨h.z, fun r hr => ?_, ?_, h.he, ec, fun i hi => ((hg.end_vals i hi).1).trans (h.s1 i hi), fun i hi => ((hg.end_vals i hi).2).trans (h.s1 i hi)⟩
  · rcases List.mem_append.1 hr with k | k
    · rcases h.lo r k with m | m <;> omega
    · rw [List.mem_singleton.1 k]; exact Nat.lt_succ_self _
  · show (D.L ++ [_]).length ≤ _
    rw [List.length_append, List.length_singleton]; omega
/-- A turn is undone. -/
theorem MidT.undo {t j : Nat} {D : Zw.Dk} {H0 : Nat → Nat} {U : Ud} {C : Nat → Int} (h : MidT t j D H0 U C) (hg : GoodS C) (ht : t < 10) (hj : j ≤ 3) :
    enE (t : Int) = 0 ∧ BetT (t + 1) D (unD U (t : Int)) (crS C) := by
  have hl := h.len
  refine ⟨if_pos (by omega), ?_⟩
  rw [h.un]
  refine ⟨h.z, fun r hr => ?_, by omega, h.hv, rfl, fun i hi => ((hg.crash_vals i hi).1).trans (h.s0 i hi), fun i hi => ((hg.crash_vals i hi).2).trans (h.s0 i hi)⟩
  rcases h.lo r hr with m | m <;> omega

end Go.Proofs.Ythgbknfdbobmiaa
