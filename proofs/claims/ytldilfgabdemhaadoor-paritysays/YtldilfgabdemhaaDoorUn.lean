/- This text proves what parity.Of, parity.Small and parity.Again answer, in one form each for right and wrong inputs: the error's number and the row that belongs to it; the only condition is that the slices lie there. -/
import Derived.Test.YtldilfgabdemhaaDoorAg
import Derived.Test.YtldilfgabdemhaaDoorRf
namespace Go.Proofs.YtldilfgabdemhaaDoor
open Go.RowKit Go.Deep

theorem slice_nil (w : World) : SliceIs w (.slice none 0 0) [] := ⟨none, 0, rfl, Nat.zero_le _, fun h => absurd rfl h⟩

/-- What Of answers. -/
def ofV (rs : List (List Int)) : List Int := if checkE rs = 0 then parity rs else []

theorem of_any (w : World) (v : Value) (rs : List (List Int)) (h : RowsIs w v rs) :
    Calls Tryd.prog 9 #[v] w fun e w' => ∃ v', e = .returned (.tuple #[v', errV (checkE rs)]) ∧ SliceIs w' v' (ofV rs) ∧ Below w.heap.size w w' := by
  by_cases he : checkE rs = 0
  · refine (of_ok w v rs h he).mono ?_
    rintro e w' ⟨v', rfl, hs, hb⟩
    exact ⟨v', by rw [he]; rfl, by rw [ofV, if_pos he]; exact hs, hb⟩
  · refine (of_err w v rs h he).mono ?_
    rintro e w' ⟨rfl, rfl⟩
    exact ⟨_, by rw [errV_pos he], by rw [ofV, if_neg he]; exact slice_nil _, Below.refl _ _⟩

theorem small_any (w : World) (v0 v1 v2 : Value) (x0 x1 x2 : List Int) (h0 : SliceIs w v0 x0) (h1 : SliceIs w v1 x1) (h2 : SliceIs w v2 x2) :
    Calls Tryd.prog 14 #[v0, v1, v2] w fun e w' => ∃ v', e = .returned (.tuple #[v', errV (checkE [x0, x1, x2])]) ∧ SliceIs w' v' (ofV [x0, x1, x2]) ∧ Below w.heap.size w w' := by
  by_cases he : checkE [x0, x1, x2] = 0
  · refine (small_ok w v0 v1 v2 x0 x1 x2 h0 h1 h2 he).mono ?_
    rintro e w' ⟨v', rfl, hs, hb⟩
    exact ⟨v', by rw [he]; rfl, by rw [ofV, if_pos he]; exact hs, hb⟩
  · refine (small_err w v0 v1 v2 x0 x1 x2 h0 h1 h2 he).mono ?_
    rintro e w' ⟨rfl, hb⟩
    exact ⟨_, by rw [errV_pos he], by rw [ofV, if_neg he]; exact slice_nil _, hb⟩

/-- What is wrong, told step by step as the law does. -/
def eB (rs : List (List Int)) (xm : List Int) : Nat := if checkE rs = 0 then bytesE 16 xm else checkE rs
def cC (rs : List (List Int)) (xm : List Int) : Bool := decide (eB rs xm = 0) && !decide (xm.length = (rowAt rs 0).length)
def eC (rs : List (List Int)) (xm : List Int) : Nat := if cC rs xm then 3 else eB rs xm
def cD (rs : List (List Int)) (xm : List Int) (k : Int) : Bool := decide (eC rs xm = 0) && !decide (0 ≤ k ∧ k ≤ (rs.length : Int) - 1)
def eD (rs : List (List Int)) (xm : List Int) (k : Int) : Nat := if cD rs xm k then 1 else eC rs xm
/-- What Again answers. -/
def agV (rs : List (List Int)) (xm : List Int) (k : Int) : List Int := if eD rs xm k = 0 then parity (others rs xm k.toNat) else []

theorem eB_zero {rs : List (List Int)} {xm : List Int} (h : eB rs xm = 0) : checkE rs = 0 ∧ bytesE 16 xm = 0 := by
  unfold eB at h
  by_cases he : checkE rs = 0
  · rw [if_pos he] at h; exact ⟨he, h⟩
  · rw [if_neg he] at h; exact absurd h he

theorem eC_zero {rs : List (List Int)} {xm : List Int} (h : eC rs xm = 0) : eB rs xm = 0 ∧ xm.length = (rowAt rs 0).length := by
  unfold eC at h
  cases hc : cC rs xm with
  | true => rw [hc] at h; simp at h
  | false =>
    rw [hc] at h
    have hb : eB rs xm = 0 := by simpa using h
    refine ⟨hb, ?_⟩
    unfold cC at hc
    simpa [hb] using hc

theorem eD_zero {rs : List (List Int)} {xm : List Int} {k : Int} (h : eD rs xm k = 0) : eC rs xm = 0 ∧ 0 ≤ k ∧ k ≤ (rs.length : Int) - 1 := by
  unfold eD at h
  cases hc : cD rs xm k with
  | true => rw [hc] at h; simp at h
  | false =>
    rw [hc] at h
    have hb : eC rs xm = 0 := by simpa using h
    refine ⟨hb, ?_⟩
    unfold cD at hc
    simpa [hb] using hc

theorem again_any (w : World) (v vm : Value) (k : Int) (rs : List (List Int)) (xm : List Int) (h : RowsIs w v rs) (hm : SliceIs w vm xm) :
    Calls Tryd.prog 13 #[v, vm, .int .i64 k] w fun e w' => ∃ v', e = .returned (.tuple #[v', errV (eD rs xm k)]) ∧ SliceIs w' v' (agV rs xm k) ∧ Below w.heap.size w w' := by
  by_cases he : checkE rs = 0
  · have hg := checkE_zero.1 he
    have hrow := rowE_bytes (rowAt rs 0).length xm
    by_cases hD : eD rs xm k = 0
    · obtain ⟨hC, h0, h1⟩ := eD_zero hD
      obtain ⟨hB, hl⟩ := eC_zero hC
      obtain ⟨_, hby⟩ := eB_zero hB
      rw [if_pos hby, if_pos hl] at hrow
      obtain ⟨kn, rfl⟩ := Int.eq_ofNat_of_zero_le h0
      refine (again_ok w v vm _ kn rs xm h hm hg (rowE_zero.1 hrow) (by omega)).mono ?_
      rintro e w' ⟨v', rfl, hs, hb⟩
      exact ⟨v', by rw [hD]; rfl, by rw [agV, if_pos hD]; exact hs, hb⟩
    · have hE : (if rowE (rowAt rs 0).length xm = 0 then 1 else rowE (rowAt rs 0).length xm) = eD rs xm k ∧ (rowE (rowAt rs 0).length xm ≠ 0 ∨ ¬ (0 ≤ k ∧ k < (rs.length : Int))) := by
        by_cases hb : bytesE 16 xm = 0
        · have eb : eB rs xm = 0 := by rw [eB, if_pos he, hb]
          by_cases hl : xm.length = (rowAt rs 0).length
          · rw [if_pos hb, if_pos hl] at hrow
            have cc : cC rs xm = false := by unfold cC; simp [hl]
            have ec : eC rs xm = 0 := by unfold eC; rw [cc]; simpa using eb
            by_cases hk : 0 ≤ k ∧ k ≤ (rs.length : Int) - 1
            · have cd : cD rs xm k = false := by unfold cD; rw [decide_eq_true hk]; simp
              exact absurd (by unfold eD; rw [cd]; simpa using ec) hD
            · have cd : cD rs xm k = true := by unfold cD; rw [decide_eq_false hk, ec]; rfl
              exact ⟨by rw [hrow]; unfold eD; rw [cd]; rfl, Or.inr (by omega)⟩
          · rw [if_pos hb, if_neg hl] at hrow
            have cc : cC rs xm = true := by unfold cC; rw [eb]; simp [hl]
            have ec : eC rs xm = 3 := by unfold eC; rw [cc]; rfl
            have cd : cD rs xm k = false := by unfold cD; rw [ec]; rfl
            exact ⟨by rw [hrow]; unfold eD; rw [cd, ec]; rfl, Or.inl (by rw [hrow]; decide)⟩
        · rw [if_neg hb] at hrow
          have eb : eB rs xm = bytesE 16 xm := by rw [eB, if_pos he]
          have cc : cC rs xm = false := by unfold cC; rw [eb, decide_eq_false hb]; rfl
          have ec : eC rs xm = bytesE 16 xm := by unfold eC; rw [cc]; simpa using eb
          have cd : cD rs xm k = false := by unfold cD; rw [ec, decide_eq_false hb]; rfl
          exact ⟨by rw [hrow, if_neg hb]; unfold eD; rw [cd, ec]; rfl, Or.inl (by rw [hrow]; exact hb)⟩
      refine (again_err2 w v vm k _ rs xm h hm hg hE.2).mono ?_
      rintro e w' ⟨rfl, rfl⟩
      exact ⟨_, by rw [hE.1], by rw [agV, if_neg hD]; exact slice_nil _, Below.refl _ _⟩
  · have eb : eB rs xm = checkE rs := by rw [eB, if_neg he]
    have cc : cC rs xm = false := by unfold cC; rw [eb, decide_eq_false he]; rfl
    have ec : eC rs xm = checkE rs := by unfold eC; rw [cc]; simpa using eb
    have cd : cD rs xm k = false := by unfold cD; rw [ec, decide_eq_false he]; rfl
    have ed : eD rs xm k = checkE rs := by unfold eD; rw [cd]; simpa using ec
    refine (again_err1 w v vm k rs h he).mono ?_
    rintro e w' ⟨rfl, rfl⟩
    exact ⟨_, by rw [ed], by rw [agV, if_neg (by rw [ed]; exact he)]; exact slice_nil _, Below.refl _ _⟩

end Go.Proofs.YtldilfgabdemhaaDoor
