/- This text proves in one form what merkle.Root, Way and Up answer, right or wrong; old memory is as it was; the only condition is that the slices lie there and can be cut. -/
import Derived.Test.YtfokhdoeehdegaaDoorM4
import Derived.Test.YtfokhdoeehdegaaDoorM5
import Derived.Test.YtfokhdoeehdegaaDoorM6
import Derived.Test.YtfokhdoeehdegaaDoorLo
namespace Go.Proofs.YtfokhdoeehdegaaDoor
open Go.RowKit Go.Deep

/-- The value is a slice of numbers, and has room for them. -/
def SliceC (w : World) (v : Value) (xs : List Int) : Prop := ∃ a c, v = .slice a xs.length c ∧ xs.length ≤ c ∧ SliceIs w v xs

theorem SliceC.is {w : World} {v : Value} {xs : List Int} (h : SliceC w v xs) : SliceIs w v xs := by
  obtain ⟨a, c, _, _, h⟩ := h
  exact h
theorem SliceC.later {w w' : World} {v : Value} {xs : List Int} (h : SliceC w v xs) (hb : Below w.heap.size w w') : SliceC w' v xs := by
  obtain ⟨a, c, h1, h2, h3⟩ := h
  exact ⟨a, c, h1, h2, h3.later hb⟩

/-- What merkle.Root answers. -/
def rootV (xs : List Int) : Value := .tuple #[.int .i64 (if chkE xs = 0 then rootL xs else 0), errV (chkE xs)]
theorem rootV_ok {xs : List Int} (h : chkE xs = 0) : rootV xs = .tuple #[.int .i64 (rootL xs), .nilIface] := by unfold rootV; rw [if_pos h, h]; rfl
theorem rootV_no {xs : List Int} (h : chkE xs ≠ 0) : rootV xs = .tuple #[.int .i64 0, .iface 44 (.int .i64 (chkE xs : Int))] := by unfold rootV; rw [if_neg h, errV_pos h]

theorem root_any (w : World) (v : Value) (xs : List Int) (hx : SliceC w v xs) :
    Calls Tryd.prog 13 #[v] w fun e w' => e = .returned (rootV xs) ∧ Below w.heap.size w w' := by
  obtain ⟨a, c, rfl, h2, h3⟩ := hx
  by_cases h : chkE xs = 0
  · rw [rootV_ok h]; exact root_ok w a xs.length c xs h2 h3 h
  · rw [rootV_no h]
    refine (root_no w _ xs h3 h).mono ?_
    rintro e w' ⟨rfl, rfl⟩
    exact ⟨rfl, Below.refl _ _⟩

/-- What is wrong with values and a place, and the way. -/
def wayE (xs : List Int) (i : Int) : Nat := if chkE xs = 0 then (if 0 ≤ i ∧ i < (xs.length : Int) then 0 else 1) else chkE xs
def wayI (xs : List Int) (i : Int) : List (Bool × Int) := if wayE xs i = 0 then wayL xs i.toNat else []

theorem wayE_zero {xs : List Int} {i : Int} (h : wayE xs i = 0) : chkE xs = 0 ∧ 0 ≤ i ∧ i < (xs.length : Int) := by
  unfold wayE at h
  split at h
  · rename_i h0
    split at h
    · rename_i h1
      exact ⟨h0, h1⟩
    · omega
  · rename_i h0
    exact absurd h h0

theorem way_any (w : World) (v : Value) (xs : List Int) (i : Int) (hx : SliceC w v xs) :
    Calls Tryd.prog 15 #[v, .int .i64 i] w fun e w' => ∃ v', e = .returned (.tuple #[v', errV (wayE xs i)]) ∧ w'.ownsRow w.heap.size 32 2 v' (wayI xs i).length (sdc (wayI xs i)) ∧ Below w.heap.size w w' := by
  obtain ⟨a, c, rfl, h2, h3⟩ := hx
  by_cases h : chkE xs = 0
  · by_cases hi : 0 ≤ i ∧ i < (xs.length : Int)
    · have he : wayE xs i = 0 := by unfold wayE; rw [if_pos h, if_pos hi]
      rw [show wayI xs i = wayL xs i.toNat from if_pos he, he]
      obtain ⟨k, rfl⟩ : ∃ k : Nat, i = (k : Int) := ⟨i.toNat, by omega⟩
      exact way_ok w a xs.length c k xs h2 h3 h (by omega)
    · have he : wayE xs i = 1 := by unfold wayE; rw [if_pos h, if_neg hi]
      rw [show wayI xs i = [] from if_neg (by omega), he]
      refine (way_range w _ xs i h3 h hi).mono ?_
      rintro e w' ⟨rfl, hb⟩
      exact ⟨_, rfl, World.ownsRow_nil _ _ _ _, hb⟩
  · have he : wayE xs i = chkE xs := if_neg h
    rw [show wayI xs i = [] from if_neg (by rw [he]; exact h), he]
    refine (way_no w _ xs i h3 h).mono ?_
    rintro e w' ⟨rfl, hb⟩
    exact ⟨_, by rw [errV_pos h], World.ownsRow_nil _ _ _ _, hb⟩

/-- What merkle.Up answers. -/
def upV (x : Int) (l : List (Bool × Int)) : Value := .tuple #[.int .i64 (if upE x l = 0 then goUp (lf x) l else 0), errV (upE x l)]
theorem upV_ok {x : Int} {l : List (Bool × Int)} (h : upE x l = 0) : upV x l = .tuple #[.int .i64 (goUp (lf x) l), .nilIface] := by unfold upV; rw [if_pos h, h]; rfl
theorem upV_no {x : Int} {l : List (Bool × Int)} (h : upE x l ≠ 0) : upV x l = .tuple #[.int .i64 0, .iface 44 (.int .i64 (upE x l : Int))] := by unfold upV; rw [if_neg h, errV_pos h]

theorem up_any (w : World) (x : Int) (v : Value) (l : List (Bool × Int)) (hx : SidesIs w v l) :
    Calls Tryd.prog 9 #[.int .i64 x, v] w fun e w' => e = .returned (upV x l) ∧ Below w.heap.size w w' := by
  by_cases h : upE x l = 0
  · rw [upV_ok h]; exact up_ok w x v l hx h
  · rw [upV_no h]; exact up_no w x v l hx h

theorem wayI_len (xs : List Int) (i : Int) : (wayI xs i).length ≤ 4 := by
  unfold wayI
  split
  · rename_i h
    obtain ⟨h1, _⟩ := wayE_zero h
    obtain ⟨h2, h3, _⟩ := chkE_zero h1
    exact wayL_len h2 h3
  · simp

theorem wayI_own {w : World} {base : Nat} {v : Value} {xs : List Int} {i : Int} (h : w.ownsRow base 32 2 v (wayI xs i).length (sdc (wayI xs i))) : SidesIs w v (wayI xs i) :=
  sides_own h (by have := wayI_len xs i; unfold maxLen; omega)

/-- The way of a value may be gone from any value. -/
theorem upE_way {xs : List Int} {i v : Int} (h : vB v = true) : upE v (wayI xs i) = 0 := by
  refine upE_ok (by have := wayI_len xs i; omega) h fun k hk => ?_
  have := sAt_mem hk
  unfold wayI at this hk ⊢
  split at hk
  · rename_i h0
    rw [if_pos h0] at this ⊢
    exact way_in 16 xs _ _ this
  · simp at hk

/-- A list of numbers that the call itself lays. -/
theorem lit_c (w : World) (xs : List Int) (hm : xs.length ≤ maxLen) : SliceC (w.alloc (.cells (xs.map fun x => Value.int .i64 x).toArray 3)) (.slice (some ⟨w.heap.size, 0, none⟩) xs.length xs.length) xs :=
  ⟨_, _, rfl, Nat.le_refl _, ints_lit w xs hm _⟩

theorem side_lit (w : World) (x : Bool × Int) : SidesIs (w.alloc (.cells #[.bool x.1, .int .i64 x.2] 32)) (.slice (some ⟨w.heap.size, 0, none⟩) 1 1) [x] := by
  refine ⟨_, 1, rfl, show 1 ≤ maxLen by decide, fun _ => ⟨w.heap.size, 0, rfl, by simp, fun i hi => ?_⟩⟩
  obtain rfl : i = 0 := by simp at hi; omega
  exact ⟨ncell_new _ _ _ _, ncell_new _ _ _ _⟩

end Go.Proofs.YtfokhdoeehdegaaDoor
