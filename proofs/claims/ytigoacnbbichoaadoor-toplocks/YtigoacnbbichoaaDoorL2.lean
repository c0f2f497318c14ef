/- This text proves what ranges.isLock, asked and New answer: whether a lock may be, what it asks for, and a table without locks; old memory is as it was; the only condition is that the place fits its kind of number. -/
import Derived.Test.YtigoacnbbichoaaDoorL1
import Derived.Test.YtigoacnbbichoaaDoorChecked
import Derived.WalkKit
import Derived.Outline
import Derived.WalkSpells
import Derived.WalkLawsBesides
import Derived.Deep.WholeRow
namespace Go.Proofs.YtigoacnbbichoaaDoor
open Go.RowKit Go.Deep

/-- It fits its kind of number. -/
def Fit (x : Int) : Prop := -9223372036854775808 ≤ x ∧ x ≤ 9223372036854775807
/-- A lock's value. -/
def lkV (o f z : Int) (a : Bool) : Value := .agg #[.int .i64 o, .int .i64 f, .int .i64 z, .bool a]

set_option maxHeartbeats 2000000 in
theorem isLock_any (o f z : Int) (a : Bool) (w : World) (hf : Fit f) :
    Calls Tryd.prog 22 #[lkV o f z a] w fun e w' => e = .returned (.bool (okK o f z)) ∧ Below w.heap.size w w' := by
  obtain ⟨f1, f2⟩ := hf
  unfold lkV
  by_cases h1 : 0 ≤ o
  · by_cases h2 : o < 4
    · by_cases h3 : 0 ≤ f
      · by_cases h4 : 1 ≤ z
        · by_cases h5 : z ≤ 64 - f
          · rw [show okK o f z = true from by simp [okK, h1, h2, h3, h4, h5]]
            go_enter Tryd.func22, Tryd.ntmps22
            go_wp2
            go_ret
            exact ⟨rfl, below_one _ _⟩
          · rw [show okK o f z = false from by simp [okK, h5]]
            go_enter Tryd.func22, Tryd.ntmps22
            go_wp2
            go_ret
            exact ⟨rfl, below_one _ _⟩
        · rw [show okK o f z = false from by simp [okK, h4]]
          go_enter Tryd.func22, Tryd.ntmps22
          go_wp2
          go_ret
          exact ⟨rfl, below_one _ _⟩
      · rw [show okK o f z = false from by simp [okK, h3]]
        go_enter Tryd.func22, Tryd.ntmps22
        go_wp2
        go_ret
        exact ⟨rfl, below_one _ _⟩
    · rw [show okK o f z = false from by simp [okK, h2]]
      go_enter Tryd.func22, Tryd.ntmps22
      go_wp2
      go_ret
      exact ⟨rfl, below_one _ _⟩
  · rw [show okK o f z = false from by simp [okK, h1]]
    go_enter Tryd.func22, Tryd.ntmps22
    go_wp2
    go_ret
    exact ⟨rfl, below_one _ _⟩

set_option maxHeartbeats 1000000 in
theorem asked_any (o f z : Int) (a : Bool) (w : World) :
    Calls Tryd.prog 25 #[lkV o f z a] w fun e w' => e = .returned (.int .i64 ((sOf a : Nat) : Int)) ∧ Below w.heap.size w w' := by
  unfold lkV
  cases a
  · go_enter Tryd.func25, Tryd.ntmps25
    go_wp2
    go_ret
    exact ⟨rfl, below_one _ _⟩
  · go_enter Tryd.func25, Tryd.ntmps25
    go_wp2
    go_ret
    exact ⟨rfl, below_one _ _⟩

theorem info_tab : (Tryd.prog.info? 52).map (fun i => (i.zero, i.size)) = some (some (.agg (List.replicate 256 (Value.int .i64 0)).toArray), 256) := by kernel_rfl
theorem info_row : (Tryd.prog.info? 49).map (fun i => (i.zero, i.size)) = some (some (.agg (List.replicate 64 (Value.int .i64 0)).toArray), 64) := by kernel_rfl
theorem size_rows : (Tryd.prog.info? 50).map (·.size) = some 256 := by kernel_rfl

set_option maxHeartbeats 1000000 in
set_option maxRecDepth 100000 in
theorem new_tab (w : World) :
    Calls Tryd.prog 16 #[] w fun e w' => e = .returned (.pointer (some ⟨w.heap.size, 0, none⟩)) ∧ TabAt w' w.heap.size nS ∧ Below w.heap.size w w' := by
  have hz := (zero_of_info (P := Tryd.prog) info_tab).1
  rw [← celN_nought] at hz
  have HT : Hid (∀ w : World, TabAt (w.alloc (.cells (celN nS 256) 52)) w.heap.size nS) := fun w => heap_alloc_new _ _
  generalize celN nS 256 = C at HT hz
  go_enter Tryd.func16, Tryd.ntmps16
  go_wp2
  go_ret
  exact ⟨rfl, HT.out _, below_one _ _⟩

end Go.Proofs.YtigoacnbbichoaaDoor
