/- This text proves what extent.Add and Cut answer: what is told, and the set with the run and without it, in new memory; the only condition is that the slice lies there. -/
import Derived.Test.YtihefpnagdacpaaDoorX6
namespace Go.Proofs.YtihefpnagdacpaaDoor
open Go.RowKit Go.Deep

set_option maxHeartbeats 1000000 in
theorem or_fn (x y : Bool) (w : World) : Calls Tryd.prog 20 #[.bool x, .bool y] w fun e w' => e = .returned (.bool (orB x y)) ∧ w = w' := by
  cases x <;> cases y <;>
  · go_enter Tryd.func20, Tryd.ntmps20
    go_wp2
    go_ret
    exact ⟨rfl, rfl⟩

set_option maxHeartbeats 1000000 in
theorem cut_fn (x y : Bool) (w : World) : Calls Tryd.prog 21 #[.bool x, .bool y] w fun e w' => e = .returned (.bool (cutB x y)) ∧ w = w' := by
  cases x <;> cases y <;>
  · go_enter Tryd.func21, Tryd.ntmps21
    go_wp2
    go_ret
    exact ⟨rfl, rfl⟩

set_option maxHeartbeats 1000000 in
/-- A set with a run. -/
theorem add_any (w : World) (v : Value) (l : List Rn) (r : Rn) (hx : RunsIs w v l) :
    Calls Tryd.prog 11 #[v, .agg #[.int .i64 r.1, .int .i64 r.2]] w fun e w' => ∃ v', e = .returned (.tuple #[v', errV (chgE orB l r)]) ∧ RunsIs w' v' (chgL orB l r) ∧ Below w.heap.size w w' := by
  obtain ⟨F, T, rfl⟩ : ∃ F T, r = (F, T) := ⟨r.1, r.2, rfl⟩
  have b0 : Below w.heap.size w (w.alloc (.cells #[.int .i64 F, .int .i64 T] 24)) := below_one _ _
  have HB0 : Hid (Below w.heap.size w (w.alloc (.cells #[.int .i64 F, .int .i64 T] 24))) := b0
  have HK : Hid _ := fun (_ : Nat) => change_any 20 orB rfl (fun _ _ => by rfl) or_fn (w.alloc (.cells #[.int .i64 F, .int .i64 T] 24)) v l (F, T) (hx.later b0)
  clear b0
  generalize errV (chgE orB l (F, T)) = E at HK ⊢
  go_enter Tryd.func11, Tryd.ntmps11
  go_wp2_with (go_at_call 19; refine (HK.out 0).mono ?_; rintro e w1 ⟨v1, rfl, hr1, hb1⟩)
  go_ret2
  exact ⟨_, rfl, hr1, Below.next HB0.out hb1⟩

set_option maxHeartbeats 1000000 in
/-- A set without a run. -/
theorem cut_any (w : World) (v : Value) (l : List Rn) (r : Rn) (hx : RunsIs w v l) :
    Calls Tryd.prog 13 #[v, .agg #[.int .i64 r.1, .int .i64 r.2]] w fun e w' => ∃ v', e = .returned (.tuple #[v', errV (chgE cutB l r)]) ∧ RunsIs w' v' (chgL cutB l r) ∧ Below w.heap.size w w' := by
  obtain ⟨F, T, rfl⟩ : ∃ F T, r = (F, T) := ⟨r.1, r.2, rfl⟩
  have b0 : Below w.heap.size w (w.alloc (.cells #[.int .i64 F, .int .i64 T] 24)) := below_one _ _
  have HB0 : Hid (Below w.heap.size w (w.alloc (.cells #[.int .i64 F, .int .i64 T] 24))) := b0
  have HK : Hid _ := fun (_ : Nat) => change_any 21 cutB rfl (fun _ _ => by rfl) cut_fn (w.alloc (.cells #[.int .i64 F, .int .i64 T] 24)) v l (F, T) (hx.later b0)
  clear b0
  generalize errV (chgE cutB l (F, T)) = E at HK ⊢
  go_enter Tryd.func13, Tryd.ntmps13
  go_wp2_with (go_at_call 19; refine (HK.out 0).mono ?_; rintro e w1 ⟨v1, rfl, hr1, hb1⟩)
  go_ret2
  exact ⟨_, rfl, hr1, Below.next HB0.out hb1⟩

end Go.Proofs.YtihefpnagdacpaaDoor
