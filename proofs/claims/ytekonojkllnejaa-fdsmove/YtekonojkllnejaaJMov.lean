/- This text proves that platterholdlaw2.FdsMove returns true: who moves on and back is where it was; old memory is as it was; the condition is that the steps' rows lie there. -/
import Derived.Test.YtekonojkllnejaaJ5
import Derived.Test.YtekonojkllnejaaJ6
namespace Go.Proofs.Ytekonojkllnejaa
open Go.RowKit Go.Deep

set_option maxHeartbeats 8000000 in
set_option maxRecDepth 100000 in
theorem fdsMove_any (w : World) (v : Value) (rs : List (List Int)) (hr : RowsIs w v rs) (fd y : Int) :
    Calls Try.prog 4 #[v, .int .i64 fd, .int .i64 y] w fun e w' => e = .returned (.bool true) ∧ Below w.heap.size w w' := by
  have HR : Hid (RowsIs w v rs) := hr
  clear hr
  go_enter Try.func4, Try.ntmps4
  go_wp2_with fail
  refine Calls.mono (fact_any w) ?_
  rintro e w1 ⟨rfl, hb1⟩
  go_wp2_with fail
  refine Calls.mono (did_any w1 v rs (HR.out.later hb1)) ?_
  rintro e w2 ⟨rfl, F, Z, hT⟩
  obtain ⟨G, hG⟩ : ∃ G, G = w1.heap.size := ⟨_, rfl⟩
  rw [← hG] at hT ⊢
  have HB : Hid (Below w.heap.size w w1 ∧ w.heap.size ≤ G) := ⟨hb1, by rw [hG]; exact hb1.size⟩
  have ST : Hid (OnT w1 w2 G F Z) := hT
  clear hb1 hG hT
  by_cases he : mvE F Z fd y = 0
  · obtain ⟨b, S, P, Q, hf, hz, hy, hQ⟩ := mv_good he
    obtain ⟨e1, e2, e3⟩ := mv_of hf hz hy hQ
    have hp : atZ F Z fd = (P : Int) := by rw [atZ_some hf, hz]
    have hz2 : upd Z b (S, Q) b = (S, Q) := upd_self _ _ _
    have hq : atZ F (upd Z b (S, Q)) fd = (Q : Int) := by rw [atZ_some hf, hz2]
    have hPS : P ≤ S ∧ S ≤ 64 := by
      obtain ⟨k1, k2, k3, k4⟩ := opE_some hf
      have := ST.out.1.fits fd.toNat b (by omega) k4
      rw [hz] at this
      exact this
    obtain ⟨u, hu⟩ : ∃ u : Int, u = (P : Int) - (Q : Int) := ⟨_, rfl⟩
    obtain ⟨g1, g2, g3⟩ := mv_of (y := u) hf hz2 (show (Q : Int) + u = (P : Int) by omega) hPS.1
    have HA1 : Hid _ := fun (_ : Nat) => at_any w2 G G F Z ST.out.1 fd
    rw [hp] at HA1
    have HM : Hid _ := fun (_ : Nat) => move_any w2 G G F Z ST.out.1 fd y
    rw [e1, e2, e3, errV_zero] at HM
    have HA2 : Hid _ := fun (w3 : World) (h : OnT w1 w3 G F (upd Z b (S, Q))) => at_any w3 G G F _ h.1 fd
    rw [hq] at HA2
    have HM2 : Hid _ := fun (w3 : World) (h : OnT w1 w3 G F (upd Z b (S, Q))) => move_any w3 G G F _ h.1 fd u
    rw [g1, g2, g3, errV_zero, hu] at HM2
    clear he hf hz e1 e2 e3 hp hz2 hq g1 g2 g3 hu
    go_wp2_with (first
      | (go_at_call 9; refine (HM2.out _ ST3.out).mono ?_; rintro e w4 ⟨rfl, hs4⟩; have ST4 : Hid (OnT w1 w4 G _ _) := ST3.out.stp hs4)
      | (go_at_call 9; refine (HM.out 0).mono ?_; rintro e w3 ⟨rfl, hs3⟩; have ST3 : Hid (OnT w1 w3 G _ _) := ST.out.stp hs3)
      | (go_at_call 8; refine (HA2.out _ ST3.out).mono ?_; rintro e w5 ⟨rfl, rfl⟩)
      | (go_at_call 8; refine (HA1.out 0).mono ?_; rintro e w5 ⟨rfl, rfl⟩))
    go_ret
    exact ⟨rfl, HB.out.1.trans (ST4.out.2.mono HB.out.2)⟩
  · obtain ⟨e1, e2⟩ := mv_bad he
    have HA1 : Hid _ := fun (w3 : World) (h : OnT w1 w3 G F Z) => at_any w3 G G F Z h.1 fd
    have HM : Hid _ := fun (_ : Nat) => move_any w2 G G F Z ST.out.1 fd y
    rw [e1, e2, errV_pos he] at HM
    generalize mvE F Z fd y = E at *
    generalize atZ F Z fd = A at *
    clear he e1 e2
    go_wp2_with (first
      | (go_at_call 9; refine (HM.out 0).mono ?_; rintro e w3 ⟨rfl, hs3⟩; have ST3 : Hid (OnT w1 w3 G _ _) := ST.out.stp hs3)
      | (go_at_call 8; refine (HA1.out _ ST3.out).mono ?_; rintro e w5 ⟨rfl, rfl⟩)
      | (go_at_call 8; refine (HA1.out _ ST.out).mono ?_; rintro e w5 ⟨rfl, rfl⟩))
    go_ret
    exact ⟨rfl, HB.out.1.trans (ST3.out.2.mono HB.out.2)⟩

end Go.Proofs.Ytekonojkllnejaa
