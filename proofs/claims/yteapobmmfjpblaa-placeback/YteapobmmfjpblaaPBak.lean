/- This text proves that the law PlaceBack returns true for every number and every way: each block has its own way; the only condition is that the slice lies there and has room. -/
import Derived.Test.YteapobmmfjpblaaP4
import Derived.Deep.RegionWith
namespace Go.Proofs.Yteapobmmfjpblaa
open Go.RowKit Go.Deep

set_option maxHeartbeats 1000000 in
set_option maxRecDepth 100000 in
theorem placeBack_any (w : World) (i : Int) (v : Value) (xs : List Int) (hx : SliceC w v xs) :
    Calls Try.prog 3 #[.int .i64 i, v] w fun e w' => e = .returned (.bool true) ∧ Below w.heap.size w w' := by
  have HX : Hid (∀ w1, Below w.heap.size w w1 → SliceC w1 v xs) := fun w1 h => hx.later h
  have HB : Hid _ := fun (w1 : World) (h : SliceC w1 v xs) => block_any w1 v xs h
  have HO : Hid _ := fun (w1 : World) => of_any i w1
  clear hx
  by_cases hi : 0 ≤ i ∧ i < 24
  · have HC : Hid _ := fun (w1 : World) (v1 : Value) (h : SliceC w1 v1 (ofL i)) => block_any w1 v1 (ofL i) h
    rw [(back_of hi).1, (back_of hi).2, errV_zero] at HC
    rw [ofE_yes hi, errV_zero] at HO
    clear hi
    generalize ofL i = L at HO HC
    by_cases hw : wayE xs = 0
    · have HE : Hid _ := fun (w2 : World) (v1 v2 : Value) (h : SliceIs w2 v1 xs) (h2 : SliceIs w2 v2 xs) => ints_any w2 v1 v2 _ _ h h2
      rw [eqB_self] at HE
      have HN : Hid _ := fun (w1 : World) => of_any (wayN xs) w1
      rw [ofE_yes (of_back hw).1, (of_back hw).2, errV_zero] at HN
      rw [hw, errV_zero] at HB
      clear hw
      generalize wayN xs = n at HB HN
      go_enter Try.func3, Try.ntmps3
      go_wp2_with (first
        | (go_at_call 5; refine (placeFact_any _).mono ?_; rintro e w1 ⟨rfl, hb1⟩)
        | (go_at_call_of 6 i; refine (HO.out _).mono ?_; rintro e w2 ⟨v2, rfl, hr2, hb2⟩)
        | (go_at_call_of 7 v2; refine (HC.out _ _ hr2).mono ?_; rintro e w3 ⟨rfl, q3, rfl⟩; have hB3 := Below.next (Below.next hb1 hb2) (below_drew w2 _ q3); clear hr2; generalize w2.drewN q3 = w3 at hB3 ⊢)
        | (go_at_call_of 7 v; refine (HB.out _ (HX.out _ hB3)).mono ?_; rintro e w4 ⟨rfl, q4, rfl⟩)
        | (go_at_call_of 6 n; refine (HN.out _).mono ?_; rintro e w5 ⟨v5, rfl, hr5, hb5⟩)
        | (go_at_call_of 9 v5; refine (HE.out _ _ _ hr5.is (HX.out _ (Below.next (Below.next hB3 (below_drew _ _ _)) hb5)).is).mono ?_; rintro e w6 ⟨rfl, q6, rfl⟩))
      go_ret
      exact ⟨rfl, Below.next (Below.next (Below.next hB3 (below_drew _ _ _)) hb5) (below_drew _ _ _)⟩
    · rw [wayN_no hw, errV_pos hw] at HB
      clear hw
      generalize ((wayE xs : Nat) : Int) = z at HB
      go_enter Try.func3, Try.ntmps3
      go_wp2_with (first
        | (go_at_call 5; refine (placeFact_any _).mono ?_; rintro e w1 ⟨rfl, hb1⟩)
        | (go_at_call_of 6 i; refine (HO.out _).mono ?_; rintro e w2 ⟨v2, rfl, hr2, hb2⟩)
        | (go_at_call_of 7 v2; refine (HC.out _ _ hr2).mono ?_; rintro e w3 ⟨rfl, q3, rfl⟩; have hB3 := Below.next (Below.next hb1 hb2) (below_drew w2 _ q3); clear hr2; generalize w2.drewN q3 = w3 at hB3 ⊢)
        | (go_at_call_of 7 v; refine (HB.out _ (HX.out _ hB3)).mono ?_; rintro e w4 ⟨rfl, q4, rfl⟩))
      go_ret
      exact ⟨rfl, Below.next hB3 (below_drew _ _ _)⟩
  · have HI : Hid _ := fun (w1 : World) => in_no i 0 23 w1 (fun h => hi (by omega))
    rw [ofE_no hi, errV_pos (by decide)] at HO
    clear hi
    generalize ofL i = L at HO
    by_cases hw : wayE xs = 0
    · have HE : Hid _ := fun (w2 : World) (v1 v2 : Value) (h : SliceIs w2 v1 xs) (h2 : SliceIs w2 v2 xs) => ints_any w2 v1 v2 _ _ h h2
      rw [eqB_self] at HE
      have HN : Hid _ := fun (w1 : World) => of_any (wayN xs) w1
      rw [ofE_yes (of_back hw).1, (of_back hw).2, errV_zero] at HN
      rw [hw, errV_zero] at HB
      clear hw
      generalize wayN xs = n at HB HN
      go_enter Try.func3, Try.ntmps3
      go_wp2_with (first
        | (go_at_call 5; refine (placeFact_any _).mono ?_; rintro e w1 ⟨rfl, hb1⟩)
        | (go_at_call_of 6 i; refine (HO.out _).mono ?_; rintro e w2 ⟨v2, rfl, hr2, hb2⟩)
        | (go_at_call 8; refine (HI.out _).mono ?_; rintro e w3 ⟨rfl, rfl⟩)
        | (go_at_call_of 7 v; refine (HB.out _ (HX.out _ (Below.next hb1 hb2))).mono ?_; rintro e w4 ⟨rfl, q4, rfl⟩)
        | (go_at_call_of 6 n; refine (HN.out _).mono ?_; rintro e w5 ⟨v5, rfl, hr5, hb5⟩)
        | (go_at_call_of 9 v5; refine (HE.out _ _ _ hr5.is (HX.out _ (Below.next (Below.next (Below.next hb1 hb2) (below_drew _ _ _)) hb5)).is).mono ?_; rintro e w6 ⟨rfl, q6, rfl⟩))
      go_ret
      exact ⟨rfl, Below.next (Below.next (Below.next (Below.next hb1 hb2) (below_drew _ _ _)) hb5) (below_drew _ _ _)⟩
    · rw [wayN_no hw, errV_pos hw] at HB
      clear hw
      generalize ((wayE xs : Nat) : Int) = z at HB
      go_enter Try.func3, Try.ntmps3
      go_wp2_with (first
        | (go_at_call 5; refine (placeFact_any _).mono ?_; rintro e w1 ⟨rfl, hb1⟩)
        | (go_at_call_of 6 i; refine (HO.out _).mono ?_; rintro e w2 ⟨v2, rfl, hr2, hb2⟩)
        | (go_at_call 8; refine (HI.out _).mono ?_; rintro e w3 ⟨rfl, rfl⟩)
        | (go_at_call_of 7 v; refine (HB.out _ (HX.out _ (Below.next hb1 hb2))).mono ?_; rintro e w4 ⟨rfl, q4, rfl⟩))
      go_ret
      exact ⟨rfl, Below.next (Below.next hb1 hb2) (below_drew _ _ _)⟩

end Go.Proofs.Yteapobmmfjpblaa
