/- This text proves what place.check and place.Block answer, and what they call: what is wrong with a way, and the block at it; nothing is written; the only condition is that the slice lies there and has room. -/
import Derived.Test.YtepnbkonhaongaaDoorP1r
namespace Go.Proofs.YtepnbkonhaongaaDoor
open Go.RowKit Go.Deep

set_option maxHeartbeats 1000000 in
theorem outside_any (x : Int) (w : World) : Calls Tryd.prog 43 #[.int .i64 x] w fun e w' => e = .returned (.bool (!inT x)) ∧ w = w' := by
  by_cases h1 : 0 ≤ x
  · by_cases h2 : x ≤ 3
    · rw [show inT x = true from by simp [inT, h1, h2]]
      go_enter Tryd.func43, Tryd.ntmps43
      go_wp2
      go_ret
      exact ⟨congrArg (fun b => Ending.returned (.bool b)) (show (decide (x < 0) || decide (4 ≤ x)) = !true by rw [decide_eq_false (by omega), decide_eq_false (by omega)]; rfl), rfl⟩
    · rw [show inT x = false from by simp [inT, h2]]
      go_enter Tryd.func43, Tryd.ntmps43
      go_wp2
      go_ret
      exact ⟨congrArg (fun b => Ending.returned (.bool b)) (show (decide (x < 0) || decide (4 ≤ x)) = !false by rw [decide_eq_true (show 4 ≤ x by omega)]; simp), rfl⟩
  · rw [show inT x = false from by simp [inT, h1]]
    go_enter Tryd.func43, Tryd.ntmps43
    go_wp2
    go_ret
    exact ⟨rfl, rfl⟩

set_option maxHeartbeats 1000000 in
theorem size_of (x : Int) (w : World) : Calls Tryd.prog 44 #[.int .i64 x] w fun e w' => e = .returned (.int .i64 (szW x : Int)) ∧ w = w' := by
  by_cases h1 : x = 4
  · subst h1
    rw [show szW 4 = 2 from rfl]
    go_enter Tryd.func44, Tryd.ntmps44
    go_wp2
    go_ret
    exact ⟨rfl, rfl⟩
  · have b1 : (x == 4) = false := by simp [h1]
    by_cases h2 : x = 5
    · subst h2
      rw [show szW 5 = 3 from rfl]
      go_enter Tryd.func44, Tryd.ntmps44
      go_wp2
      go_ret
      exact ⟨rfl, rfl⟩
    · have b2 : (x == 5) = false := by simp [h2]
      rw [show szW x = 1 from by unfold szW; rw [if_neg h1, if_neg h2]]
      go_enter Tryd.func44, Tryd.ntmps44
      go_wp2
      go_ret
      exact ⟨rfl, rfl⟩

theorem Tryd.enterOut : ∀ args w, (callFunc 43 args).run Tryd.prog w = .ok (.enter 43 args) w := fun _ _ => by rfl

theorem all_no {xs : List Int} {k : Nat} (hk : k < xs.length) (h : inT (nth xs k) = false) : xs.all inT = false := by
  rw [List.all_eq_false]
  exact ⟨_, nth_mem hk, by simp [h]⟩
theorem all_yes {xs : List Int} (h : ∀ k, k < xs.length → inT (nth xs k) = true) : xs.all inT = true := by
  rw [List.all_eq_true]
  intro x hx
  obtain ⟨i, hi, rfl⟩ := List.getElem_of_mem hx
  rw [← nth_lt hi]
  exact h i hi

set_option maxHeartbeats 2000000 in
theorem index_any (w : World) (v : Value) (xs : List Int) (hx : SliceIs w v xs) :
    Calls Tryd.prog 50 #[v, .func (.func 43) #[] #[]] w fun e w' => ∃ i : Int, e = .returned (.int .i64 i) ∧ decide (0 ≤ i) = (!xs.all inT) ∧ w = w' := by
  obtain ⟨a, c, b, o, rfl, hl, ha, hc⟩ := hx.where
  obtain ⟨n, hxn⟩ : ∃ n, n = xs.length := ⟨_, rfl⟩
  have HX : Hid (n = xs.length) := hxn
  rw [← hxn] at hl ha hc ⊢
  have HC : Hid (∀ i, i < n → w.cell? ⟨b, o + i, none⟩ = some (.int .i64 (nth xs i))) := hc
  unfold maxLen at hl
  have e30 := Tryd.enterOut
  clear hc hxn hx
  go_enter Tryd.func50, Tryd.ntmps50
  go_wp2
  go_loop [5, 8] (fun _ i => ∃ k : Nat, k ≤ n ∧ i = .int .i64 k ∧ ∀ j, j < k → inT (nth xs j) = true) (fun _ i => n - (intOf i).toNat)
  case atStart => exact ⟨0, Nat.zero_le _, rfl, fun j hj => absurd hj (Nat.not_lt_zero _)⟩
  case round =>
    obtain ⟨k, hk, rfl, hall⟩ := hrel
    have HA : Hid (∀ j, j < k → inT (nth xs j) = true) := hall
    clear hall
    by_cases hlt : k < n
    · have haa := ha (by omega)
      subst haa
      have hck := HC.out k hlt
      cases hi : inT (nth xs k) with
      | false =>
        have HI : Hid (inT (nth xs k) = false) := hi
        clear hi
        go_wp2_with (go_at_call 43; refine (outside_any _ _).mono ?_; rintro e w' ⟨rfl, rfl⟩; rw [HI.out])
        go_ret
        exact ⟨_, rfl, by rw [all_no (by rw [← HX.out]; exact hlt) HI.out]; simp, rfl⟩
      | true =>
        have HI : Hid (inT (nth xs k) = true) := hi
        clear hi
        go_wp2_with (go_at_call 43; refine (outside_any _ _).mono ?_; rintro e w' ⟨rfl, rfl⟩; rw [HI.out])
        go_round
        case rel =>
          refine ⟨k + 1, by omega, by go_num, fun j hj => ?_⟩
          by_cases e : j = k
          · subst e; exact HI.out
          · exact HA.out j (by omega)
        case measure => simp [intOf]; omega
    · have hkn : k = n := by omega
      subst hkn
      go_wp2
      go_ret
      exact ⟨_, rfl, by rw [all_yes (by rw [← HX.out]; exact HA.out)]; rfl, rfl⟩

set_option maxHeartbeats 1000000 in
theorem contains_any (w : World) (v : Value) (xs : List Int) (hx : SliceIs w v xs) :
    Calls Tryd.prog 38 #[v, .func (.func 43) #[] #[]] w fun e w' => e = .returned (.bool (!xs.all inT)) ∧ w = w' := by
  have HK : Hid _ := fun (_ : Nat) => index_any w v xs hx
  go_enter Tryd.func38, Tryd.ntmps38
  go_wp2_with (go_at_call 50; refine (HK.out 0).mono ?_; rintro e w' ⟨i, rfl, hi, rfl⟩)
  go_ret
  exact ⟨rfl, rfl⟩

/-- A slice that has a number. -/
theorem SliceC.first {w : World} {v : Value} {x : Int} {l : List Int} (h : SliceC w v (x :: l)) : ∃ b o c, v = .slice (some ⟨b, o, none⟩) (l.length + 1) c ∧ l.length + 1 ≤ c ∧ l.length + 1 ≤ maxLen ∧ (∀ i, i < l.length + 1 → w.cell? ⟨b, o + i, none⟩ = some (.int .i64 (nth (x :: l) i))) ∧ (0 < l.length → SliceIs w (.slice (some ⟨b, o + 1, none⟩) l.length (c - 1)) l) := by
  have h0 := h
  obtain ⟨a, c, rfl, hc, a', c', hv, hl, hi⟩ := h
  cases hv
  obtain ⟨b, o, rfl, hb, hcell⟩ := hi (by simp)
  refine ⟨b, o, c, rfl, by simpa using hc, by simpa using hl, fun i hi => hcell i (by simpa using hi), fun hp => ?_⟩
  have := h0.tail (by simpa using hp)
  simpa using this
theorem slice_nil (w : World) (a : Option Addr) (c : Nat) : SliceIs w (.slice a 0 c) [] := ⟨a, c, rfl, Nat.zero_le _, fun h => absurd rfl h⟩

set_option maxHeartbeats 2000000 in
theorem check_any (w : World) (v : Value) (xs : List Int) (hx : SliceC w v xs) :
    Calls Tryd.prog 33 #[v] w fun e w' => e = .returned (errV (wayE xs)) ∧ w = w' := by
  cases xs with
  | nil =>
    obtain ⟨a, c, rfl, _, _⟩ := hx
    rw [show wayE [] = 5 from rfl, errV_pos (by decide)]
    go_enter Tryd.func33, Tryd.ntmps33
    go_wp2
    go_ret
    exact ⟨rfl, rfl⟩
  | cons x l =>
    obtain ⟨b, o, c, rfl, hc, hl, hcell, ht⟩ := hx.first
    have c0 := hcell 0 (by omega)
    rw [nth_0, Nat.add_zero] at c0
    rw [wayE_cons]
    clear hcell
    unfold maxLen at hl
    by_cases h1 : 0 ≤ x
    · by_cases h2 : x ≤ 5
      · have hsz : ∀ K : Nat, (if 0 ≤ x ∧ x ≤ 5 ∧ l.all inT = true then (if l.length + 1 = szW x then 0 else 3) else 1) = (if l.all inT = true then (if l.length + 1 = szW x then 0 else 3) else 1) := fun _ => by
          by_cases h : l.all inT = true
          · rw [if_pos ⟨h1, h2, h⟩, if_pos h]
          · rw [if_neg (fun k => h k.2.2), if_neg h]
        rw [hsz 0]
        clear hsz
        have HC : Hid (∀ (a : Option Addr) (u : Nat), (0 < l.length → a = some ⟨b, o + 1, none⟩ ∧ u = c - 1) → Calls Tryd.prog 38 #[.slice a l.length u, .func (.func 43) #[] #[]] w fun e w' => e = .returned (.bool (!l.all inT)) ∧ w = w') := fun a u h => by
          refine contains_any w _ l ?_
          by_cases hp : 0 < l.length
          · obtain ⟨rfl, rfl⟩ := h hp
            exact ht hp
          · obtain rfl := List.length_eq_zero_iff.1 (show l.length = 0 by omega)
            exact slice_nil _ _ _
        have HS : Hid _ := fun (_ : Nat) => size_of x w
        clear ht
        generalize l.all inT = B at HC ⊢
        generalize szW x = z at HS ⊢
        clear hx
        generalize l.length = n at HC hc hl ⊢
        cases B with
        | false =>
          rw [if_neg (by decide), errV_pos (by decide)]
          by_cases hc1 : c = 1
          · obtain rfl : n = 0 := by omega
            subst hc1
            go_enter Tryd.func33, Tryd.ntmps33
            go_wp2_with (first | (go_at_call 38; refine (HC.out _ _ (fun h => absurd h (Nat.lt_irrefl 0))).mono ?_; rintro e w' ⟨rfl, rfl⟩) | (go_at_call 44; refine (HS.out 0).mono ?_; rintro e w' ⟨rfl, rfl⟩))
            go_ret
            exact ⟨rfl, rfl⟩
          · have hc2 : ¬ (c : Int) = 1 := by omega
            go_enter Tryd.func33, Tryd.ntmps33
            go_wp2_with (first | (go_at_call 38; refine (HC.out _ _ (fun _ => ⟨rfl, rfl⟩)).mono ?_; rintro e w' ⟨rfl, rfl⟩) | (go_at_call 44; refine (HS.out 0).mono ?_; rintro e w' ⟨rfl, rfl⟩))
            go_ret
            exact ⟨rfl, rfl⟩
        | true =>
          rw [if_pos rfl]
          by_cases hz : n + 1 = z
          · rw [if_pos hz, errV_zero]
            have hz' : ((n : Int) + 1 == (z : Int)) = true := by simp; omega
            have hz2 : ((1 : Int) == (z : Int)) = true ∨ n ≠ 0 := by simp; omega
            clear hz
            by_cases hc1 : c = 1
            · obtain rfl : n = 0 := by omega
              subst hc1
              replace hz2 := hz2.resolve_right (by simp)
              clear hz'
              go_enter Tryd.func33, Tryd.ntmps33
              go_wp2_with (first | (go_at_call 38; refine (HC.out _ _ (fun h => absurd h (Nat.lt_irrefl 0))).mono ?_; rintro e w' ⟨rfl, rfl⟩) | (go_at_call 44; refine (HS.out 0).mono ?_; rintro e w' ⟨rfl, rfl⟩))
              go_ret
              exact ⟨rfl, rfl⟩
            · have hc2 : ¬ (c : Int) = 1 := by omega
              clear hz2
              go_enter Tryd.func33, Tryd.ntmps33
              go_wp2_with (first | (go_at_call 38; refine (HC.out _ _ (fun _ => ⟨rfl, rfl⟩)).mono ?_; rintro e w' ⟨rfl, rfl⟩) | (go_at_call 44; refine (HS.out 0).mono ?_; rintro e w' ⟨rfl, rfl⟩))
              go_ret
              exact ⟨rfl, rfl⟩
          · rw [if_neg hz, errV_pos (by decide)]
            have hz' : ((n : Int) + 1 == (z : Int)) = false := by simp; omega
            by_cases hc1 : c = 1
            · obtain rfl : n = 0 := by omega
              subst hc1
              go_enter Tryd.func33, Tryd.ntmps33
              go_wp2_with (first | (go_at_call 38; refine (HC.out _ _ (fun h => absurd h (Nat.lt_irrefl 0))).mono ?_; rintro e w' ⟨rfl, rfl⟩) | (go_at_call 44; refine (HS.out 0).mono ?_; rintro e w' ⟨rfl, rfl⟩))
              go_ret
              exact ⟨rfl, rfl⟩
            · have hc2 : ¬ (c : Int) = 1 := by omega
              go_enter Tryd.func33, Tryd.ntmps33
              go_wp2_with (first | (go_at_call 38; refine (HC.out _ _ (fun _ => ⟨rfl, rfl⟩)).mono ?_; rintro e w' ⟨rfl, rfl⟩) | (go_at_call 44; refine (HS.out 0).mono ?_; rintro e w' ⟨rfl, rfl⟩))
              go_ret
              exact ⟨rfl, rfl⟩
      · rw [if_neg (fun h => h2 h.2.1), errV_pos (by decide)]
        clear ht
        go_enter Tryd.func33, Tryd.ntmps33
        go_wp2
        go_ret
        exact ⟨rfl, rfl⟩
    · rw [if_neg (fun h => h1 h.1), errV_pos (by decide)]
      clear ht
      go_enter Tryd.func33, Tryd.ntmps33
      go_wp2
      go_ret
      exact ⟨rfl, rfl⟩

end Go.Proofs.YtepnbkonhaongaaDoor
