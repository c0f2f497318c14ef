/- This text proves what merkle.checkUp and Up answer: where a way leads from a value on, or the first error that the document names; old memory is as it was; the only condition is that the slice lies there. -/
import Derived.Test.YtfokhdoeehdegaaDoorM1
import Derived.Test.YtfokhdoeehdegaaDoorMl
import Derived.OwnWalk
namespace Go.Proofs.YtfokhdoeehdegaaDoor
open Go.RowKit Go.Deep

theorem upE_full {v : Int} {l : List (Bool × Int)} (h : 16 < l.length) : upE v l = 4 := by unfold upE; rw [if_pos h]
theorem upE_v {v : Int} {l : List (Bool × Int)} (h : l.length ≤ 16) (hv : vB v = false) : upE v l = 1 := by unfold upE; rw [if_neg (by omega), if_neg (by rw [hv]; decide)]
theorem upE_s {v : Int} {l : List (Bool × Int)} {k : Nat} (h : l.length ≤ 16) (hv : vB v = true) (hk : k < l.length) (hs : ¬ (0 ≤ (sAt l k).2 ∧ (sAt l k).2 ≤ 9972)) : upE v l = 1 := by
  unfold upE
  rw [if_neg (by omega), if_pos hv, if_neg]
  intro ha
  rw [List.all_eq_true] at ha
  have := ha _ (sAt_mem hk)
  rw [sB, decide_eq_true_iff] at this
  exact hs this
theorem upE_ok {v : Int} {l : List (Bool × Int)} (h : l.length ≤ 16) (hv : vB v = true) (hs : ∀ k, k < l.length → 0 ≤ (sAt l k).2 ∧ (sAt l k).2 ≤ 9972) : upE v l = 0 := by
  unfold upE
  rw [if_neg (by omega), if_pos hv, if_pos]
  rw [List.all_eq_true]
  intro x hx
  obtain ⟨i, hi, rfl⟩ := List.getElem_of_mem hx
  rw [sB, decide_eq_true_iff, ← sAt_lt hi]
  exact hs i hi
theorem upE_zero {v : Int} {l : List (Bool × Int)} (h : upE v l = 0) : l.length ≤ 16 ∧ isV v ∧ ∀ k, k < l.length → 0 ≤ (sAt l k).2 ∧ (sAt l k).2 ≤ 9972 := by
  unfold upE at h
  split at h
  · omega
  · split at h
    · split at h
      · rename_i h1 h2 h3
        refine ⟨by omega, (isV_iff _).1 h2, fun k hk => ?_⟩
        rw [List.all_eq_true] at h3
        have := h3 _ (sAt_mem hk)
        rwa [sB, decide_eq_true_iff] at this
      · omega
    · omega

set_option maxHeartbeats 2000000 in
theorem checkUp_any (w : World) (x : Int) (v : Value) (l : List (Bool × Int)) (hx : SidesIs w v l) :
    Calls Tryd.prog 20 #[.int .i64 x, v] w fun e w' => e = .returned (errV (upE x l)) ∧ Below w.heap.size w w' := by
  obtain ⟨a, c, b, o, rfl, hl, ha, hbb, hc⟩ := hx.where
  obtain ⟨n, hxn⟩ : ∃ n, n = l.length := ⟨_, rfl⟩
  have HX : Hid (n = l.length) := hxn
  rw [← hxn] at hl ha hc hbb ⊢
  have HC : Hid (∀ i, i < n → w.cell? ⟨b, o + i * 2, none⟩ = some (.bool (sAt l i).1) ∧ w.cell? ⟨b, o + i * 2 + 1, none⟩ = some (.int .i64 (sAt l i).2)) := hc
  have HL : Hid (0 < n → b < w.heap.size) := hbb
  unfold maxLen at hl
  clear hc hxn hx hbb
  by_cases h16 : 16 < n
  · have HE : Hid (upE x l = 4) := upE_full (by rw [← HX.out]; exact h16)
    go_enter Tryd.func20, Tryd.ntmps20
    go_wp2
    go_ret
    exact ⟨by rw [HE.out]; rfl, Below.refl _ _⟩
  have h16' : n ≤ 16 := by omega
  have HZ : Hid (l.length ≤ 16) := by show l.length ≤ 16; rw [← HX.out]; exact h16'
  cases hvb : vB x with
  | false =>
    have HE : Hid (upE x l = 1) := upE_v HZ.out hvb
    have HV : Hid (vB x = false) := hvb
    clear hvb
    go_enter Tryd.func20, Tryd.ntmps20
    go_wp2_with (go_at_call 17; refine (isValue_any _ _).mono ?_; rintro e w' ⟨rfl, rfl⟩; rw [HV.out])
    go_ret
    exact ⟨by rw [HE.out]; rfl, Below.refl _ _⟩
  | true =>
    have HV : Hid (vB x = true) := hvb
    clear hvb
    go_enter Tryd.func20, Tryd.ntmps20
    go_wp2_with (go_at_call 17; refine (isValue_any _ _).mono ?_; rintro e w' ⟨rfl, rfl⟩; rw [HV.out])
    go_loopw [17] (fun i wr => ∃ k : Nat, k ≤ n ∧ i = .int .i64 k ∧ (∀ j, j < k → 0 ≤ (sAt l j).2 ∧ (sAt l j).2 ≤ 9972) ∧ Below w.heap.size w wr) (fun i _ => n - (intOf i).toNat)
    case atStart => exact ⟨0, Nat.zero_le _, rfl, fun j hj => absurd hj (Nat.not_lt_zero _), Below.refl _ _⟩
    case round =>
      obtain ⟨k, hk, rfl, hall, hbel⟩ := hrel
      have HA : Hid (∀ j, j < k → 0 ≤ (sAt l j).2 ∧ (sAt l j).2 ≤ 9972) := hall
      have HB : Hid (Below w.heap.size w wr) := hbel
      clear hall hbel
      by_cases hlt : k < n
      · have hc1 : wr.cell? ⟨b, o + k * 2, none⟩ = some (.bool (sAt l k).1) := by rw [HB.out.cell (p := ⟨b, o + k * 2, none⟩) (HL.out (by omega))]; exact (HC.out k hlt).1
        have hc2 : wr.cell? ⟨b, o + k * 2 + 1, none⟩ = some (.int .i64 (sAt l k).2) := by rw [HB.out.cell (p := ⟨b, o + k * 2 + 1, none⟩) (HL.out (by omega))]; exact (HC.out k hlt).2
        have haa := ha (by omega)
        subst haa
        have HS : Hid (∀ y z, (y, z) = sAt l k → ¬ (0 ≤ z ∧ z ≤ 9972) → upE x l = 1) := fun y z e h => upE_s (k := k) HZ.out HV.out (by rw [← HX.out]; exact hlt) (by rw [← e]; exact h)
        obtain ⟨⟨y, z⟩, hyz⟩ : ∃ y, y = sAt l k := ⟨_, rfl⟩
        rw [← hyz] at hc1 hc2
        have HYZ : Hid ((y, z) = sAt l k) := hyz
        clear hyz
        simp only at hc1 hc2
        by_cases h1 : z < 0
        · go_wp2
          go_ret
          exact ⟨by rw [HS.out y z HYZ.out (by omega)]; rfl, HB.out.alloc HB.out.size _⟩
        · by_cases h2 : 9972 < z
          · go_wp2
            go_ret
            exact ⟨by rw [HS.out y z HYZ.out (by omega)]; rfl, HB.out.alloc HB.out.size _⟩
          · go_wp2
            go_roundw
            case rel =>
              refine ⟨k + 1, by omega, by go_num, fun j hj => ?_, HB.out.alloc HB.out.size _⟩
              by_cases e : j = k
              · subst e; rw [← HYZ.out]; exact ⟨by omega, by omega⟩
              · exact HA.out j (by omega)
            case measure => simp [intOf]; omega
      · have hkn : k = n := by omega
        subst hkn
        have HE : Hid (upE x l = 0) := upE_ok HZ.out HV.out (by rw [← HX.out]; exact HA.out)
        go_wp2
        go_ret
        exact ⟨by rw [HE.out]; rfl, HB.out⟩

theorem goUp_take (s : Int) {l : List (Bool × Int)} {k : Nat} (hk : k < l.length) : goUp s (l.take (k + 1)) = oneUp (goUp s (l.take k)) (sAt l k) := by
  rw [List.take_add_one, goUp, List.foldl_append, sAt_lt hk]
  simp [hk, goUp]
theorem goUp_in {v : Int} (l : List (Bool × Int)) (k : Nat) : 0 ≤ goUp (lf v) (l.take k) ∧ goUp (lf v) (l.take k) ≤ 9972 := by
  induction k with
  | zero => simp [goUp]; exact lf_in v
  | succ k ih =>
    by_cases hk : k < l.length
    · rw [goUp_take _ hk]
      unfold oneUp
      split
      · exact jn_in _ _
      · exact jn_in _ _
    · rw [List.take_of_length_le (by omega)]
      rw [List.take_of_length_le (by omega)] at ih
      exact ih

set_option maxHeartbeats 2000000 in
theorem up_no (w : World) (x : Int) (v : Value) (l : List (Bool × Int)) (hx : SidesIs w v l) (he : upE x l ≠ 0) :
    Calls Tryd.prog 9 #[.int .i64 x, v] w fun e w' => e = .returned (.tuple #[.int .i64 0, .iface 44 (.int .i64 (upE x l : Int))]) ∧ Below w.heap.size w w' := by
  have HE : Hid (errV (upE x l) = .iface 44 (.int .i64 (upE x l : Int))) := errV_pos he
  go_enter Tryd.func9, Tryd.ntmps9
  go_wp2_with fail
  refine (checkUp_any w x v l hx).mono ?_
  rintro e w' ⟨rfl, hb⟩
  have HB : Hid (Below w.heap.size w w') := hb
  clear hb
  rw [HE.out]
  go_wp2
  go_ret2
  exact ⟨rfl, HB.out⟩

set_option maxHeartbeats 2000000 in
theorem up_ok (w : World) (x : Int) (v : Value) (l : List (Bool × Int)) (hx : SidesIs w v l) (he : upE x l = 0) :
    Calls Tryd.prog 9 #[.int .i64 x, v] w fun e w' => e = .returned (.tuple #[.int .i64 (goUp (lf x) l), .nilIface]) ∧ Below w.heap.size w w' := by
  have HE : Hid (errV (upE x l) = .nilIface) := by show errV (upE x l) = .nilIface; rw [he]; rfl
  obtain ⟨h16, hv, hs⟩ := upE_zero he
  have HX : Hid (SidesIs w v l) := hx
  obtain ⟨a, c, b, o, rfl, hl, ha, hbb, hc⟩ := hx.where
  obtain ⟨n, hxn⟩ : ∃ n, n = l.length := ⟨_, rfl⟩
  have HN : Hid (n = l.length) := hxn
  rw [← hxn] at hl ha hc hbb HX h16 hs ⊢
  have HC : Hid (∀ i, i < n → w.cell? ⟨b, o + i * 2, none⟩ = some (.bool (sAt l i).1) ∧ w.cell? ⟨b, o + i * 2 + 1, none⟩ = some (.int .i64 (sAt l i).2)) := hc
  have HL : Hid (0 < n → b < w.heap.size) := hbb
  have HS : Hid (∀ k, k < n → 0 ≤ (sAt l k).2 ∧ (sAt l k).2 ≤ 9972) := hs
  unfold maxLen at hl
  clear hc hxn hx hbb hs he
  go_enter Tryd.func9, Tryd.ntmps9
  go_wp2_with fail
  refine (checkUp_any w x _ l HX.out).mono ?_
  rintro e w1 ⟨rfl, hb1⟩
  have HB1 : Hid (Below w.heap.size w w1) := hb1
  clear hb1
  rw [HE.out]
  go_wp2_with (go_at_call 18; refine (leafOf_any _ _ hv).mono ?_; rintro e w' ⟨rfl, rfl⟩)
  go_loopw [7, 20] (fun s i wr => ∃ k : Nat, k ≤ n ∧ i = .int .i64 k ∧ s = .int .i64 (goUp (lf x) (l.take k)) ∧ Below w.heap.size w wr) (fun _ i _ => n - (intOf i).toNat)
  case atStart => exact ⟨0, Nat.zero_le _, rfl, rfl, HB1.out⟩
  case round =>
    obtain ⟨k, hk, rfl, rfl, hbel⟩ := hrel
    have HB : Hid (Below w.heap.size w wr) := hbel
    clear hbel
    by_cases hlt : k < n
    · have hc1 : wr.cell? ⟨b, o + k * 2, none⟩ = some (.bool (sAt l k).1) := by rw [HB.out.cell (p := ⟨b, o + k * 2, none⟩) (HL.out (by omega))]; exact (HC.out k hlt).1
      have hc2 : wr.cell? ⟨b, o + k * 2 + 1, none⟩ = some (.int .i64 (sAt l k).2) := by rw [HB.out.cell (p := ⟨b, o + k * 2 + 1, none⟩) (HL.out (by omega))]; exact (HC.out k hlt).2
      have haa := ha (by omega)
      subst haa
      have hz := HS.out k hlt
      have hg := goUp_in (v := x) l k
      have HT : Hid _ := goUp_take (lf x) (l := l) (k := k) (by rw [← HN.out]; exact hlt)
      obtain ⟨⟨y, z⟩, hyz⟩ : ∃ y, y = sAt l k := ⟨_, rfl⟩
      rw [← hyz] at hc1 hc2 hz HT
      clear hyz
      simp only at hc1 hc2 hz
      obtain ⟨q, hq⟩ : ∃ q, q = goUp (lf x) (l.take k) := ⟨_, rfl⟩
      rw [← hq] at hg HT ⊢
      clear hq
      cases y with
      | true =>
        have HT' : Hid (goUp (lf x) (l.take (k + 1)) = jn z q) := by show goUp (lf x) (l.take (k + 1)) = jn z q; have := HT.out; simpa [oneUp] using this
        clear HT
        go_wp2_with (go_at_call 21; refine (sumOf_any _ _ _ hz hg).mono ?_; rintro e w' ⟨rfl, rfl⟩)
        go_roundw
        case rel => exact ⟨k + 1, by omega, by go_num, by rw [HT'.out], HB.out.alloc HB.out.size _⟩
        case measure => simp [intOf]; omega
      | false =>
        have HT' : Hid (goUp (lf x) (l.take (k + 1)) = jn q z) := by show goUp (lf x) (l.take (k + 1)) = jn q z; have := HT.out; simpa [oneUp] using this
        clear HT
        go_wp2_with (go_at_call 21; refine (sumOf_any _ _ _ hg hz).mono ?_; rintro e w' ⟨rfl, rfl⟩)
        go_roundw
        case rel => exact ⟨k + 1, by omega, by go_num, by rw [HT'.out], HB.out.alloc HB.out.size _⟩
        case measure => simp [intOf]; omega
    · have hkn : k = n := by omega
      subst hkn
      have HT : Hid (l.take k = l) := by show l.take k = l; rw [HN.out]; exact List.take_length
      go_wp2
      go_ret2
      exact ⟨by rw [HT.out]; rfl, HB.out⟩

end Go.Proofs.YtfokhdoeehdegaaDoor
