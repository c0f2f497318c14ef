/- This text proves what path.Name and path.isNoPart answer: whether a text is a name, and whether it may not stand between two /; nothing is written; the only condition is that a text is no longer than texts can be. -/
import Derived.Test.YtdlmkienogimgaaGreatDoorQ2
namespace Go.Proofs.YtdlmkienogimgaaGreatDoor
open Go.RowKit Go.Deep Go.Shelf

theorem get_data (s : ByteArray) (k : Nat) (h : k < s.size) : s.data.toList[k]? = some s[k] := by
  have h' : k < s.data.toList.length := by rw [← Lib.size_eq]; exact h
  rw [List.getElem?_eq_getElem h']
  rfl
theorem isN_short {s : ByteArray} (h : s.size < 1) : isN s.data.toList = false := by
  rw [Lib.size_eq] at h
  unfold isN
  rw [decide_eq_false (by omega)]; rfl
theorem isN_long {s : ByteArray} (h : 4 < s.size) : isN s.data.toList = false := by
  rw [Lib.size_eq] at h
  unfold isN
  rw [decide_eq_false (show ¬ s.data.toList.length ≤ 4 by omega)]; simp
theorem isN_bad {s : ByteArray} {k : Nat} (h : k < s.size) (hb : isL s[k] = false) : isN s.data.toList = false := by
  unfold isN
  rw [show s.data.toList.all isL = false from ?_]
  · simp
  · rw [List.all_eq_false]
    have := List.mem_of_getElem? (get_data s k h)
    exact ⟨_, this, by simp [hb]⟩
theorem isN_good {s : ByteArray} (h1 : ¬ s.size < 1) (h2 : ¬ 4 < s.size) (h : ∀ (k : Nat) (hk : k < s.size), isL s[k] = true) : isN s.data.toList = true := by
  unfold isN
  rw [← Lib.size_eq, decide_eq_true (by omega), decide_eq_true (by omega), show s.data.toList.all isL = true from ?_]
  · rfl
  · rw [List.all_eq_true]
    intro c hc
    obtain ⟨i, hi, rfl⟩ := List.getElem_of_mem hc
    have hi' : i < s.size := by rw [Lib.size_eq]; exact hi
    have := get_data s i hi'
    rw [List.getElem?_eq_getElem hi] at this
    rw [Option.some.inj this]
    exact h i hi'

set_option maxHeartbeats 2000000 in
theorem name_any (w : World) (s : ByteArray) (hs : s.size ≤ maxLen) : Calls Tryz.prog 63 #[.string s] w fun e w' => e = .returned (.bool (isN s.data.toList)) ∧ w = w' := by
  unfold maxLen at hs
  by_cases h1 : s.size < 1
  · rw [isN_short h1]
    go_enter Tryz.func63, Tryz.ntmps63
    go_wp2
    go_ret
    exact ⟨rfl, rfl⟩
  · by_cases h2 : 4 < s.size
    · rw [isN_long h2]
      go_enter Tryz.func63, Tryz.ntmps63
      go_wp2
      go_ret
      exact ⟨rfl, rfl⟩
    · obtain ⟨b, hb⟩ : ∃ b, isN s.data.toList = b := ⟨_, rfl⟩
      have HB : Hid (isN s.data.toList = b) := hb
      rw [hb]
      clear hb
      go_enter Tryz.func63, Tryz.ntmps63
      go_wp2
      go_loop [3, 14] (fun _ i => ∃ k : Nat, k ≤ s.size ∧ i = .int .i64 k ∧ ∀ (j : Nat) (hj : j < s.size), j < k → isL s[j] = true) (fun _ i => s.size - (intOf i).toNat)
      case atStart => exact ⟨0, Nat.zero_le _, rfl, fun j _ hj => absurd hj (Nat.not_lt_zero _)⟩
      case round =>
        obtain ⟨k, hk, rfl, hall⟩ := hrel
        have HA : Hid (∀ (j : Nat) (hj : j < s.size), j < k → isL s[j] = true) := hall
        clear hall
        by_cases hlt : k < s.size
        · by_cases h3 : 97 ≤ s[k].toNat
          · by_cases h4 : s[k].toNat ≤ 122
            · go_wp2
              go_round
              case rel =>
                refine ⟨k + 1, by omega, by go_num, fun j hj hj2 => ?_⟩
                by_cases e : j = k
                · subst e; simp [isL, h3, h4]
                · exact HA.out j hj (by omega)
              case measure => simp [intOf]; omega
            · go_wp2
              go_ret
              refine ⟨?_, rfl⟩
              rw [← HB.out, isN_bad hlt (by simp [isL]; omega)]; rfl
          · go_wp2
            go_ret
            refine ⟨?_, rfl⟩
            rw [← HB.out, isN_bad hlt (by simp [isL]; omega)]; rfl
        · have hkn : k = s.size := by omega
          subst hkn
          go_wp2
          go_ret
          refine ⟨?_, rfl⟩
          rw [← HB.out, isN_good h1 h2 fun j hj => HA.out j hj hj]; rfl

set_option maxHeartbeats 2000000 in
theorem nopart_any (w : World) (s : ByteArray) (hs : s.size ≤ maxLen) : Calls Tryz.prog 37 #[.string s] w fun e w' => e = .returned (.bool (noP s.data.toList)) ∧ w = w' := by
  have HK : Hid _ := fun (_ : Nat) => name_any w s hs
  go_enter Tryz.func37, Tryz.ntmps37
  go_wp2_with (go_at_call 63; refine (HK.out 0).mono ?_; rintro e w' ⟨rfl, rfl⟩)
  · rename_i h1
    go_ret
    refine ⟨?_, rfl⟩
    rw [ByteArray.toList_eq] at h1
    rw [h1]; rfl
  · rename_i h0 h1
    go_ret
    refine ⟨?_, rfl⟩
    rw [ByteArray.toList_eq] at h1
    rw [h1]; rfl
  · rename_i h00 h0 h1
    go_ret
    refine ⟨?_, rfl⟩
    rw [ByteArray.toList_eq] at h1
    rw [h1]; rfl
  · rename_i h1 h2 h3
    go_ret
    refine ⟨?_, rfl⟩
    rw [ByteArray.toList_eq] at h1 h2 h3
    have h1' : ¬ s.data = #[] := fun e => h1 (by rw [e])
    simp [noP, h1', h2, h3, ByteArray.toList_eq]

/-- The same of many texts. -/
theorem small_data {l : List UInt8} (h : l.length ≤ 1000000) : (bs l).size ≤ maxLen := by
  rw [Lib.size_eq, data_bs]; unfold maxLen; omega

set_option maxRecDepth 100000 in
theorem Tryz.enterNo : ∀ args w, (callFunc 37 args).run Tryz.prog w = .ok (.enter 37 args) w := fun _ _ => by rfl

theorem any_yes {ls : List (List UInt8)} {k : Nat} (hk : k < ls.length) (h : noP (sth ls k) = true) : ls.any noP = true := by
  rw [List.any_eq_true]
  exact ⟨_, sth_mem hk, h⟩
theorem any_no {ls : List (List UInt8)} (h : ∀ k, k < ls.length → noP (sth ls k) = false) : ls.any noP = false := by
  rw [List.any_eq_false]
  intro x hx
  obtain ⟨i, hi, rfl⟩ := List.getElem_of_mem hx
  rw [← sth_lt hi, h i hi]
  simp

set_option maxHeartbeats 2000000 in
theorem index_any (w : World) (v : Value) (ls : List (List UInt8)) (hx : StrsIs w v ls) (hsm : ∀ l ∈ ls, l.length ≤ 1000000) :
    Calls Tryz.prog 62 #[v, .func (.func 37) #[] #[]] w fun e w' => ∃ i : Int, e = .returned (.int .i64 i) ∧ decide (0 ≤ i) = ls.any noP ∧ w = w' := by
  obtain ⟨a, c, b, o, rfl, _, hl, ha, hc⟩ := hx.where
  obtain ⟨n, hxn⟩ : ∃ n, n = ls.length := ⟨_, rfl⟩
  have HX : Hid (n = ls.length) := hxn
  rw [← hxn] at hl ha hc ⊢
  have HC : Hid (∀ i, i < n → w.cell? ⟨b, o + i, none⟩ = some (.string (bs (sth ls i)))) := hc
  have HS : Hid (∀ i, i < n → (bs (sth ls i)).size ≤ maxLen) := fun i hi => small_data (hsm _ (sth_mem (by rw [← hxn]; exact hi)))
  unfold maxLen at hl
  have e30 := Tryz.enterNo
  clear hc hxn hx hsm
  go_enter Tryz.func62, Tryz.ntmps62
  go_wp2
  go_loop [5, 8] (fun _ i => ∃ k : Nat, k ≤ n ∧ i = .int .i64 k ∧ ∀ j, j < k → noP (sth ls j) = false) (fun _ i => n - (intOf i).toNat)
  case atStart => exact ⟨0, Nat.zero_le _, rfl, fun j hj => absurd hj (Nat.not_lt_zero _)⟩
  case round =>
    obtain ⟨k, hk, rfl, hall⟩ := hrel
    have HA : Hid (∀ j, j < k → noP (sth ls j) = false) := hall
    clear hall
    by_cases hlt : k < n
    · have haa := (ha (by omega)).1
      subst haa
      have hck := HC.out k hlt
      have HZ : Hid _ := fun (_ : Nat) => nopart_any w (bs (sth ls k)) (HS.out k hlt)
      rw [data_bs] at HZ
      cases hi : noP (sth ls k) with
      | true =>
        have HI : Hid (noP (sth ls k) = true) := hi
        rw [hi] at HZ
        clear hi
        go_wp2_with (go_at_call 37; refine (HZ.out 0).mono ?_; rintro e w' ⟨rfl, rfl⟩)
        go_ret
        exact ⟨_, rfl, by rw [any_yes (by rw [← HX.out]; exact hlt) HI.out]; simp, rfl⟩
      | false =>
        have HI : Hid (noP (sth ls k) = false) := hi
        rw [hi] at HZ
        clear hi
        go_wp2_with (go_at_call 37; refine (HZ.out 0).mono ?_; rintro e w' ⟨rfl, rfl⟩)
        go_round
        case rel =>
          refine ⟨k + 1, by omega, by go_num, fun j hj => ?_⟩
          by_cases e : j = k
          · subst e; exact HI.out
          · exact HA.out j (by omega)
        case measure => simp [intOf]; omega
    · have hkn : k = n := by omega
      subst hkn
      go_wp2
      go_ret
      exact ⟨_, rfl, by rw [any_no (by rw [← HX.out]; exact HA.out)]; rfl, rfl⟩

set_option maxHeartbeats 1000000 in
theorem contains_any (w : World) (v : Value) (ls : List (List UInt8)) (hx : StrsIs w v ls) (hsm : ∀ l ∈ ls, l.length ≤ 1000000) :
    Calls Tryz.prog 36 #[v, .func (.func 37) #[] #[]] w fun e w' => e = .returned (.bool (ls.any noP)) ∧ w = w' := by
  have HK : Hid _ := fun (_ : Nat) => index_any w v ls hx hsm
  go_enter Tryz.func36, Tryz.ntmps36
  go_wp2_with (go_at_call 62; refine (HK.out 0).mono ?_; rintro e w' ⟨i, rfl, hi, rfl⟩)
  go_ret
  refine ⟨?_, rfl⟩
  rw [← hi]; rfl

end Go.Proofs.YtdlmkienogimgaaGreatDoor
