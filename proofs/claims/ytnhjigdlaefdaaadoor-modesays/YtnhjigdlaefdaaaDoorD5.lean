/- This text proves what mode.Read answers of any text: its mode, and what is wrong; the world is as it was; no condition. -/
import Derived.Test.YtnhjigdlaefdaaaDoorD1
import Derived.Test.YtnhjigdlaefdaaaDoorLo
namespace Go.Proofs.YtnhjigdlaefdaaaDoor
open Go.RowKit Go.Deep

theorem getD_data (s : ByteArray) (k : Nat) (h : k < s.size) : s.data.toList.getD k 0 = s[k] := by
  have h' : k < s.data.toList.length := h
  rw [List.getD_eq_getElem?_getD, List.getElem?_eq_getElem h']
  rfl
theorem u8_eq {a b : UInt8} : ((a.toNat : Int) == (b.toNat : Int)) = decide (a = b) := by
  by_cases h : a = b
  · subst h; simp
  · rw [decide_eq_false h]
    have : ¬ a.toNat = b.toNat := fun e => h (UInt8.toNat_inj.1 e)
    simp only [beq_eq_false_iff_ne, ne_eq]
    omega
theorem lett_at (k : Nat) (h : k < 9) : (⟨#[114, 119, 120, 114, 119, 120, 114, 119, 120]⟩ : ByteArray)[k]'h = lt k := by
  rcases k with _ | _ | _ | _ | _ | _ | _ | _ | _ | k
  all_goals first | omega | rfl

theorem okL_no {l : List UInt8} {k : Nat} (hk : k < 9) (h : okAt l k = false) : okL l = false := by
  rw [Bool.eq_false_iff]
  intro e
  rw [okL_iff.1 e k hk] at h
  cases h

set_option maxHeartbeats 4000000 in
theorem read_any (s : ByteArray) (w : World) :
    Calls Tryd.prog 13 #[.string s] w fun e w' => e = .returned (.tuple #[.int .i64 (rdM s.data.toList : Int), errV (rdE s.data.toList)]) ∧ w = w' := by
  by_cases h9 : s.size = 9
  · have HNO : Hid (∀ k, k < 9 → okAt s.data.toList k = false → rdE s.data.toList = 2 ∧ rdM s.data.toList = 0) := fun k h1 h2 => by
      have hl : s.data.toList.length = 9 := h9
      have e1 : rdE s.data.toList = 2 := by unfold rdE; rw [if_pos hl, okL_no h1 h2]; rfl
      exact ⟨e1, by unfold rdM; rw [e1]; rfl⟩
    have HYES : Hid ((∀ k, k < 9 → okAt s.data.toList k = true) → rdE s.data.toList = 0 ∧ rdM s.data.toList = rd s.data.toList 9) := fun h => by
      have hl : s.data.toList.length = 9 := h9
      have e1 : rdE s.data.toList = 0 := rdE_zero.2 ⟨hl, okL_iff.2 h⟩
      exact ⟨e1, by unfold rdM; rw [if_pos e1]⟩
    have HG : Hid (∀ (k : Nat) (h : k < s.size), s.data.toList.getD k 0 = s[k]) := fun k h => getD_data s k h
    generalize rdE s.data.toList = RE at HNO HYES ⊢
    generalize rdM s.data.toList = RM at HNO HYES ⊢
    generalize s.data.toList = l at HNO HYES HG ⊢
    go_enter Tryd.func13, Tryd.ntmps13
    go_wp2
    go_loop [4, 5, 12, 19, 27] (fun r _ i _ _ => ∃ k : Nat, k ≤ 9 ∧ i = .int .i64 k ∧ r = .int .i64 (rd l k : Int) ∧ ∀ j, j < k → okAt l j = true) (fun _ _ i _ _ => 9 - (intOf i).toNat)
    case atStart => exact ⟨0, Nat.zero_le _, rfl, rfl, fun j hj => absurd hj (Nat.not_lt_zero _)⟩
    case round =>
      obtain ⟨k, hk, rfl, rfl, hall⟩ := hrel
      have HA : Hid (∀ j, j < k → okAt l j = true) := hall
      clear hall
      by_cases hlt : k < 9
      · have hks : k < s.size := by omega
        have hg := HG.out k hks
        have hl := lett_at k hlt
        have hr := rd_lt l k
        by_cases hc : s[k] = lt k
        · have f1 : ((s[k].toNat : Int) == (((⟨#[114, 119, 120, 114, 119, 120, 114, 119, 120]⟩ : ByteArray)[k]'hlt).toNat : Int)) = true := by rw [hl, u8_eq]; exact decide_eq_true hc
          have hp : 2 ^ (8 - k) ≤ 2 ^ 8 := Nat.pow_le_pow_right (by decide) (by omega)
          have hx := or_nat (p := rd l k) (q := 2 ^ (8 - k)) (by omega) (by omega)
          have HB : Hid (∀ w, Calls Tryd.prog 21 #[.int .i64 (k : Int)] w fun e w' => e = .returned (.int .i64 ((2 ^ (8 - k) : Nat) : Int)) ∧ w = w') := fun w => bitAt_one k w hlt
          have HR : Hid (rd l (k + 1) = rd l k ||| 2 ^ (8 - k)) := by show rd l (k + 1) = rd l k ||| 2 ^ (8 - k); rw [rd, if_pos (by rw [hg]; exact hc)]
          have HO : Hid (okAt l k = true) := by show okAt l k = true; unfold okAt; rw [hg, hc]; simp
          clear hg hl hc HNO HYES HG
          generalize 2 ^ (8 - k) = P at hp hx HB HR
          generalize rd l k ||| P = Q at hx HR
          go_wp2_with fail
          refine (HB.out _).mono ?_
          rintro e w' ⟨rfl, rfl⟩
          go_wp2
          refine ⟨⟨k + 1, by omega, by go_num, by rw [HR.out], fun j hj => ?_⟩, ?_⟩
          · by_cases e : j = k
            · subst e; exact HO.out
            · exact HA.out j (by omega)
          · simp only [intOf]; omega
        · have f1 : ((s[k].toNat : Int) == (((⟨#[114, 119, 120, 114, 119, 120, 114, 119, 120]⟩ : ByteArray)[k]'hlt).toNat : Int)) = false := by rw [hl, u8_eq]; exact decide_eq_false hc
          have HR : Hid (rd l (k + 1) = rd l k) := by show rd l (k + 1) = rd l k; rw [rd, if_neg (by rw [hg]; exact hc)]
          by_cases h45 : s[k] = 45
          · have f2 : ((s[k].toNat : Int) == 45) = true := by rw [h45]; rfl
            have HO : Hid (okAt l k = true) := by show okAt l k = true; unfold okAt; rw [hg, h45]; simp
            clear hg hl hc h45 HNO HYES HG
            go_wp2_with fail
            refine ⟨⟨k + 1, by omega, by go_num, by rw [HR.out], fun j hj => ?_⟩, ?_⟩
            · by_cases e : j = k
              · subst e; exact HO.out
              · exact HA.out j (by omega)
            · simp only [intOf]; omega
          · have f2 : ((s[k].toNat : Int) == 45) = false := by
              have := u8_eq (a := s[k]) (b := 45)
              rw [decide_eq_false h45] at this
              exact this
            have HO : Hid (RE = 2 ∧ RM = 0) := HNO.out k hlt (by unfold okAt; rw [hg]; simp [hc, h45])
            clear hg hl hc h45 HNO HYES HG
            go_wp2_with fail
            go_ret2
            exact ⟨by rw [HO.out.1, HO.out.2]; rfl, rfl⟩
      · obtain rfl : k = 9 := by omega
        have HO : Hid (RE = 0 ∧ RM = rd l 9) := HYES.out HA.out
        clear HNO HYES HG
        go_wp2
        go_ret2
        exact ⟨by rw [HO.out.1, HO.out.2]; rfl, rfl⟩
  · have e1 : rdE s.data.toList = 3 := by
      have : ¬ s.data.toList.length = 9 := h9
      unfold rdE; rw [if_neg this]
    have e2 : rdM s.data.toList = 0 := by simp [rdM, e1]
    rw [e1, e2]
    clear e1 e2
    have h9b : ((s.size : Int) == 9) = false := by simp; omega
    go_enter Tryd.func13, Tryd.ntmps13
    go_wp2
    go_ret2
    exact ⟨rfl, rfl⟩

end Go.Proofs.YtnhjigdlaefdaaaDoor
