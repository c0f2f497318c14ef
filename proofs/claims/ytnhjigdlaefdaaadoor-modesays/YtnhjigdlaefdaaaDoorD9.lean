/- This text proves what the document's Letters and Mode answer: a mode's letters, and the mode that is shown so; the world is as it was. -/
import Derived.Test.YtnhjigdlaefdaaaDoorChecked
import Derived.Test.YtnhjigdlaefdaaaDoorD0
namespace Go.Proofs.YtnhjigdlaefdaaaDoor
open Go.RowKit

/-- The first letters of a mode. -/
def ltx (m k : Nat) : ByteArray := ⟨((List.range k).map (ltr m)).toArray⟩
theorem ltx_size (m k : Nat) : (ltx m k).size = k := by
  show ((List.range k).map (ltr m)).toArray.size = k
  simp
theorem ltx_nine (m : Nat) : ltx m 9 = ⟨(lets m).toArray⟩ := rfl
theorem ltx_more (m k : Nat) (c : UInt8) (h : ltr m k = c) : ltx m k ++ ⟨#[c]⟩ = ltx m (k + 1) := by
  have e : (ltx m k ++ ⟨#[c]⟩).data = (ltx m (k + 1)).data := by
    rw [ByteArray.data_append]
    show ((List.range k).map (ltr m)).toArray ++ #[c] = ((List.range (k + 1)).map (ltr m)).toArray
    rw [List.range_succ, List.map_append, ← h]
    simp
  cases h1 : ltx m k ++ ⟨#[c]⟩
  cases h2 : ltx m (k + 1)
  rw [h1, h2] at e
  exact congrArg _ e
theorem lett_one (k : Nat) (h : k < 9) : (⟨#[114, 119, 120, 114, 119, 120, 114, 119, 120]⟩ : ByteArray).extract k (k + 1) = ⟨#[lt k]⟩ := by
  rcases k with _ | _ | _ | _ | _ | _ | _ | _ | _ | k
  all_goals first | omega | rfl

set_option maxRecDepth 20000 in
set_option maxHeartbeats 2000000 in
theorem letters_any (m : Nat) (w : World) (hm : m < 512) :
    Calls Tryd.prog 10 #[.int .i64 (m : Int)] w fun e w' => e = .returned (.string ⟨(lets m).toArray⟩) ∧ w = w' := by
  rw [← ltx_nine]
  generalize hR : ltx m 9 = R
  have HR : Hid (ltx m 9 = R) := hR
  clear hR
  go_enter Tryd.func10, Tryd.ntmps10
  go_wp2
  go_loop [3, 4, 5] (fun x p i => ∃ k : Nat, k ≤ 9 ∧ i = .int .i64 (k : Int) ∧ p = .int .i64 ((256 / 2 ^ k : Nat) : Int) ∧ x = .string (ltx m k)) (fun _ _ i => 9 - (intOf i).toNat)
  case atStart => exact ⟨0, by omega, rfl, rfl, rfl⟩
  case round =>
    obtain ⟨k, hk, rfl, rfl, rfl⟩ := hrel
    by_cases hlt : k < 9
    · have hP : 256 / 2 ^ k = 2 ^ (8 - k) := by
        rw [show 256 = 2 ^ 8 from rfl, Nat.pow_div (by omega) (by decide)]
      have hp : 2 ^ (8 - k) ≤ 256 := Nat.pow_le_pow_right (n := 2) (j := 8) (by decide) (by omega)
      have hp1 : 1 ≤ 2 ^ (8 - k) := Nat.two_pow_pos _
      have HN : Hid (256 / 2 ^ (k + 1) = 256 / 2 ^ k / 2) := by show 256 / 2 ^ (k + 1) = 256 / 2 ^ k / 2; rw [Nat.pow_succ, Nat.div_div_eq_div_mul]
      have HX : Hid ((m / 2 ^ (8 - k) % 2 = 1) ↔ m.testBit (8 - k) = true) := by
        show (m / 2 ^ (8 - k) % 2 = 1) ↔ m.testBit (8 - k) = true
        rw [Nat.testBit_eq_decide_div_mod_eq, decide_eq_true_iff]
      rw [hP] at HN ⊢
      have q : (m : Int) / ((2 ^ (8 - k) : Nat) : Int) = ((m / 2 ^ (8 - k) : Nat) : Int) := by simp
      have la : m / 2 ^ (8 - k) ≤ m := Nat.div_le_self _ _
      have hs := ltx_size m k
      have hx := lett_one k hlt
      have HM : Hid (∀ c, ltr m k = c → ltx m k ++ ⟨#[c]⟩ = ltx m (k + 1)) := fun c h => ltx_more m k c h
      have HL : Hid (ltr m k = if m.testBit (8 - k) then lt k else 45) := rfl
      clear hP
      generalize 2 ^ (8 - k) = P at hp hp1 HN HX q la ⊢
      generalize m / P = A at HX q la
      have HE : Hid ((((P / 2 : Nat) : Int)) = (P : Int) / 2) := by show (((P / 2 : Nat) : Int)) = (P : Int) / 2; omega
      by_cases ca : A % 2 = 1
      · have fa : ((A : Int) % 2 == 1) = true := by simp only [beq_iff_eq]; omega
        have HT := HM.out (lt k) (by rw [HL.out, HX.out.1 ca]; rfl)
        have HT' : Hid (ltx m k ++ ⟨#[lt k]⟩ = ltx m (k + 1)) := HT
        have h1 : (⟨#[lt k]⟩ : ByteArray).size = 1 := rfl
        clear ca HX HM HL HT
        generalize (⟨#[lt k]⟩ : ByteArray) = C at hx HT' h1
        generalize ltx m k = X at hs HT' ⊢
        go_wp2
        refine ⟨⟨k + 1, by omega, rfl, by rw [HN.out, HE.out], by rw [← HT'.out]⟩, ?_⟩
        simp only [intOf]
        omega
      · have fa : ((A : Int) % 2 == 1) = false := by simp only [beq_eq_false_iff_ne, ne_eq]; omega
        have HT := HM.out 45 (by rw [HL.out, if_neg (fun h => ca (HX.out.2 h))])
        have HT' : Hid (ltx m k ++ ⟨#[45]⟩ = ltx m (k + 1)) := HT
        have h1 : (⟨#[45]⟩ : ByteArray).size = 1 := rfl
        clear ca HX HM HL HT
        generalize ltx m k = X at hs HT' ⊢
        go_wp2
        refine ⟨⟨k + 1, by omega, rfl, by rw [HN.out, HE.out], by rw [← HT'.out]⟩, ?_⟩
        simp only [intOf]
        omega
    · obtain rfl : k = 9 := by omega
      rw [HR.out]
      go_wp2
      go_ret
      exact ⟨rfl, rfl⟩

theorem text_list (s : ByteArray) : (⟨s.data.toList.toArray⟩ : ByteArray) = s := by cases s; rfl
theorem eq_list (l : List UInt8) (s : ByteArray) : ((⟨l.toArray⟩ : ByteArray).toList == s.toList) = decide (l = s.data.toList) := by
  rw [ByteArray.toList_eq, ByteArray.toList_eq]
  show (l.toArray.toList == s.data.toList) = _
  rw [Bool.eq_iff_iff]
  simp

set_option maxRecDepth 20000 in
set_option maxHeartbeats 2000000 in
theorem rmode_any (s : ByteArray) (w : World) :
    Calls Tryd.prog 12 #[.string s] w fun e w' => e = .returned (.tuple #[.int .i64 (rdM s.data.toList : Int), .int .i64 (rdE s.data.toList : Int)]) ∧ w = w' := by
  by_cases h9 : s.size = 9
  · have hl : s.data.toList.length = 9 := h9
    have HF : Hid (∀ k, k < 512 → lets k = s.data.toList → rdE s.data.toList = 0 ∧ rdM s.data.toList = k) := fun k h1 h2 => rd_found h1 h2
    have HN : Hid ((∀ k, k < 512 → lets k ≠ s.data.toList) → rdE s.data.toList = 2 ∧ rdM s.data.toList = 0) := fun h => rd_none hl h
    have HE : Hid (∀ l : List UInt8, ((⟨l.toArray⟩ : ByteArray).toList == s.toList) = decide (l = s.data.toList)) := fun l => eq_list l s
    clear hl
    generalize rdE s.data.toList = RE at HF HN ⊢
    generalize rdM s.data.toList = RM at HF HN ⊢
    generalize s.data.toList = l at HF HN HE
    go_enter Tryd.func12, Tryd.ntmps12
    go_wp2
    go_loop [4] (fun i => ∃ k : Nat, k ≤ 512 ∧ i = .int .i64 (k : Int) ∧ ∀ j, j < k → lets j ≠ l) (fun i => 512 - (intOf i).toNat)
    case atStart => exact ⟨0, by omega, rfl, fun j hj => absurd hj (Nat.not_lt_zero _)⟩
    case round =>
      obtain ⟨k, hk, rfl, hall⟩ := hrel
      have HA : Hid (∀ j, j < k → lets j ≠ l) := hall
      clear hall
      by_cases hlt : k < 512
      · have HC : Hid _ := fun (w : World) => letters_any k w hlt
        have he := HE.out (lets k)
        by_cases hc : lets k = l
        · rw [decide_eq_true hc] at he
          have HO : Hid (RE = 0 ∧ RM = k) := HF.out k hlt hc
          clear hc HF HN HE
          generalize (⟨(lets k).toArray⟩ : ByteArray) = X at he HC
          go_wp2_with fail
          refine (HC.out _).mono ?_
          rintro e w' ⟨rfl, rfl⟩
          go_wp2
          go_ret2
          exact ⟨by rw [HO.out.1, HO.out.2]; rfl, rfl⟩
        · rw [decide_eq_false hc] at he
          have HO : Hid (lets k ≠ l) := hc
          clear hc HF HN HE
          generalize (⟨(lets k).toArray⟩ : ByteArray) = X at he HC
          go_wp2_with fail
          refine (HC.out _).mono ?_
          rintro e w' ⟨rfl, rfl⟩
          go_wp2
          refine ⟨⟨k + 1, by omega, rfl, fun j hj => ?_⟩, ?_⟩
          · by_cases e : j = k
            · subst e; exact HO.out
            · exact HA.out j (by omega)
          · simp only [intOf]; omega
      · obtain rfl : k = 512 := by omega
        have HO : Hid (RE = 2 ∧ RM = 0) := HN.out HA.out
        clear HF HN HE
        go_wp2
        go_ret2
        exact ⟨by rw [HO.out.1, HO.out.2]; rfl, rfl⟩
  · have e1 : rdE s.data.toList = 3 := by
      have : ¬ s.data.toList.length = 9 := h9
      unfold rdE; rw [if_neg this]
    have e2 : rdM s.data.toList = 0 := by simp [rdM, e1]
    rw [e1, e2]
    clear e1 e2
    have h9b : ((s.size : Int) == 9) = false := by simp; omega
    go_enter Tryd.func12, Tryd.ntmps12
    go_wp2
    go_ret2
    exact ⟨rfl, rfl⟩

end Go.Proofs.YtnhjigdlaefdaaaDoor
