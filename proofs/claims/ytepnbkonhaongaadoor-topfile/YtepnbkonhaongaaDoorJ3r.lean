/- This text proves what give, Dup, Open and Move of package fds tell, and which files numbers have behind them; the conditions are that the numbers lie there, and that the file that is given does. -/
import Derived.Test.YtepnbkonhaongaaDoorJ2r
namespace Go.Proofs.YtepnbkonhaongaaDoor
open Go.RowKit Go.Deep

set_option maxRecDepth 100000 in
theorem fl_at (F : Nat → Option Nat) (k : Nat) (W : World) (h : k < 8) :
    (Instr.index 72 (Value.agg #[pO (F 0), pO (F 1), pO (F 2), pO (F 3), pO (F 4), pO (F 5), pO (F 6), pO (F 7)]) (.int .i64 (k : Int))).run Tryd.prog W = .ok (pO (F k)) W := by
  rcases (show k = 0 ∨ k = 1 ∨ k = 2 ∨ k = 3 ∨ k = 4 ∨ k = 5 ∨ k = 6 ∨ k = 7 by omega) with rfl | rfl | rfl | rfl | rfl | rfl | rfl | rfl <;> rfl

set_option maxHeartbeats 4000000 in
set_option maxRecDepth 100000 in
theorem give_any (w : World) (base g b : Nat) (F : Nat → Option Nat) (Z : Nat → Nat × Nat) (h : TabAt w base g F Z) (hb : FileAt w b (Z b)) (hbb : base ≤ b) (hz1 : (Z b).2 ≤ (Z b).1) (hz2 : (Z b).1 ≤ 64) :
    Calls Tryd.prog 34 #[.pointer (some ⟨g, 0, none⟩), .pointer (some ⟨b, 0, none⟩)] w fun e w' => e = .returned (.tuple #[.int .i64 (giN F : Int), errV (giE F)]) ∧ TabAt w' base g (giF F b) Z ∧ Tch (Fp g F) w w' ∧ (∀ x, Fp g (giF F b) x → Fp g F x ∨ x = b) := by
  have c0 := h.cell (k := 0) (by decide)
  have c1 := h.cell (k := 1) (by decide)
  have c2 := h.cell (k := 2) (by decide)
  have c3 := h.cell (k := 3) (by decide)
  have c4 := h.cell (k := 4) (by decide)
  have c5 := h.cell (k := 5) (by decide)
  have c6 := h.cell (k := 6) (by decide)
  have c7 := h.cell (k := 7) (by decide)
  have HA : Hid _ := fl_at F
  have HC : Hid (∀ k, k < 8 → w.cell? ⟨g, k, none⟩ = some (pO (F k))) := fun k hk => h.cell hk
  have HL : Hid (∀ k, w.frozen? ⟨g, k, none⟩ = false) := h.loose
  have HS : Hid (∀ k, k < 8 → F k = none → (∀ j, j < k → F j ≠ none) → (giN F = k ∧ giE F = 0) ∧ TabAt (w.setCell ⟨g, k, none⟩ (.pointer (some ⟨b, 0, none⟩))) base g (giF F b) Z ∧ Tch (Fp g F) w (w.setCell ⟨g, k, none⟩ (.pointer (some ⟨b, 0, none⟩))) ∧ (∀ x, Fp g (giF F b) x → Fp g F x ∨ x = b)) := by
    show ∀ k, _ → _ → _ → _
    intro k hk hF hj
    have e := lst_one (F := F) (k := k) (by omega) hj (fun _ => hF)
    have eF : giF F b = upd F k (some b) := by unfold giF; rw [e, if_pos hk]
    rw [eF]
    refine ⟨⟨by unfold giN; rw [e, if_pos hk], by unfold giE; rw [e, if_pos hk]⟩, h.set hk (some b) (fun x e => by cases e; exact ⟨hb, hbb, hz1, hz2⟩), Tch.set _ _ (.inl rfl), fun x hx => ?_⟩
    rcases hx.upd with h | h
    · exact .inl h
    · cases h; exact .inr rfl
  have HN : Hid ((∀ j, j < 8 → F j ≠ none) → (giN F = 0 ∧ giE F = 4) ∧ TabAt w base g (giF F b) Z ∧ Tch (Fp g F) w w ∧ (∀ x, Fp g (giF F b) x → Fp g F x ∨ x = b)) := by
    show _ → _
    intro hj
    have e := lst_one (F := F) (k := 8) (by omega) hj (fun h => by omega)
    have eF : giF F b = F := by unfold giF; rw [e, if_neg (by decide)]
    rw [eF]
    exact ⟨⟨by unfold giN; rw [e, if_neg (by decide)], by unfold giE; rw [e, if_neg (by decide)]⟩, h, Tch.refl _ _, fun x hx => .inl hx⟩
  clear h hb hbb hz1 hz2
  go_enter Tryd.func34, Tryd.ntmps34
  go_wp2
  clear c0 c1 c2 c3 c4 c5 c6 c7
  go_loop [6, 7, 12] (fun _ _ i => ∃ k : Nat, k ≤ 8 ∧ i = .int .i64 (k : Int) ∧ ∀ j, j < k → F j ≠ none) (fun _ _ i => 8 - (intOf i).toNat)
  case atStart => exact ⟨0, by omega, rfl, fun j hj => absurd hj (by omega)⟩
  case round =>
    obtain ⟨k, hk, rfl, hj⟩ := hrel
    have HJ : Hid (∀ j, j < k → F j ≠ none) := hj
    clear hj
    by_cases hlt : k < 8
    · have hx := HA.out k w hlt
      have hc := HC.out k hlt
      have hz := HL.out k
      cases hF : F k with
      | none =>
        obtain ⟨⟨e1, e2⟩, hT⟩ := HS.out k hlt hF HJ.out
        have HT : Hid _ := hT
        have E1 : Hid (giN F = k) := e1
        have E2 : Hid (giE F = 0) := e2
        rw [hF] at hx hc
        rw [show pO none = .pointer none from rfl] at hx hc
        clear hT hF e1 e2
        go_wp2
        go_ret2
        exact ⟨by rw [E1.out, E2.out]; rfl, HT.out⟩
      | some y =>
        rw [hF] at hx hc
        rw [show pO (some y) = .pointer (some ⟨y, 0, none⟩) from rfl] at hx hc
        have HF : Hid (F k = some y) := hF
        clear hF
        go_wp2
        refine ⟨⟨k + 1, by omega, rfl, fun j hj => ?_⟩, ?_⟩
        · by_cases e : j = k
          · rw [e, HF.out]; simp
          · exact HJ.out j (by omega)
        · simp only [intOf]
          omega
    · obtain rfl : k = 8 := by omega
      obtain ⟨⟨e1, e2⟩, hT⟩ := HN.out HJ.out
      have HT : Hid _ := hT
      have E1 : Hid (giN F = 0) := e1
      have E2 : Hid (giE F = 4) := e2
      clear hT e1 e2
      go_wp2
      go_ret2
      exact ⟨by rw [E1.out, E2.out]; rfl, HT.out⟩

end Go.Proofs.YtepnbkonhaongaaDoor
