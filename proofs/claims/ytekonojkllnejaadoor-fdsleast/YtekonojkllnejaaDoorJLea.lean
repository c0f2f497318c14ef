/- This text proves that platterholdlaw2.FdsLeast returns true: the least free number is given, and what was given and closed is free again; old memory is as it was; the conditions are that the steps' rows lie there, and that the library's variable errors.errorType holds what the program's own text lays. -/
import Derived.Test.YtekonojkllnejaaDoorJ5
import Derived.Test.YtekonojkllnejaaDoorJ6
import Derived.Test.YtekonojkllnejaaDoorIn2
namespace Go.Proofs.YtekonojkllnejaaDoor
open Go.RowKit Go.Deep

theorem OnT.laid {w wr : World} {G : Nat} {F : Nat → Option Nat} {Z : Nat → Nat × Nat} (h : OnT w wr G F Z) (hG : G = w.heap.size) (hL : Laid w) : Laid wr := hL.later (by rw [← hG]; exact h.2)
theorem OnT.next {w wr w' : World} {G : Nat} {F : Nat → Option Nat} {Z : Nat → Nat × Nat} (h : OnT w wr G F Z) (hb : Below wr.heap.size wr w') : OnT w w' G F Z := ⟨h.1.later hb, h.2.trans (hb.mono (Nat.le_trans h.1.low (Nat.le_of_lt h.1.lt)))⟩
theorem on_out {F : Nat → Option Nat} {n : Int} (hn : ¬ (0 ≤ n ∧ n ≤ 64)) : onN F n = 0 ∧ onE F n = 1 := ⟨if_neg hn, if_neg hn⟩
theorem on_full {F : Nat → Option Nat} {n : Int} (hn : 0 ≤ n ∧ n ≤ 64) (h : lst F = 8) : onN F n = 0 ∧ onE F n = 4 := by
  unfold onN onE
  rw [if_pos hn, if_pos hn]
  unfold giN giE
  rw [h]
  exact ⟨rfl, rfl⟩
theorem on_at {F : Nat → Option Nat} {Z : Nat → Nat × Nat} {k q : Nat} {n : Int} (hk : k < 8) (h : lst F = k) (hn : 0 ≤ n ∧ n ≤ 64) :
    onN F n = k ∧ onE F n = 0 ∧ onF F n q = upd F k (some q) ∧ onZ Z n q = upd Z q (n.toNat, 0) := by
  unfold onN onE onF onZ
  rw [if_pos hn, if_pos hn, if_pos hn, if_pos hn]
  unfold giN giE giF
  rw [h, if_pos hk, if_pos hk, if_pos hk]
  exact ⟨rfl, rfl, rfl, rfl⟩

set_option maxHeartbeats 16000000 in
set_option maxRecDepth 100000 in
theorem fdsLeast_any (w : World) (v : Value) (rs : List (List Int)) (hr : RowsIs w v rs) (n : Int) (hL : Laid w) :
    Calls Tryd.prog 3 #[v, .int .i64 n] w fun e w' => e = .returned (.bool true) ∧ Below w.heap.size w w' := by
  have HR : Hid (RowsIs w v rs) := hr
  have HL0 : Hid (Laid w) := hL
  clear hr hL
  go_enter Tryd.func3, Tryd.ntmps3
  go_wp2_with fail
  refine Calls.mono (fact_any w) ?_
  rintro e w1 ⟨rfl, hb1⟩
  go_wp2_with fail
  refine Calls.mono (did_any w1 v rs (HR.out.later hb1)) ?_
  rintro e w2 ⟨rfl, F, Z, hT⟩
  have HL : Hid (Laid w1) := HL0.out.later hb1
  obtain ⟨G, hG⟩ : ∃ G, G = w1.heap.size := ⟨_, rfl⟩
  rw [← hG] at hT ⊢
  have HB : Hid (Below w.heap.size w w1 ∧ w.heap.size ≤ G) := ⟨hb1, by rw [hG]; exact hb1.size⟩
  have ST : Hid (OnT w1 w2 G F Z) := hT
  have HG : Hid (G = w1.heap.size) := hG
  have HEnd : Hid (∀ {w' F' Z'}, OnT w1 w' G F' Z' → Below w.heap.size w w') := fun h => HB.out.1.trans (h.2.mono HB.out.2)
  clear hb1 hG hT
  have HO : Hid _ := fun (_ : Nat) => open_any w2 G G F Z ST.out.1 n
  go_wp2
  go_loop [7] (fun i => ∃ k : Nat, k ≤ 8 ∧ i = .int .i64 (k : Int) ∧ ∀ j, j < k → F j ≠ none) (fun i => 8 - (intOf i).toNat)
  case atStart => exact ⟨0, by omega, rfl, fun j hj => absurd hj (by omega)⟩
  case round =>
    obtain ⟨k, hk, rfl, hj⟩ := hrel
    have HJ : Hid (∀ j, j < k → F j ≠ none) := hj
    clear hj
    by_cases hlt : k < 8
    · cases hF : F k with
      | some b =>
        have HF : Hid (F k = some b) := hF
        have HA : Hid _ := fun (_ : Nat) => at_any w2 G G F Z ST.out.1 (k : Int)
        rw [atZ_some (by rw [fo_nat hlt]; exact hF)] at HA
        have h0 : (0 : Int) ≤ ((Z b).2 : Int) := by omega
        generalize (Z b).2 = P at *
        clear hF
        go_wp2_with (go_at_call 7; refine (HA.out 0).mono ?_; rintro e w' ⟨rfl, rfl⟩)
        refine ⟨⟨k + 1, by omega, by go_num, fun j hj => ?_⟩, ?_⟩
        · by_cases e : j = k
          · rw [e, HF.out]; simp
          · exact HJ.out j (by omega)
        · simp only [intOf]
          omega
      | none =>
        have hl : lst F = k := lst_one hk HJ.out (fun _ => hF)
        have HA : Hid _ := fun (_ : Nat) => at_any w2 G G F Z ST.out.1 (k : Int)
        rw [atZ_none (by rw [fo_nat hlt]; exact hF)] at HA
        by_cases hn : 0 ≤ n ∧ n ≤ 64
        · obtain ⟨e1, e2, e3, e4⟩ := on_at (Z := Z) (q := w2.heap.size) hlt hl hn
          rw [e1, e2, e3, e4, errV_zero] at HO
          obtain ⟨q, hq⟩ : ∃ q, w2.heap.size = q := ⟨_, rfl⟩
          rw [hq] at HO
          have hf1 : fo (upd F k (some q)) (k : Int) = some q := fo_upd hlt _
          have HA1 : Hid _ := fun (w3 : World) (h : OnT w1 w3 G (upd F k (some q)) (upd Z q (n.toNat, 0))) => at_any w3 G G _ _ h.1 (k : Int)
          rw [atZ_some hf1, upd_self] at HA1
          have HC : Hid _ := fun (w3 : World) (h : OnT w1 w3 G (upd F k (some q)) (upd Z q (n.toNat, 0))) => close_stp w3 G G _ _ h.1 (k : Int)
          rw [(opE_some hf1).1, errV_zero, show clF (upd F k (some q)) (k : Int) = upd (upd F k (some q)) k none by unfold clF; rw [if_pos (opE_some hf1).1, Int.toNat_natCast]] at HC
          have HA2 : Hid _ := fun (w3 : World) (h : OnT w1 w3 G (upd (upd F k (some q)) k none) (upd Z q (n.toNat, 0))) => at_any w3 G G _ _ h.1 (k : Int)
          rw [atZ_none (fo_upd hlt _)] at HA2
          have hl2 : lst (upd (upd F k (some q)) k none) = k := lst_one hk (fun j hj => by rw [upd_other (by omega), upd_other (by omega)]; exact HJ.out j hj) (fun _ => upd_self _ _ _)
          have HO2 : Hid _ := fun (w3 : World) (h : OnT w1 w3 G (upd (upd F k (some q)) k none) (upd Z q (n.toNat, 0))) => open_any w3 G G _ _ h.1 n
          rw [(on_at (F := upd (upd F k (some q)) k none) (Z := Z) (q := q) hlt hl2 hn).1, (on_at (F := upd (upd F k (some q)) k none) (Z := Z) (q := q) hlt hl2 hn).2.1, errV_zero] at HO2
          have HI : Hid _ := fun (w : World) => in_yes n 0 64 w hn
          generalize upd Z q (n.toNat, 0) = Z1 at HO HA1 HC HA2 HO2
          generalize upd (upd F k (some q)) k none = F2 at HC HA2 HO2
          generalize upd F k (some q) = F1 at HO HA1 HC
          have hk8 : ¬ (k : Int) = 8 := by omega
          clear hF hl e1 e2 e3 e4 hf1 hl2 hn hq
          go_wp2_with (first
            | (go_at_call 8; refine (HO2.out _ ST4.out).mono ?_; rintro e w5 ⟨rfl, hs⟩; have ST5 : Hid (OnT w1 w5 G _ _) := ST4.out.stp hs; clear hs)
            | (go_at_call 7; refine (HA2.out _ ST4.out).mono ?_; rintro e w9 ⟨rfl, rfl⟩)
            | (go_at_call 11; refine (HC.out _ ST3.out).mono ?_; rintro e w4 ⟨rfl, hs⟩; have ST4 : Hid (OnT w1 w4 G F2 Z1) := ST3.out.stp hs; clear hs)
            | (go_at_call 7; refine (HA1.out _ ST3.out).mono ?_; rintro e w9 ⟨rfl, rfl⟩)
            | (go_at_call 9; refine (HI.out _).mono ?_; rintro e w9 ⟨rfl, rfl⟩)
            | (go_at_call 8; refine (HO.out 0).mono ?_; rintro e w3 ⟨rfl, hs⟩; have ST3 : Hid (OnT w1 w3 G F1 Z1) := ST.out.stp hs; clear hs)
            | (go_at_call 7; refine (HA.out 0).mono ?_; rintro e w9 ⟨rfl, rfl⟩))
          go_ret
          exact ⟨rfl, HEnd.out ST5.out⟩
        · rw [(on_out hn).1, (on_out hn).2] at HO
          have HI : Hid _ := fun (w : World) => in_no n 0 64 w hn
          clear hF hl hn
          go_wp2_with (first
            | (go_at_call 9; refine (HI.out _).mono ?_; rintro e w9 ⟨rfl, rfl⟩)
            | (go_at_call 8; refine (HO.out 0).mono ?_; rintro e w3 ⟨rfl, hs⟩; have ST3 : Hid (OnT w1 w3 G _ _) := ST.out.stp hs; clear hs)
            | (go_at_call 10; refine (error_any 1 1 _ (ST3.out.laid HG.out HL.out)).mono ?_; rintro e w4 ⟨rfl, hb⟩; have ST4 : Hid (OnT w1 w4 G _ _) := ST3.out.next hb; clear hb; rw [show (((1 : Nat) : Int) == 1) = true from rfl])
            | (go_at_call 7; refine (HA.out 0).mono ?_; rintro e w9 ⟨rfl, rfl⟩))
          go_ret
          exact ⟨rfl, HEnd.out ST4.out⟩
    · obtain rfl : k = 8 := by omega
      have hl : lst F = 8 := lst_one hk HJ.out (fun h => absurd h (by decide))
      by_cases hn : 0 ≤ n ∧ n ≤ 64
      · rw [(on_full hn hl).1, (on_full hn hl).2] at HO
        have HI : Hid _ := fun (w : World) => in_yes n 0 64 w hn
        clear hl hn
        go_wp2_with (first
          | (go_at_call 9; refine (HI.out _).mono ?_; rintro e w9 ⟨rfl, rfl⟩)
          | (go_at_call 8; refine (HO.out 0).mono ?_; rintro e w3 ⟨rfl, hs⟩; have ST3 : Hid (OnT w1 w3 G _ _) := ST.out.stp hs; clear hs)
          | (go_at_call 10; refine (error_any 4 4 _ (ST3.out.laid HG.out HL.out)).mono ?_; rintro e w4 ⟨rfl, hb⟩; have ST4 : Hid (OnT w1 w4 G _ _) := ST3.out.next hb; clear hb; rw [show (((4 : Nat) : Int) == 4) = true from rfl]))
        go_ret
        exact ⟨rfl, HEnd.out ST4.out⟩
      · rw [(on_out hn).1, (on_out hn).2] at HO
        have HI : Hid _ := fun (w : World) => in_no n 0 64 w hn
        clear hl hn
        go_wp2_with (first
          | (go_at_call 9; refine (HI.out _).mono ?_; rintro e w9 ⟨rfl, rfl⟩)
          | (go_at_call 8; refine (HO.out 0).mono ?_; rintro e w3 ⟨rfl, hs⟩; have ST3 : Hid (OnT w1 w3 G _ _) := ST.out.stp hs; clear hs)
          | (go_at_call 10; refine (error_any 1 1 _ (ST3.out.laid HG.out HL.out)).mono ?_; rintro e w4 ⟨rfl, hb⟩; have ST4 : Hid (OnT w1 w4 G _ _) := ST3.out.next hb; clear hb; rw [show (((1 : Nat) : Int) == 1) = true from rfl]))
        go_ret
        exact ⟨rfl, HEnd.out ST4.out⟩

end Go.Proofs.YtekonojkllnejaaDoor
