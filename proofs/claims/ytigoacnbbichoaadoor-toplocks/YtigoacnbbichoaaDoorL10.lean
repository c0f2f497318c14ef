/- This text proves that the law's closed fact on locks holds: rangesFact returns true; old memory is as it was; the condition is that the library's variable errors.errorType holds what the program's own text lays. -/
import Derived.Test.YtigoacnbbichoaaDoorL9
namespace Go.Proofs.YtigoacnbbichoaaDoor
open Go.RowKit Go.Deep

theorem list_form (w : World) (g : Nat) (S : Nat → Nat) (hT : TabAt w g S) (hS : Bd S) :
    Calls Tryd.prog 9 #[.pointer (some ⟨g, 0, none⟩)] w fun e w' => ∃ va vc, e = .returned (.slice va (lsN S 256).length vc) ∧ LksIs w' (.slice va (lsN S 256).length vc) (lsN S 256) ∧ Below w.heap.size w w' :=
  (list_any w g S hT hS).mono fun e w' ⟨v, he, hso⟩ => by
    obtain ⟨va, vc, rfl⟩ := rown_form hso.1
    exact ⟨va, vc, he, lks_own hso.1 (Nat.le_trans (lsN_le S 256) (by unfold maxLen; omega)), hso.2⟩

/-- The four cells of a lock that is listed. -/
def FourAt (w : World) (b i : Nat) (x : Lk) : Prop :=
  w.cell? ⟨b, i * 4, none⟩ = some (.int .i64 ((x.p / 64 : Nat) : Int)) ∧ w.cell? ⟨b, i * 4 + 1, none⟩ = some (.int .i64 ((x.p % 64 : Nat) : Int)) ∧ w.cell? ⟨b, i * 4 + 2, none⟩ = some (.int .i64 (x.z : Int)) ∧ w.cell? ⟨b, i * 4 + 3, none⟩ = some (.bool x.a)
/-- What List tells, as it is read later. -/
theorem list_read (w : World) (g : Nat) (S : Nat → Nat) (hT : TabAt w g S) (hS : Bd S) :
    Calls Tryd.prog 9 #[.pointer (some ⟨g, 0, none⟩)] w fun e w' => ∃ va vc b, e = .returned (.slice va (lsN S 256).length vc) ∧ (0 < (lsN S 256).length → va = some ⟨b, 0, none⟩) ∧
      (∀ w'', Below w'.heap.size w' w'' → ∀ i, i < (lsN S 256).length → FourAt w'' b i (lAt (lsN S 256) i)) ∧ Below w.heap.size w w' :=
  (list_form w g S hT hS).mono fun e w' ⟨va, vc, he, hl, hb⟩ => by
    obtain ⟨va', vc', b, hv, _, h1, h2, h3⟩ := hl.where
    obtain ⟨rfl, rfl⟩ : va = va' ∧ vc = vc' := by cases hv; exact ⟨rfl, rfl⟩
    refine ⟨va, vc, b, he, h1, fun w'' hb' i hi => ?_, hb⟩
    have hlt := h2 (by omega)
    obtain ⟨c0, c1, c2, c3⟩ := h3 i hi
    exact ⟨by rw [hb'.cell (p := ⟨b, i * 4, none⟩) hlt]; exact c0, by rw [hb'.cell (p := ⟨b, i * 4 + 1, none⟩) hlt]; exact c1, by rw [hb'.cell (p := ⟨b, i * 4 + 2, none⟩) hlt]; exact c2, by rw [hb'.cell (p := ⟨b, i * 4 + 3, none⟩) hlt]; exact c3⟩

/-- The closed fact's table. -/
def fS : Nat → Nat := upS nS 66 69 2
theorem f_st : stE nS 1 2 3 true = 0 := by decide +kernel
theorem f_stS : stS nS 1 2 3 true = fS := by unfold stS; rw [if_pos f_st]; rfl
theorem f_ts : tsN fS 0 4 1 false = 1 ∧ tsE 0 4 1 = 0 := by decide +kernel
theorem f_cl : stE fS 0 0 9 false = 6 := by decide +kernel
theorem f_clS : stS fS 0 0 9 false = fS := by unfold stS; rw [f_cl]; rfl
theorem f_len : (lsN fS 256).length = 1 := by decide +kernel

set_option maxHeartbeats 4000000 in
set_option maxRecDepth 100000 in
theorem fact_any (w : World) (hL : Laid w) : Calls Tryd.prog 7 #[] w fun e w' => e = .returned (.bool true) ∧ Below w.heap.size w w' := by
  have HL : Hid (Laid w) := hL
  obtain ⟨G, hG⟩ : ∃ G, G = w.heap.size := ⟨_, rfl⟩
  have HG : Hid (G = w.heap.size) := hG
  have HS1 : Hid _ := fun (w' : World) (h : OnT w w' G nS) => set_any w' G nS 1 2 3 true h.1 h.2.1.bd (by unfold Fit; omega)
  have HTs : Hid _ := fun (w' : World) (h : OnT w w' G fS) => test_any w' G fS 0 4 1 false h.1 (by unfold Fit; omega)
  have HS2 : Hid _ := fun (w' : World) (h : OnT w w' G fS) => set_any w' G fS 0 0 9 false h.1 h.2.1.bd (by unfold Fit; omega)
  have HLi : Hid _ := fun (w' : World) (h : OnT w w' G fS) => list_form w' G fS h.1 h.2.1.bd
  have HE : Hid _ := fun (w' : World) (h : OnT w w' G fS) => error_any 6 6 w' (HL.out.later (by have := h.2.2; rw [hG] at this; exact this))
  have HGf : Hid (Good fS) := by have := good_st good_n 1 2 3 true; rw [f_stS] at this; exact this
  rw [f_st, f_stS, errV_zero] at HS1
  rw [f_ts.1, f_ts.2, errV_zero] at HTs
  rw [f_cl, f_clS, errV_pos (by decide)] at HS2
  rw [f_len] at HLi
  rw [errV_pos (by decide)] at HE
  unfold lkV at HS1 HTs HS2
  go_enter Tryd.func7, Tryd.ntmps7
  go_wp2_with fail
  refine (new_tab _).mono ?_
  rintro e w1 ⟨rfl, hT, hb⟩
  have ST : Hid (OnT w w1 G nS) := by rw [hG]; exact ⟨hT, good_n, hb⟩
  rw [← hG]
  clear hG hT hb hL
  go_wp2_with (first
    | (go_at_call_of 14 (Value.agg #[.int .i64 1, .int .i64 2, .int .i64 3, .bool true]); refine (HS1.out _ ST.out).mono ?_; rintro e w2 ⟨rfl, ht2, hc2⟩; have ST2 : Hid (OnT w w2 G fS) := ST.out.tch ht2 HGf.out hc2)
    | (go_at_call 13; refine (HTs.out _ ST2.out).mono ?_; rintro e w3 ⟨rfl, hb3⟩; have ST3 : Hid (OnT w w3 G fS) := ST2.out.later hb3)
    | (go_at_call_of 14 (Value.agg #[.int .i64 0, .int .i64 0, .int .i64 9, .bool false]); refine (HS2.out _ ST3.out).mono ?_; rintro e w4 ⟨rfl, ht4, hc4⟩; have ST4 : Hid (OnT w w4 G fS) := ST3.out.tch ht4 HGf.out hc4)
    | (go_at_call 15; refine (HE.out _ ST4.out).mono ?_; rintro e w5 ⟨rfl, hb5⟩; have ST5 : Hid (OnT w w5 G fS) := ST4.out.later hb5)
    | (go_at_call 9; refine (HLi.out _ ST5.out).mono ?_; rintro e w6 ⟨va, vc, rfl, _, hb6⟩; have ST6 : Hid (OnT w w6 G fS) := ST5.out.later hb6))
  go_ret
  exact ⟨rfl, by rw [← HG.out]; exact ST6.out.2.2⟩

end Go.Proofs.YtigoacnbbichoaaDoor
