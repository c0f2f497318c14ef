/- This text proves that platterholdlaw3.ShadowOld returns true: till the table is turned about all is as it was; old memory is as it was; the condition is that the steps' rows lie there. -/
import Derived.Test.YthgbknfdbobmiaaS6
namespace Go.Proofs.Ythgbknfdbobmiaa
open Go.RowKit Go.Deep

theorem GoodS.no {C : Nat → Int} (h : GoodS C) (p v : Int) : GoodS (noS C p v) := by
  unfold noS
  split
  · exact h.write (by omega) v
  · exact h
theorem GoodS.no_old {C : Nat → Int} (h : GoodS C) (p v : Int) (i : Nat) (hi : i < 8) : vlS (noS C p v) 16 i = vlS C 16 i := by
  unfold noS
  split
  · exact h.old_stays (by omega) v i hi
  · rfl

set_option maxHeartbeats 8000000 in
set_option maxRecDepth 100000 in
theorem shadowOld_any (w : World) (v u : Value) (rs ms : List (List Int)) (hr : RowsIs w v rs) (hu : RowsIs w u ms) :
    Calls Try.prog 3 #[v, u] w fun e w' => e = .returned (.bool true) ∧ Below w.heap.size w w' := by
  have HR : Hid (RowsIs w v rs) := hr
  have HU : Hid (RowsIs w u ms) := hu
  obtain ⟨a, c, hv, _, _⟩ := hr
  obtain ⟨a2, c2, hv2, hl, _⟩ := hu
  obtain ⟨n, hn⟩ : ∃ n, n = ms.length := ⟨_, rfl⟩
  rw [← hn] at hv2 hl
  unfold maxLen at hl
  subst hv hv2
  clear hn
  go_enter Try.func3, Try.ntmps3
  go_wp2_with fail
  refine (factS_any w).mono ?_
  rintro e w0 ⟨rfl, hb⟩
  have B0 : Hid (Below w.heap.size w w0) := hb
  have HR0 : Hid (RowsIs w0 _ rs) := HR.out.later hb
  have HU0 : Hid (RowsIs w0 (.slice a2 n c2) ms) := HU.out.later hb
  clear hb HR HU
  go_wp2_with fail
  refine (beside_any w0 _ rs HR0.out).mono ?_
  rintro e w1 ⟨g, C0, rfl, hst⟩
  have S1 : Hid (OnS w0 w1 g C0) := hst
  clear hst HR0
  go_wp2_with fail
  refine (valuesS_any w1 _ _ _ S1.out.disk).mono ?_
  rintro e w2 ⟨A0, B, rfl, _, hB, hb, _, hB1⟩
  have S2 : Hid (OnS w0 w2 g C0 ∧ SeenS w2 g B (vlS C0 16)) := ⟨S1.out.later hb, SeenS.new S1.out.disk hB hB1⟩
  obtain ⟨F, hF⟩ : ∃ F, F = vlS C0 16 := ⟨_, rfl⟩
  rw [← hF] at S2
  have HF : Hid (F = vlS C0 16) := hF
  clear hB hb hB1 S1 hF
  unfold ptrS
  go_wp2
  go_loopw [9, 10, 11] (fun i _ _ wr => ∃ k C, k ≤ n ∧ k ≤ 60 ∧ i = .int .i64 ((k : Nat) : Int) ∧ OnS w0 wr g C ∧ SeenS wr g B F ∧ ∀ i, i < 8 → vlS C 16 i = F i) (fun i _ _ _ => 60 - (Go.RowKit.intOf i).toNat)
  case atStart => exact ⟨0, _, Nat.zero_le _, by omega, rfl, S2.out.1, S2.out.2, fun i _ => by rw [HF.out]⟩
  case round =>
    obtain ⟨k, C, hkn, hk, rfl, hst, hsn, hsm⟩ := hrel
    have ST : Hid (OnS w0 wr g C ∧ SeenS wr g B F ∧ ∀ i, i < 8 → vlS C 16 i = F i) := ⟨hst, hsn, hsm⟩
    clear hst hsn hsm S2 HF
    by_cases hlt : k < n
    · have hl1 : (k : Int) < (n : Int) := by omega
      by_cases hs : k < 60
      · have hs1 : (k : Int) < 60 := by omega
        obtain ⟨b, o, vk, ha, hbs, hck, hsk⟩ := HU0.out.row k hlt
        subst ha
        have hc0 : wr.cell? ⟨b, o + k, none⟩ = some vk := by rw [ST.out.1.old.cell (p := ⟨b, o + k, none⟩) hbs]; exact hck
        clear hck
        obtain ⟨z, hz⟩ : ∃ z, (rowAt ms k).length = z := ⟨_, rfl⟩
        by_cases h2 : z = 2
        · subst h2
          obtain ⟨b1, o1, c1, rfl, hb1, hx⟩ := row_cells hsk hz (by omega)
          have HXs : Hid (∀ w2, Below w0.heap.size w0 w2 → w2.cell? ⟨b, o + k, none⟩ = some (.slice (some ⟨b1, o1, none⟩) 2 c1) ∧ w2.cell? ⟨b1, o1, none⟩ = some (.int .i64 (nth (rowAt ms k) 0)) ∧ w2.cell? ⟨b1, o1 + 1, none⟩ = some (.int .i64 (nth (rowAt ms k) 1))) := fun w2 h =>
            ⟨by rw [h.cell (p := ⟨b, o + k, none⟩) hbs, ← ST.out.1.old.cell (p := ⟨b, o + k, none⟩) hbs]; exact hc0, by rw [h.cell (p := ⟨b1, o1, none⟩) hb1]; exact hx 0 (by omega), by rw [h.cell (p := ⟨b1, o1 + 1, none⟩) hb1]; exact hx 1 (by omega)⟩
          have STd : Hid (OnS w0 wr.drew g C) := ST.out.1.later (below_drew1 _ _)
          have HWr : Hid _ := fun (_ : Nat) => writeS_any wr.drew w0.heap.size g C STd.out.disk (nth (rowAt ms k) 0) (nth (rowAt ms k) 1)
          unfold ptrS at HWr
          generalize nth (rowAt ms k) 0 = X0 at HXs HWr
          generalize nth (rowAt ms k) 1 = X1 at HXs HWr
          obtain ⟨_, x0, x1⟩ := HXs.out wr ST.out.1.old
          clear hx hsk hz
          go_wp2_with fail
          go_region_held3 (fun w' => w'.cell? ⟨b, o + k, none⟩ = some (.slice (some ⟨b1, o1, none⟩) 2 c1) ∧ w'.cell? ⟨b1, o1, none⟩ = some (.int .i64 X0) ∧ w'.cell? ⟨b1, o1 + 1, none⟩ = some (.int .i64 X1))
            (first | (go_split_ands; exact HXs.out _ ST2.out.1.old) | go_keep)
            (first | (go_at_call 10; refine (HWr.out 0).mono ?_; rintro e w2 ⟨rfl, hst2⟩; have ST2 : Hid (OnS w0 w2 g (noS C X0 X1) ∧ SeenS w2 g B F) := ⟨STd.out.step hst2, (ST.out.2.1.later (below_drew1 _ _)).step hst2⟩; clear hst2))
          have HV : Hid _ := fun (_ : Nat) => valuesS_any w2 _ _ _ ST2.out.1.disk
          unfold ptrS at HV
          go_wp2_with fail
          refine (HV.out 0).mono ?_
          rintro e w3 ⟨A3, B3, rfl, _, hB3, hb, _, _⟩
          have ST3 : Hid (OnS w0 w3 g (noS C X0 X1) ∧ SeenS w3 g B F ∧ VlI w3 B3 F ∧ ∀ i, i < 8 → vlS (noS C X0 X1) 16 i = F i) := by
            have e : ∀ i, i < 8 → vlS (noS C X0 X1) 16 i = F i := fun i hi => (ST.out.1.disk.good.no_old X0 X1 i hi).trans (ST.out.2.2 i hi)
            exact ⟨ST2.out.1.later hb, ST2.out.2.later hb, hB3.same e, e⟩
          clear hB3 hb HV
          go_wp2_with fail
          refine (sameS_any w3 _ _ _ _ ST3.out.2.2.1 ST3.out.2.1.at' fun _ _ => rfl).mono ?_
          rintro e w4 ⟨rfl, hb⟩
          have ST4 : Hid (OnS w0 w4 g (noS C X0 X1) ∧ SeenS w4 g B F) := ⟨ST3.out.1.later hb, ST3.out.2.1.later hb⟩
          clear hb
          go_wp2
          go_roundw
          case rel => exact ⟨k + 1, _, by omega, by omega, by go_num, ST4.out.1, ST4.out.2, ST3.out.2.2.2⟩
          case measure => simp [Go.RowKit.intOf]; omega
        · obtain ⟨a1, c1, hv1, _, _⟩ := hsk
          rw [hz] at hv1
          subst hv1
          have b2 : ((z : Int) == 2) = false := by simp; omega
          have HV : Hid _ := fun (_ : Nat) => valuesS_any wr _ _ _ ST.out.1.disk
          unfold ptrS at HV
          clear hz
          go_wp2_with fail
          refine (HV.out 0).mono ?_
          rintro e w3 ⟨A3, B3, rfl, _, hB3, hb, _, _⟩
          have ST3 : Hid (OnS w0 w3 g C ∧ SeenS w3 g B F ∧ VlI w3 B3 F) := ⟨ST.out.1.later hb, ST.out.2.1.later hb, hB3.same ST.out.2.2⟩
          clear hB3 hb HV
          go_wp2_with fail
          refine (sameS_any w3 _ _ _ _ ST3.out.2.2 ST3.out.2.1.at' fun _ _ => rfl).mono ?_
          rintro e w4 ⟨rfl, hb⟩
          have ST4 : Hid (OnS w0 w4 g C ∧ SeenS w4 g B F) := ⟨ST3.out.1.later hb, ST3.out.2.1.later hb⟩
          clear hb
          go_wp2
          go_roundw
          case rel => exact ⟨k + 1, _, by omega, by omega, by go_num, ST4.out.1, ST4.out.2, ST.out.2.2⟩
          case measure => simp [Go.RowKit.intOf]; omega
      · have hs1 : ¬ (k : Int) < 60 := by omega
        have HCr : Hid _ := fun (_ : Nat) => crashS_any wr _ _ _ ST.out.1.disk
        unfold ptrS at HCr
        go_wp2_with fail
        refine (HCr.out 0).mono ?_
        rintro e w2 ⟨rfl, hst2⟩
        have ST2 : Hid (OnS w0 w2 g (crS C) ∧ SeenS w2 g B F) := ⟨ST.out.1.step hst2, ST.out.2.1.step hst2⟩
        have HV : Hid _ := fun (_ : Nat) => valuesS_any w2 _ _ _ ST2.out.1.disk
        unfold ptrS at HV
        clear hst2
        go_wp2_with fail
        refine (HV.out 0).mono ?_
        rintro e w3 ⟨A3, B3, rfl, hA3, hB3, hb, _, _⟩
        have ST3 : Hid (OnS w0 w3 g (crS C) ∧ SeenS w3 g B F ∧ VlI w3 A3 F ∧ VlI w3 B3 F) :=
          ⟨ST2.out.1.later hb, ST2.out.2.later hb, hA3.same fun i hi => ((ST.out.1.disk.good.crash_vals i hi).1).trans (ST.out.2.2 i hi), hB3.same fun i hi => ((ST.out.1.disk.good.crash_vals i hi).2).trans (ST.out.2.2 i hi)⟩
        clear hA3 hB3 hb HV
        go_wp2_with fail
        refine (sameS_any w3 _ _ _ _ ST3.out.2.2.1 ST3.out.2.1.at' fun _ _ => rfl).mono ?_
        rintro e w4 ⟨rfl, hb⟩
        have ST4 : Hid (OnS w0 w4 g (crS C) ∧ SeenS w4 g B F ∧ VlI w4 B3 F) := ⟨ST3.out.1.later hb, ST3.out.2.1.later hb, ST3.out.2.2.2.later hb⟩
        clear hb
        go_wp2_with fail
        refine (sameS_any w4 _ _ _ _ ST4.out.2.2 ST4.out.2.1.at' fun _ _ => rfl).mono ?_
        rintro e w5 ⟨rfl, hb⟩
        have ST5 : Hid (OnS w0 w5 g (crS C)) := ST4.out.1.later hb
        have HE : Hid _ := fun (_ : Nat) => endS_any w5 _ _ _ ST5.out.disk
        rw [cnS_crash] at HE
        unfold ptrS at HE
        clear hb
        go_wp2_with fail
        refine (HE.out 0).mono ?_
        rintro e w6 ⟨rfl, hst6⟩
        have B6 : Hid (Below w.heap.size w w6) := Below.next B0.out (ST5.out.step hst6).old
        clear hst6
        go_wp2
        go_ret
        exact ⟨rfl, B6.out⟩
    · have hl1 : ¬ (k : Int) < (n : Int) := by omega
      have HCr : Hid _ := fun (_ : Nat) => crashS_any wr _ _ _ ST.out.1.disk
      unfold ptrS at HCr
      go_wp2_with fail
      refine (HCr.out 0).mono ?_
      rintro e w2 ⟨rfl, hst2⟩
      have ST2 : Hid (OnS w0 w2 g (crS C) ∧ SeenS w2 g B F) := ⟨ST.out.1.step hst2, ST.out.2.1.step hst2⟩
      have HV : Hid _ := fun (_ : Nat) => valuesS_any w2 _ _ _ ST2.out.1.disk
      unfold ptrS at HV
      clear hst2
      go_wp2_with fail
      refine (HV.out 0).mono ?_
      rintro e w3 ⟨A3, B3, rfl, hA3, hB3, hb, _, _⟩
      have ST3 : Hid (OnS w0 w3 g (crS C) ∧ SeenS w3 g B F ∧ VlI w3 A3 F ∧ VlI w3 B3 F) :=
        ⟨ST2.out.1.later hb, ST2.out.2.later hb, hA3.same fun i hi => ((ST.out.1.disk.good.crash_vals i hi).1).trans (ST.out.2.2 i hi), hB3.same fun i hi => ((ST.out.1.disk.good.crash_vals i hi).2).trans (ST.out.2.2 i hi)⟩
      clear hA3 hB3 hb HV
      go_wp2_with fail
      refine (sameS_any w3 _ _ _ _ ST3.out.2.2.1 ST3.out.2.1.at' fun _ _ => rfl).mono ?_
      rintro e w4 ⟨rfl, hb⟩
      have ST4 : Hid (OnS w0 w4 g (crS C) ∧ SeenS w4 g B F ∧ VlI w4 B3 F) := ⟨ST3.out.1.later hb, ST3.out.2.1.later hb, ST3.out.2.2.2.later hb⟩
      clear hb
      go_wp2_with fail
      refine (sameS_any w4 _ _ _ _ ST4.out.2.2 ST4.out.2.1.at' fun _ _ => rfl).mono ?_
      rintro e w5 ⟨rfl, hb⟩
      have ST5 : Hid (OnS w0 w5 g (crS C)) := ST4.out.1.later hb
      have HE : Hid _ := fun (_ : Nat) => endS_any w5 _ _ _ ST5.out.disk
      rw [cnS_crash] at HE
      unfold ptrS at HE
      clear hb
      go_wp2_with fail
      refine (HE.out 0).mono ?_
      rintro e w6 ⟨rfl, hst6⟩
      have B6 : Hid (Below w.heap.size w w6) := Below.next B0.out (ST5.out.step hst6).old
      clear hst6
      go_wp2
      go_ret
      exact ⟨rfl, B6.out⟩

end Go.Proofs.Ythgbknfdbobmiaa
