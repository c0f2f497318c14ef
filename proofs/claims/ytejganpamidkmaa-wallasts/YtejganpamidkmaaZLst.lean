/- This text proves that platterholdlaw2.WalLasts returns true: what has ended and lasts is there behind a crash, and what has not ended is not seen; old memory is as it was; the condition is that the steps' rows lie there. -/
import Derived.Test.YtejganpamidkmaaZ12
namespace Go.Proofs.Ytejganpamidkmaa
open Go.RowKit Go.Deep Go.Maps

/-- What a write that comes off leaves. -/
theorem wrote {d : Dk} {t b x : Int} (h : wrE d.L t b x = 0) : ∃ T B X : Nat, t = (T : Int) ∧ b = (B : Int) ∧ x = (X : Int) ∧ B < 8 ∧ endd d.L T = false ∧ wrD d t b x = ⟨d.H, d.L ++ [⟨T, B, X, false⟩], d.s⟩ := by
  obtain ⟨h1, h2, h3⟩ := wrE_zero h
  obtain ⟨T, rfl, hT, hn⟩ := mayE_zero h1
  have h2 := okB_iff.1 h2
  obtain ⟨B, rfl⟩ : ∃ B : Nat, b = (B : Int) := ⟨b.toNat, by omega⟩
  obtain ⟨X, rfl⟩ : ∃ X : Nat, x = (X : Int) := ⟨x.toNat, by omega⟩
  exact ⟨T, B, X, rfl, rfl, rfl, by omega, hn, wrD_more h⟩
theorem crash_all (d : Dk) : crE (syD d) (d.L.length : Int) = 0 ∧ (crD (syD d) (d.L.length : Int)).L = lft d.L ∧ (crD (syD d) (d.L.length : Int)).H = d.H := by
  have h : crE (syD d) (d.L.length : Int) = 0 := if_pos ⟨Int.le_refl _, Int.le_refl _⟩
  have h2 : crD (syD d) (d.L.length : Int) = ⟨d.H, lft (d.L.take d.L.length), (lft (d.L.take d.L.length)).length⟩ := by
    unfold crD
    rw [if_pos h, Int.toNat_natCast]
    rfl
  refine ⟨h, ?_, ?_⟩
  · rw [h2, List.take_length]
  · rw [h2]

set_option maxHeartbeats 8000000 in
set_option maxRecDepth 100000 in
theorem walLasts_any (w : World) (v : Value) (rs : List (List Int)) (hr : RowsIs w v rs) (t b x : Int) :
    Calls Try.prog 4 #[v, .int .i64 t, .int .i64 b, .int .i64 x] w fun e w' => e = .returned (.bool true) ∧ Below w.heap.size w w' := by
  go_enter Try.func4, Try.ntmps4
  go_wp2_with fail
  refine (fact_any w).mono ?_
  rintro e w1 ⟨rfl, hb⟩
  have HB : Hid (Below w.heap.size w w1) := hb
  go_wp2_with fail
  refine (logged_any w1 v rs (hr.later hb)).mono ?_
  rintro e w2 ⟨g, v2, s, rfl, hT⟩
  have S2 : Hid (OnD w1 w2 g v2 ⟨nV, lgd rs (min rs.length 80), s⟩) := hT
  clear hT hb hr
  generalize lgd rs (min rs.length 80) = L at S2
  go_wp2_with fail
  refine (values_any w2 _ _ _ _ S2.out.disk).mono ?_
  rintro e w3 ⟨rfl, hv, hb⟩
  have V3 : Hid (Seen w3 g v2 w2.heap.size (vals L nV)) := Seen.new S2.out.disk hv
  have S3 : Hid (OnD w1 w3 g v2 ⟨nV, L, s⟩) := S2.out.later hb
  clear hv hb
  go_wp2_with fail
  refine (write_any w3 _ _ _ _ S3.out.disk t b x).mono ?_
  rintro e w4 ⟨rfl, v4, hst⟩
  by_cases hw : wrE L t b x = 0
  · obtain ⟨T, B, X, rfl, rfl, rfl, hB, hn, hd⟩ := wrote (d := ⟨nV, L, s⟩) hw
    rw [hd] at hst
    rw [show wrE (⟨nV, L, s⟩ : Dk).L (T : Int) (B : Int) (X : Int) = 0 from hw, errV_zero]
    have V4 : Hid (Seen w4 g v4 w2.heap.size (vals L nV)) := V3.out.step hst
    have S4 : Hid (OnD w1 w4 g v4 ⟨nV, L ++ [⟨T, B, X, false⟩], s⟩) := S3.out.step hst
    have HWr : Hid (vals (L ++ [⟨T, B, X, false⟩]) nV = vals L nV) := vals_write rfl hn nV
    clear hst hd hw
    go_wp2_with fail
    refine (values_any w4 _ _ _ _ S4.out.disk).mono ?_
    rintro e w5 ⟨rfl, hv, hb⟩
    have W5 : Hid (VlAt w5 w4.heap.size (vals (L ++ [⟨T, B, X, false⟩]) nV)) := hv
    have V5 : Hid (Seen w5 g v4 w2.heap.size (vals L nV)) := V4.out.later hb
    have S5 : Hid (OnD w1 w5 g v4 ⟨nV, L ++ [⟨T, B, X, false⟩], s⟩) := S4.out.later hb
    clear hv hb
    go_wp2_with fail
    refine (same_any w5 _ _ _ _ W5.out V5.out.at' HWr.out).mono ?_
    rintro e w6 ⟨rfl, hb⟩
    have S6 : Hid (OnD w1 w6 g v4 ⟨nV, L ++ [⟨T, B, X, false⟩], s⟩) := S5.out.later hb
    clear hb
    go_wp2_with fail
    refine (end_any w6 _ _ _ _ S6.out.disk (T : Int)).mono ?_
    rintro e w7 ⟨rfl, v7, hst⟩
    by_cases he : enE (L ++ [⟨T, B, X, false⟩]) (T : Int) = 0
    · have hE := enD_more (d := (⟨nV, L ++ [(⟨T, B, X, false⟩ : Rc)], s⟩ : Dk)) (T := T) he
      rw [hE] at hst
      clear hE
      rw [show enE (⟨nV, L ++ [⟨T, B, X, false⟩], s⟩ : Dk).L (T : Int) = 0 from he, errV_zero]
      have S7 : Hid (OnD w1 w7 g v7 ⟨nV, L ++ [⟨T, B, X, false⟩] ++ [⟨T, 0, 0, true⟩], s⟩) := S6.out.step hst
      have HEn : Hid (vals (L ++ [⟨T, B, X, false⟩] ++ [⟨T, 0, 0, true⟩]) nV B = X) := vals_end nV
      clear hst he
      generalize L ++ [⟨T, B, X, false⟩] ++ [⟨T, 0, 0, true⟩] = M at S7 HEn
      go_wp2_with fail
      refine (values_any w7 _ _ _ _ S7.out.disk).mono ?_
      rintro e w8 ⟨rfl, hv, hb⟩
      have V8 : Hid (Seen w8 g v7 w7.heap.size (vals M nV)) := Seen.new S7.out.disk hv
      have S8 : Hid (OnD w1 w8 g v7 ⟨nV, M, s⟩) := S7.out.later hb
      clear hv hb
      go_wp2_with fail
      refine (sync_any w8 _ _ _ _ S8.out.disk).mono ?_
      rintro e w9 ⟨rfl, hd9, hs9⟩
      have V9 : Hid (Seen w9 g v7 w7.heap.size (vals M nV)) := V8.out.sync hs9
      have S9 : Hid (OnD w1 w9 g v7 (syD ⟨nV, M, s⟩)) := S8.out.sync hd9 hs9
      clear hd9 hs9
      have k9 : w9.cell? ⟨w7.heap.size, B, none⟩ = some (.int .i64 (X : Int)) := by have := V9.out.at'.cell hB; rw [HEn.out] at this; exact this
      have hin := in_any (B : Int) 0 7 w9
      rw [show decide (0 ≤ (B : Int) ∧ (B : Int) ≤ 7) = true from decide_eq_true (by omega)] at hin
      have HIn : Hid _ := fun (_ : Nat) => hin
      clear hin
      have HCr : Hid _ := fun (_ : Nat) => crash_any w9 _ _ _ _ S9.out.disk ((⟨nV, M, s⟩ : Dk).L.length : Int)
      obtain ⟨hc1, hc2, hc3⟩ := crash_all ⟨nV, M, s⟩
      rw [hc1, errV_zero] at HCr
      have HCL : Hid (vals (crD (syD ⟨nV, M, s⟩) ((⟨nV, M, s⟩ : Dk).L.length : Int)).L (crD (syD ⟨nV, M, s⟩) ((⟨nV, M, s⟩ : Dk).L.length : Int)).H = vals M nV) := by
        show _ = _
        rw [hc2, hc3]
        exact vals_lft M nV
      clear hc1 hc2 hc3
      generalize crD (syD ⟨nV, M, s⟩) ((⟨nV, M, s⟩ : Dk).L.length : Int) = D at HCr HCL
      generalize (⟨nV, M, s⟩ : Dk).L.length = m at HCr ⊢
      unfold ptrD at HCr
      go_wp2_with (first
        | (go_at_call 10; refine (HIn.out 0).mono ?_; rintro e w10 ⟨rfl, rfl⟩)
        | (go_at_call 9; refine (HCr.out 0).mono ?_; rintro e w10 ⟨rfl, v10, hst⟩; have V10 : Hid (Seen w10 g v10 w7.heap.size (vals M nV)) := V9.out.step hst; have S10 : Hid (OnD w1 w10 g v10 D) := S9.out.step hst; clear hst)
        | (go_at_call 11; refine (values_any w10 _ _ _ _ S10.out.disk).mono ?_; rintro e w11 ⟨rfl, hv, hb⟩; have W11 : Hid (VlAt w11 w10.heap.size (vals D.L D.H)) := hv; have V11 : Hid (Seen w11 g v10 w7.heap.size (vals M nV)) := V10.out.later hb; have S11 : Hid (OnD w1 w11 g v10 D) := S10.out.later hb; clear hv hb)
        | (go_at_call 15; refine (same_any w11 _ _ _ _ W11.out V11.out.at' HCL.out).mono ?_; rintro e w12 ⟨rfl, hb⟩; have S12 : Hid (OnD w1 w12 g v10 D) := S11.out.later hb; clear hb))
      go_ret
      exact ⟨rfl, Below.next HB.out S12.out.old⟩
    · rw [show (⟨nV, L ++ [⟨T, B, X, false⟩], s⟩ : Dk).L = L ++ [⟨T, B, X, false⟩] from rfl, errV_pos he]
      have S7 : Hid (OnD w1 w7 g v7 _) := S6.out.step hst
      clear hst
      generalize ((enE (L ++ [⟨T, B, X, false⟩]) (T : Int) : Nat) : Int) = en
      go_wp2
      go_ret
      exact ⟨rfl, Below.next HB.out S7.out.old⟩
  · rw [show (⟨nV, L, s⟩ : Dk).L = L from rfl, errV_pos hw]
    have S4 : Hid (OnD w1 w4 g v4 _) := S3.out.step hst
    clear hst
    generalize ((wrE L t b x : Nat) : Int) = en
    go_wp2
    go_ret
    exact ⟨rfl, Below.next HB.out S4.out.old⟩

end Go.Proofs.Ytejganpamidkmaa
