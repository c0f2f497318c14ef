/- This text proves that platterholdlaw1.BitmapBack returns true for any rows and any number, and lets all old memory be; the conditions: the rows lie there, and the library's variable errors.errorType holds what the program's own text lays. -/
import Derived.Test.YtgkmgcmppkdbgaaDoorV4
import Derived.Test.YtgkmgcmppkdbgaaDoorV5
namespace Go.Proofs.YtgkmgcmppkdbgaaDoor
open Go.RowKit Go.Deep

set_option maxHeartbeats 8000000 in
set_option maxRecDepth 100000 in
theorem bitmapBack_any (w : World) (v : Value) (rs : List (List Int)) (n : Int) (hr : RowsIs w v rs) (hL : Laid w) :
    Calls Tryd.prog 4 #[v, .int .i64 n] w fun e w' => e = .returned (.bool true) ∧ Below w.heap.size w w' := by
  have HR : Hid (RowsIs w v rs) := hr
  have HL : Hid (Laid w) := hL
  clear hr hL
  go_enter Tryd.func4, Tryd.ntmps4
  go_wp2_with fail
  refine (bitmapFact_any _).mono ?_
  rintro e w1 ⟨rfl, hb⟩
  have HB1 : Hid (Below w.heap.size w w1) := hb
  clear hb
  go_wp2_with fail
  refine (taken_any w1 v rs (HR.out.later HB1.out)).mono ?_
  rintro e w2 ⟨rfl, hb, m, hm⟩
  have HM : Hid (MapAt w2 w1.heap.size m) := hm
  have HB2 : Hid (Below w.heap.size w w2) := Below.next HB1.out hb
  have HG : Hid (w.heap.size ≤ w1.heap.size) := HB1.out.size
  generalize w1.heap.size = G at HM HG ⊢
  clear hb hm
  go_wp2_with fail
  refine (free_any G m w2 HM.out).mono ?_
  rintro e w3 ⟨rfl, q, rfl⟩
  have HM3 : Hid (MapAt (w2.drewN q) G m) := HM.out.drew q
  have HB3 : Hid (Below w.heap.size w (w2.drewN q)) := HB2.out.trans (below_drew _ _ _)
  generalize w2.drewN q = w3 at HM3 HB3 ⊢
  go_wp2_with fail
  refine (take_any G m n w3 HM3.out).mono ?_
  rintro e w4 ⟨rfl, hm, hc⟩
  have HM4 : Hid (MapAt w4 G (tkM m n)) := hm
  have HB4 : Hid (Below w.heap.size w w4) := below_chg HB3.out HG.out hc
  clear hm hc
  by_cases hn : 1 ≤ n ∧ n ≤ 32
  · obtain ⟨j, rfl⟩ : ∃ j : Nat, n = (j : Int) := ⟨n.toNat, by omega⟩
    rcases tk_in m j (by omega) (by omega) with ⟨h1, h2, -, -⟩ | ⟨h1, h2, h3, h4, -⟩
    · rw [h1, h2, errV_pos (by decide)]
      go_wp2
      go_ret
      exact ⟨rfl, HB4.out⟩
    · have HM4 : Hid (MapAt w4 G (put m (tkAt m (j : Int)) j)) := by rw [← h2]; exact HM4.out
      rw [h1, errV_zero]
      generalize tkAt m (j : Int) = k at HM4 h3 h4 ⊢
      have HC : Hid (cnt (put m k j) 32 = cnt m 32 + j) := by show cnt (put m k j) 32 = cnt m 32 + j; rw [cnt_put h4]; omega
      have hle := cnt_le (put m k j) 32
      rw [HC.out] at hle
      have HBE : Hid (bkE (put m k j) (k : Int) (j : Int) = 0 ∧ bkM (put m k j) (k : Int) (j : Int) = m) := by
        rcases bk_in (put m k j) k j (by omega) h3 with ⟨-, e1, e2⟩ | ⟨e0, -⟩
        · exact ⟨e1, by rw [e2]; exact cut_put HM.out.lt h3 h4⟩
        · exact absurd (tk_put m k j) e0
      have HBN : Hid (bkE m (k : Int) (j : Int) = 5) := by
        rcases bk_in m k j (by omega) h3 with ⟨e0, -⟩ | ⟨-, e1, -⟩
        · exact absurd e0 (not_tk h4 (by omega))
        · exact e1
      clear h1 h2 h4
      go_wp2_with fail
      refine (free_any G _ w4 HM4.out).mono ?_
      rintro e w5 ⟨rfl, q5, rfl⟩
      have HM5 : Hid (MapAt (w4.drewN q5) G (put m k j)) := HM4.out.drew q5
      have HB5 : Hid (Below w.heap.size w (w4.drewN q5)) := HB4.out.trans (below_drew _ _ _)
      generalize w4.drewN q5 = w5 at HM5 HB5 ⊢
      rw [HC.out]
      have hcc : (32 : Int) - ((cnt m 32 + j : Nat) : Int) = 32 - (cnt m 32 : Int) - (j : Int) := by omega
      rw [hcc]
      go_wp2_with fail
      refine (back_any G _ (k : Int) (j : Int) w5 HM5.out).mono ?_
      rintro e w6 ⟨rfl, hm, hc⟩
      rw [HBE.out.2] at hm
      have HM6 : Hid (MapAt w6 G m) := hm
      have HB6 : Hid (Below w.heap.size w w6) := below_chg HB5.out HG.out hc
      rw [HBE.out.1, errV_zero]
      clear hm hc
      go_wp2_with fail
      refine (free_any G _ w6 HM6.out).mono ?_
      rintro e w7 ⟨rfl, q7, rfl⟩
      have HM7 : Hid (MapAt (w6.drewN q7) G m) := HM6.out.drew q7
      have HB7 : Hid (Below w.heap.size w (w6.drewN q7)) := HB6.out.trans (below_drew _ _ _)
      generalize w6.drewN q7 = w7 at HM7 HB7 ⊢
      go_wp2_with fail
      refine (back_any G _ (k : Int) (j : Int) w7 HM7.out).mono ?_
      rintro e w8 ⟨rfl, hm, hc⟩
      have HB8 : Hid (Below w.heap.size w w8) := below_chg HB7.out HG.out hc
      rw [HBN.out]
      clear hm hc
      go_wp2_with fail
      refine (error_any (5) (5) _ (HL.out.later HB8.out)).mono ?_
      rintro e w9 ⟨rfl, hb⟩
      have HB9 : Hid (Below w.heap.size w w9) := Below.next HB8.out hb
      rw [show (((5 : Nat) : Int) == (5)) = true from rfl]
      clear hb
      go_wp2
      go_ret
      exact ⟨rfl, HB9.out⟩
  · obtain ⟨h1, h2, -⟩ := tk_range (m := m) hn
    rw [h1, h2, errV_pos (by decide)]
    go_wp2
    go_ret
    exact ⟨rfl, HB4.out⟩

end Go.Proofs.YtgkmgcmppkdbgaaDoor
