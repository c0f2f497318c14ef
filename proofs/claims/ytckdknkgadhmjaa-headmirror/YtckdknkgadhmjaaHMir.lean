/- This text proves that platterholdlaw1.HeadMirror returns true for any number, either way and any list of numbers, and lets all old memory be; the only condition is that the slice lies there. -/
import Derived.Test.YtckdknkgadhmjaaK5
import Derived.Test.YtckdknkgadhmjaaKm
namespace Go.Proofs.Ytckdknkgadhmjaa
open Go.RowKit Go.Deep

set_option maxHeartbeats 4000000 in
set_option maxRecDepth 100000 in
theorem headMirror_no (w : World) (s : Int) (up : Bool) (v : Value) (xs : List Int) (hx : SliceIs w v xs) (he : hdE s xs ≠ 0) :
    Calls Try.prog 6 #[.int .i64 s, .bool up, v] w fun e w' => e = .returned (.bool true) ∧ Below w.heap.size w w' := by
  have HE : Hid (errV (hdE s xs) = .iface 40 (.int .i64 (hdE s xs : Int))) := errV_pos he
  have HL : Hid (hdL (fun _ => ltS s up) s xs = []) := hdL_no he
  have HX : Hid (SliceIs w v xs) := hx
  clear hx he
  go_enter Try.func6, Try.ntmps6
  go_wp2_with fail
  refine (hfact_any _).mono ?_
  rintro e w1 ⟨rfl, hb1⟩
  have HB1 : Hid (Below w.heap.size w w1) := hb1
  clear hb1
  go_wp2_with fail
  refine (sweepH_any _ _ _ _ xs (HX.out.later HB1.out)).mono ?_
  rintro e w2 ⟨v2, rfl, hown, hb2⟩
  rw [HE.out, HL.out]
  have HB2 : Hid (Below w.heap.size w w2) := Below.next HB1.out hb2
  clear hown hb2
  rw [show farL s [] = 0 from rfl]
  go_wp2
  go_ret
  exact ⟨rfl, HB2.out⟩

set_option maxHeartbeats 4000000 in
set_option maxRecDepth 100000 in
theorem headMirror_ok (w : World) (s : Int) (up : Bool) (v : Value) (xs : List Int) (hx : SliceIs w v xs) (he : hdE s xs = 0) :
    Calls Try.prog 6 #[.int .i64 s, .bool up, v] w fun e w' => e = .returned (.bool true) ∧ Below w.heap.size w w' := by
  obtain ⟨h20, hs, hall⟩ := hdE_zero he
  obtain ⟨L, hL⟩ : ∃ L, L = ord (fun _ => ltS s up) xs.length s xs := ⟨_, rfl⟩
  have HL : Hid (hdL (fun _ => ltS s up) s xs = L) := (hdL_ok he).trans hL.symm
  have HM : Hid (hdL (fun _ => ltS (99 - s) (!up)) (99 - s) (mir xs) = mir L) := by
    show hdL (fun _ => ltS (99 - s) (!up)) (99 - s) (mir xs) = mir L
    rw [hdL_ok (hdE_mir he), mir_len, ord_mir s up xs.length s _ xs rfl, hL]
  have HF : Hid (farL (99 - s) (mir L) = farL s L) := farL_mir L s
  have hperm := ord_perm (fun _ => ltS s up) xs.length s xs rfl
  rw [← hL] at hperm
  have hLa : ∀ x ∈ L, 0 ≤ x ∧ x ≤ 99 := fun x hx => hall x (hperm.mem_iff.1 hx)
  obtain ⟨n, hn⟩ : ∃ n, n = xs.length := ⟨_, rfl⟩
  have HN : Hid (n = L.length) := by show n = L.length; rw [hn, hperm.length_eq]
  have HNx : Hid (n = xs.length) := hn
  have hn20 : n ≤ 20 := by rw [hn]; exact h20
  have HV : Hid (∀ i, i < n → 0 ≤ nth L i ∧ nth L i ≤ 99) := fun i hi => hLa _ (nth_mem (by rw [← HN.out]; exact hi))
  have HVx : Hid (∀ i, i < n → 0 ≤ nth xs i ∧ nth xs i ≤ 99) := fun i hi => hall _ (nth_mem (by rw [← hn]; exact hi))
  have HE : Hid (hdE s xs = 0) := he
  have HEM : Hid (hdE (99 - s) (mir xs) = 0) := hdE_mir he
  have HX : Hid (SliceIs w v xs) := hx
  clear he hL hperm hLa hn hall h20
  obtain ⟨a0, c0, b0, o0, rfl, _, ha0, hc0⟩ := hx.where
  rw [← HNx.out] at ha0 hc0 ⊢
  have hlt0 : 0 < n → b0 < w.heap.size := fun h => by
    have := World.block_lt_of_cell? _ _ (hc0 0 h)
    exact this
  have HC0 : Hid (∀ w', Below w.heap.size w w' → ∀ i, i < n → w'.cell? ⟨b0, o0 + i, none⟩ = some (.int .i64 (nth xs i))) := fun w' hb i hi => by
    rw [hb.cell (p := ⟨b0, o0 + i, none⟩) (hlt0 (by omega))]
    exact hc0 i hi
  rw [← HNx.out] at HX
  clear hx hc0 hlt0
  go_enter Try.func6, Try.ntmps6
  go_wp2_with fail
  refine (hfact_any _).mono ?_
  rintro e w1 ⟨rfl, hb1⟩
  have HB1 : Hid (Below w.heap.size w w1) := hb1
  clear hb1
  go_wp2_with fail
  refine (sweepH_any _ _ _ _ xs (HX.out.later HB1.out)).mono ?_
  rintro e w2 ⟨v2, rfl, hown, hb2⟩
  rw [HE.out, HL.out, errV_zero]
  rw [HL.out] at hown
  have HSL : Hid (SliceIs w2 v2 L) := slice_own hown (by rw [← HN.out]; unfold maxLen; omega)
  have HB2 : Hid (Below w.heap.size w w2) := Below.next HB1.out hb2
  clear hown hb2
  go_wp2
  go_loopw [11, 12] (fun v11 v12 wr => ∃ i : Nat, i ≤ n ∧ v12 = .int .i64 i ∧ wr.ownsRow w2.heap.size 3 1 v11 i (cellsOf (mir (xs.take i))) ∧ Below w2.heap.size w2 wr) (fun _ i _ => n - (intOf i).toNat)
  case atStart => exact ⟨0, Nat.zero_le _, rfl, World.ownsRow_nil _ _ _ _, Below.refl _ _⟩
  case round =>
    obtain ⟨i, hi, rfl, hown, hb⟩ := hrel
    rename_i wr _
    have HO : Hid (wr.ownsRow w2.heap.size 3 1 _ i (cellsOf (mir (xs.take i)))) := hown
    have HB : Hid (Below w2.heap.size w2 wr) := hb
    clear hown hb
    by_cases hlt : i < n
    · have hci := HC0.out wr (Below.next HB2.out HB.out) i hlt
      have haa := ha0 (by omega)
      subst haa
      have hvi := HVx.out i hlt
      have hii : (i : Int) < (n : Int) := by omega
      have HT : Hid (mir (xs.take i) ++ [99 - nth xs i] = mir (xs.take (i + 1))) := mir_take (by rw [← HNx.out]; exact hlt)
      have HO1 : Hid ((wr.alloc (.cells #[.int .i64 (99 - nth xs i)] 3)).ownsRow w2.heap.size 3 1 u11 i (cellsOf (mir (xs.take i)))) := HO.out.alloc _
      have HY : Hid (SliceIs (wr.alloc (.cells #[.int .i64 (99 - nth xs i)] 3)) (.slice (some ⟨wr.heap.size, 0, none⟩) 1 1) [99 - nth xs i]) := ints_lit wr [99 - nth xs i] (show 1 ≤ maxLen by decide) 1
      have HS0 : Hid (w2.heap.size ≤ (wr.alloc (.cells #[.int .i64 (99 - nth xs i)] 3)).heap.size) := Nat.le_trans HB.out.size (by simp)
      have h63 : i ≤ 1000000 := by omega
      go_wp2_with (at_builtin; refine wpList_append_lie rfl (.tmp 38) (.tmp 44) rfl w2.heap.size u11 i (mir (xs.take i)) rfl HO1.out _ (99 - nth xs i) rfl HY.out h63 HS0.out ?q1)
      case q1 =>
        intro g2 c2 W1 h1 h2 _ _
        have H1 : Hid _ := h1
        have H2 : Hid (Below w2.heap.size w2 W1) := (HB.out.trans ((Below.refl _ _).alloc HB.out.size _)).trans ((Below.refl _ _).grown h2 HS0.out (fun k e => (HO.out.lt k e).1))
        clear h1 h2
        go_wp2
        go_roundw
        case rel => exact ⟨i + 1, by omega, by go_num, by rw [← HT.out]; exact H1.out, H2.out⟩
        case measure => simp [intOf]; omega
    · have hin : i = n := by omega
      subst hin
      have HSM : Hid (SliceIs wr u11 (mir xs)) := by
        have := slice_own HO.out (by unfold maxLen; omega)
        rw [HNx.out, List.take_length] at this
        exact this
      have h99 : 0 ≤ 99 - s ∧ 99 - s ≤ 99 := by omega
      clear HO
      go_wp2_with fail
      refine (sweepH_any _ _ _ _ (mir xs) HSM.out).mono ?_
      rintro e w3 ⟨v3, rfl, hown, hb3⟩
      rw [HEM.out, HM.out, errV_zero, HF.out]
      rw [HM.out] at hown
      have hs3 : SliceIs w3 v3 (mir L) := slice_own hown (by rw [mir_len, ← HN.out]; unfold maxLen; omega)
      have HB3 : Hid (Below w.heap.size w w3) := Below.next HB2.out (Below.next HB.out hb3)
      have hs2 : SliceIs w3 v2 L := HSL.out.later (Below.next HB.out hb3)
      clear hown hb3
      obtain ⟨a2, c2, b2, o2, rfl, _, ha2, hc2⟩ := hs2.where
      obtain ⟨a3, c3, b3, o3, rfl, _, ha3, hc3⟩ := hs3.where
      rw [mir_len] at ha3 hc3 ⊢
      rw [← HN.out] at ha2 hc2 ha3 hc3 ⊢
      have HC2 : Hid (∀ j, j < i → w3.cell? ⟨b2, o2 + j, none⟩ = some (.int .i64 (nth L j))) := hc2
      have HC3 : Hid (∀ j, j < i → w3.cell? ⟨b3, o3 + j, none⟩ = some (.int .i64 (99 - nth L j))) := fun j hj => by
        rw [hc3 j hj, mir_nth (by rw [← HN.out]; exact hj)]
      clear hs2 hs3 hc2 hc3 HSL
      go_wp2
      go_loopw [16] (fun v16 wv => ∃ k : Nat, k ≤ i ∧ v16 = .int .i64 k ∧ ∃ q, wv = w3.drewN q) (fun k _ => i - (intOf k).toNat)
      case atStart => exact ⟨0, Nat.zero_le _, rfl, 0, rfl⟩
      case round =>
        obtain ⟨k, hk, rfl, q, rfl⟩ := hrel
        by_cases hkn : k < i
        · have d2 := HC2.out k hkn
          have d3 := HC3.out k hkn
          have e2 := ha2 (by omega)
          have e3 := ha3 (by omega)
          subst e2 e3
          have hvk := HV.out k hkn
          have hki : (k : Int) < (i : Int) := by omega
          have hee : (99 - (99 - nth L k)) = nth L k := by omega
          go_wp2
          go_quiet (fail)
          go_wp2
          go_roundw
          case rel => exact ⟨k + 1, by omega, by go_num, q + nq, rfl⟩
          case measure => simp [intOf]; omega
        · have hkn : k = i := by omega
          subst hkn
          go_wp2
          go_ret
          exact ⟨rfl, Below.next HB3.out (below_drew _ _ _)⟩

theorem headMirror_any (w : World) (s : Int) (up : Bool) (v : Value) (xs : List Int) (hx : SliceIs w v xs) :
    Calls Try.prog 6 #[.int .i64 s, .bool up, v] w fun e w' => e = .returned (.bool true) ∧ Below w.heap.size w w' := by
  by_cases h : hdE s xs = 0
  · exact headMirror_ok w s up v xs hx h
  · exact headMirror_no w s up v xs hx h

end Go.Proofs.Ytckdknkgadhmjaa
