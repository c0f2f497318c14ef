/- This text proves what the document's own Far and Near (package platterholdref1) answer: how far a head goes, and the order in which it comes to the nearest one each time; the new list lies in memory of the call's own and all old memory is as it was; the conditions: the slice lies there and holds at most 20 tracks. -/
import Derived.Test.YtckdknkgadhmjaaDoorKf
import Derived.Test.YtckdknkgadhmjaaDoorKa
import Derived.Test.YtckdknkgadhmjaaDoorK7
namespace Go.Proofs.YtckdknkgadhmjaaDoor
open Go.RowKit Go.Deep

set_option maxHeartbeats 1000000 in
theorem rfar_nil (w : World) (s : Int) (a : Option Addr) (c : Nat) :
    Calls Tryd.prog 12 #[.int .i64 s, .slice a 0 c] w fun e w' => e = .returned (.int .i64 0) ∧ w = w' := by
  go_enter Tryd.func12, Tryd.ntmps12
  go_wp2
  go_loop [5, 6] (fun v5 v6 => v5 = .int .i64 0 ∧ v6 = .int .i64 0) (fun _ _ => 0)
  case atStart => exact ⟨rfl, rfl⟩
  case round =>
    obtain ⟨rfl, rfl⟩ := hrel
    go_wp2
    go_ret
    exact ⟨rfl, rfl⟩

set_option maxHeartbeats 2000000 in
theorem rfar_any (w : World) (s : Int) (v : Value) (L : List Int) (hx : SliceIs w v L) (hn : L.length ≤ 20) (hs : 0 ≤ s ∧ s ≤ 99) (hL : ∀ x ∈ L, 0 ≤ x ∧ x ≤ 99) :
    Calls Tryd.prog 12 #[.int .i64 s, v] w fun e w' => e = .returned (.int .i64 (farL s L)) ∧ w = w' := by
  obtain ⟨a, c, b, o, rfl, _, ha, hc⟩ := hx.where
  obtain ⟨n, hnn⟩ : ∃ n, n = L.length := ⟨_, rfl⟩
  have HW : Hid (∀ i, i ≤ n → 0 ≤ nth (s :: L) i ∧ nth (s :: L) i ≤ 99) := by rw [hnn]; exact was_in hs hL
  have HV : Hid (∀ i, i < n → 0 ≤ nth L i ∧ nth L i ≤ 99) := fun i hi => hL _ (nth_mem (by rw [← hnn]; exact hi))
  have HF : Hid (∀ k, k ≤ n → 0 ≤ farN s L k ∧ farN s L k ≤ 99 * (k : Int)) := by rw [hnn]; exact farN_in hs hL
  have HT : Hid (farN s L n = farL s L) := by rw [hnn]; exact farN_all L s
  rw [← hnn] at ha hc hn ⊢
  have HC : Hid (∀ i, i < n → w.cell? ⟨b, o + i, none⟩ = some (.int .i64 (nth L i))) := hc
  rw [← HT.out]
  clear hx hc hs hL hnn
  go_enter Tryd.func12, Tryd.ntmps12
  go_wp2
  go_loop [0, 5, 6] (fun v0 v5 v6 => ∃ i : Nat, i ≤ n ∧ v6 = .int .i64 i ∧ v0 = .int .i64 (nth (s :: L) i) ∧ v5 = .int .i64 (farN s L i)) (fun _ _ i => n - (intOf i).toNat)
  case atStart => exact ⟨0, Nat.zero_le _, rfl, rfl, rfl⟩
  case round =>
    obtain ⟨i, hi, rfl, rfl, rfl⟩ := hrel
    by_cases hlt : i < n
    · have hci := HC.out i hlt
      have haa := ha (by omega)
      subst haa
      have hw := HW.out i hi
      have hvi := HV.out i hlt
      have hfi := HF.out i hi
      have HS1 : Hid (farN s L (i + 1) = farN s L i + dst (nth (s :: L) i) (nth L i)) := rfl
      have HS2 : Hid (nth (s :: L) (i + 1) = nth L i) := rfl
      have hdi := dst_in hw hvi
      generalize nth (s :: L) i = p at *
      generalize farN s L i = F at *
      have hii : (i : Int) < (n : Int) := by omega
      go_wp2_with (go_at_call 18; refine (abs_any _ _ _ hw hvi).mono ?_; rintro e w' ⟨rfl, rfl⟩)
      go_round
      case rel => exact ⟨i + 1, by omega, by go_num, by rw [HS2.out], by rw [HS1.out]⟩
      case measure => simp [intOf]; omega
    · have hkn : i = n := by omega
      subst hkn
      go_wp2
      go_ret
      exact ⟨rfl, rfl⟩

theorem ltN_yes {p x y : Int} (h : dst x p < dst y p ∨ (dst x p = dst y p ∧ x < y)) : ltN p x y = true := by
  unfold ltN; rw [dst_comm p x, dst_comm p y]; exact decide_eq_true h
theorem ltN_not {p x y : Int} (h : ¬ (dst x p < dst y p ∨ (dst x p = dst y p ∧ x < y))) : ¬ ltN p x y = true := by
  unfold ltN; rw [dst_comm p x, dst_comm p y]; simpa using h

set_option maxHeartbeats 8000000 in
set_option maxRecDepth 100000 in
theorem rnear_any (w : World) (s : Int) (v : Value) (xs : List Int) (hx : SliceIs w v xs) (hn : xs.length ≤ 20) (hs : 0 ≤ s ∧ s ≤ 99) (hL : ∀ x ∈ xs, 0 ≤ x ∧ x ≤ 99) :
    Calls Tryd.prog 8 #[.int .i64 s, v] w fun e w' => ∃ v', e = .returned v' ∧ w'.ownsRow w.heap.size 3 1 v' (ord ltN xs.length s xs).length (cellsOf (ord ltN xs.length s xs)) ∧ Below w.heap.size w w' := by
  have H0 : Hid (RsSt ltN (ord ltN xs.length s xs) xs.length w.heap.size w v (.slice none 0 0) s xs [] w) :=
    ⟨hx, World.ownsRow_nil _ _ _ _, (fun g e h => by cases h), by simp, rfl, Below.refl _ _⟩
  have HT : Hid (∀ x ∈ xs, 0 ≤ x ∧ x ≤ 99) := hL
  generalize ord ltN xs.length s xs = L at H0 ⊢
  generalize xs.length = n at H0 hn
  clear hx hL
  go_enter Tryd.func8, Tryd.ntmps8
  go_wp2
  go_loopw [0, 1, 5] (fun v0 v1 v5 wr => ∃ (p : Int) (ys zs : List Int), v0 = .int .i64 p ∧ RsSt ltN L n w.heap.size w v1 v5 p ys zs wr ∧ (0 ≤ p ∧ p ≤ 99) ∧ ∀ x ∈ ys, 0 ≤ x ∧ x ≤ 99) (fun _ v1 _ _ => slen v1)
  case atStart => exact ⟨s, xs, [], rfl, H0.out, hs, HT.out⟩
  case round =>
    obtain ⟨p, ys, zs, rfl, hst, hp, hys⟩ := hrel
    rename_i wr _
    have ST : Hid (RsSt ltN L n w.heap.size w u1 u5 p ys zs wr) := hst
    obtain ⟨a, c, b, o, hv0, _, ha, hc⟩ := hst.sl.where
    have hlen := hst.len
    obtain ⟨m, hm⟩ : ∃ m, m = ys.length := ⟨_, rfl⟩
    have HM : Hid (m = ys.length) := hm
    obtain ⟨z, hz⟩ : ∃ z, z = zs.length := ⟨_, rfl⟩
    have HZL : Hid (z = zs.length) := hz
    rw [← hm] at hlen hv0 ha hc
    rw [← hz] at hlen
    have HC : Hid (∀ i, i < m → wr.cell? ⟨b, o + i, none⟩ = some (.int .i64 (nth ys i))) := hc
    have HBB : Hid (Below w.heap.size w wr) := hst.below
    have HYS : Hid (∀ x ∈ ys, 0 ≤ x ∧ x ≤ 99) := hys
    clear hm hz hc hys
    subst hv0
    by_cases h0 : m = 0
    · have HL : Hid (zs = L) := by
        have h1 := hst.ord
        have h2 : ys = [] := List.length_eq_zero_iff.1 (by rw [← HM.out]; exact h0)
        rw [h2] at h1
        show zs = L
        rw [← h1]
        exact (List.append_nil zs).symm
      have HO : Hid _ := hst.out
      clear hst
      subst h0
      go_wp2
      go_ret
      exact ⟨_, rfl, by rw [← HL.out]; exact HO.out, HBB.out⟩
    · clear hst
      have hmp : 0 < m := by omega
      have hmi : (0 : Int) < (m : Int) := by omega
      obtain rfl := ha hmp
      have hc0 := HC.out 0 hmp
      rw [Nat.add_zero] at hc0
      clear ha
      go_wp2
      go_loop [6, 7] (fun v6 v7 => ∃ k : Nat, k ≤ m ∧ v7 = .int .i64 k ∧ v6 = .int .i64 (nth ys (pickN (ltN p) ys k))) (fun _ i => m - (intOf i).toNat)
      case atStart => exact ⟨0, Nat.zero_le _, rfl, rfl⟩
      case round =>
        obtain ⟨k, hk, rfl, rfl⟩ := hrel
        by_cases hlt : k < m
        · have hck := HC.out k hlt
          have hki : (k : Int) < (m : Int) := by omega
          have HP : Hid (pickN (ltN p) ys (k + 1) = if ltN p (nth ys k) (nth ys (pickN (ltN p) ys k)) = true then k else pickN (ltN p) ys k) := rfl
          have hvu := HYS.out _ (nth_mem (show pickN (ltN p) ys k < ys.length by rw [← HM.out]; exact pickN_lt _ _ _ _ hmp hk))
          have hvk := HYS.out _ (nth_mem (show k < ys.length by rw [← HM.out]; exact hlt))
          generalize hu : nth ys (pickN (ltN p) ys k) = u at *
          have HU : Hid (nth ys (pickN (ltN p) ys k) = u) := hu
          clear hu
          have HA1 : Hid _ := fun w => abs_any (nth ys k) p w hvk hp
          have HA2 : Hid _ := fun w => abs_any u p w hvu hp
          have HY : Hid _ := fun h => ltN_yes (p := p) (x := nth ys k) (y := u) h
          have HNo : Hid _ := fun h => ltN_not (p := p) (x := nth ys k) (y := u) h
          generalize dst (nth ys k) p = da at HA1 HY HNo
          generalize dst u p = db at HA2 HY HNo
          clear hvu hvk
          by_cases h1 : da < db
          · have HB2 : Hid _ := HY.out (.inl h1)
            go_wp2_with fail
            refine (HA1.out _).mono ?_
            rintro e w' ⟨rfl, rfl⟩
            go_wp2_with fail
            refine (HA2.out _).mono ?_
            rintro e w' ⟨rfl, rfl⟩
            go_wp2
            go_round
            case rel => exact ⟨k + 1, by omega, by go_num, by rw [HP.out, if_pos HB2.out]⟩
            case measure => simp [intOf]; omega
          · by_cases h2 : da = db
            · by_cases h3 : nth ys k < u
              · have HB2 : Hid _ := HY.out (.inr ⟨h2, h3⟩)
                subst h2
                go_wp2_with fail
                refine (HA1.out _).mono ?_
                rintro e w' ⟨rfl, rfl⟩
                go_wp2_with fail
                refine (HA2.out _).mono ?_
                rintro e w' ⟨rfl, rfl⟩
                go_wp2
                go_round
                case rel => exact ⟨k + 1, by omega, by go_num, by rw [HP.out, if_pos HB2.out]⟩
                case measure => simp [intOf]; omega
              · have HB2 : Hid _ := HNo.out (by omega)
                subst h2
                go_wp2_with fail
                refine (HA1.out _).mono ?_
                rintro e w' ⟨rfl, rfl⟩
                go_wp2_with fail
                refine (HA2.out _).mono ?_
                rintro e w' ⟨rfl, rfl⟩
                go_wp2
                go_round
                case rel => exact ⟨k + 1, by omega, by go_num, by rw [HP.out, if_neg HB2.out, HU.out]⟩
                case measure => simp [intOf]; omega
            · have HB2 : Hid _ := HNo.out (by omega)
              have h2' : (da == db) = false := by simp [h2]
              go_wp2_with fail
              refine (HA1.out _).mono ?_
              rintro e w' ⟨rfl, rfl⟩
              go_wp2_with fail
              refine (HA2.out _).mono ?_
              rintro e w' ⟨rfl, rfl⟩
              go_wp2
              go_round
              case rel => exact ⟨k + 1, by omega, by go_num, by rw [HP.out, if_neg HB2.out, HU.out]⟩
              case measure => simp [intOf]; omega
        · have hkm : k = m := by omega
          subst hkm
          obtain ⟨u, hu⟩ : ∃ u, u = pickN (ltN p) ys k := ⟨_, rfl⟩
          rw [← hu]
          have HU : Hid (u = pickN (ltN p) ys k) := hu
          obtain ⟨t, ht⟩ : ∃ t, t = nth ys u := ⟨_, rfl⟩
          rw [← ht]
          have HTT : Hid (t = nth ys u) := ht
          clear hu ht
          have HUL : Hid (u < ys.length) := by show u < ys.length; rw [← HM.out, HU.out]; exact pickN_lt _ _ _ _ hmp (Nat.le_refl _)
          have HO : Hid ((wr.alloc (.cells #[.int .i64 t] 3)).ownsRow w.heap.size 3 1 u5 z (cellsOf zs)) := by
            have := World.ownsRow.alloc ST.out.out (.cells #[.int .i64 t] 3)
            rw [← HZL.out] at this
            exact this
          have HY : Hid (SliceIs (wr.alloc (.cells #[.int .i64 t] 3)) (.slice (some ⟨wr.heap.size, 0, none⟩) 1 1) [t]) := ints_lit wr [t] (show 1 ≤ maxLen by decide) 1
          have HS0 : Hid (w.heap.size ≤ (wr.alloc (.cells #[.int .i64 t] 3)).heap.size) := Nat.le_trans HBB.out.size (by simp)
          have hz20 : z ≤ 1000000 := by omega
          go_wp2_with (at_builtin; refine wpList_append_lie rfl (.tmp 51) (.tmp 53) rfl w.heap.size u5 z zs rfl HO.out _ t rfl HY.out hz20 HS0.out ?q1)
          case q1 =>
            intro g2 c2 W1 h1 h2 _ h3
            have H1 : Hid _ := h1
            have H2 : Hid _ := h2
            have H3 : Hid _ := h3
            have HK : Hid _ := RsSt.keep (q := 0) ST.out h2
            clear h1 h2 h3
            go_wp2_with fail
            refine (without_any W1 _ ys t HK.out (by rw [← HM.out]; omega)).mono ?_
            rintro e W2 ⟨v0', rfl, h5, h6⟩
            have H5 : Hid _ := RsSt.step (q := 0) ST.out (ltN_total p) HM.out HZL.out hmp HU.out HTT.out HBB.out.size (by omega) H1.out H2.out H3.out h5 h6
            obtain ⟨a', c', rfl⟩ := own_form h5
            have HV : Hid ((ys.erase t).length < k) := by
              have h8 := List.length_erase_of_mem (nth_mem HUL.out)
              rw [← HTT.out, ← HM.out] at h8
              show (ys.erase t).length < k
              omega
            clear h5 h6
            go_wp2
            go_roundw
            case rel => exact ⟨_, _, _, rfl, H5.out, by rw [HTT.out]; exact HYS.out _ (nth_mem HUL.out), fun x hx => HYS.out x (List.mem_of_mem_eraseIdx hx)⟩
            case measure => simp [slen]; exact HV.out

end Go.Proofs.YtckdknkgadhmjaaDoor
