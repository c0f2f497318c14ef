/- This text joins 2 parts of a proof. (1) This text proves what the document's Walk and Inside answer: all paths of the tree, and the names in a directory, as they rise; old memory is as it was; the conditions are that the document's tree lies there and is the program's. (2) This text proves what the document's Inside answers: the names in a directory, as they rise; old memory is as it was; the conditions are that the document's tree lies there and is the program's. -/
import Derived.Test.YtdlmkienogimgaaGreatDoorMb3
import Derived.Test.YtdlmkienogimgaaGreatDoorU18
namespace Go.Proofs.YtdlmkienogimgaaGreatDoor
open Go.RowKit Go.Deep Go.Shelf

theorem strs_one_text (w : World) (x : ByteArray) (X : List UInt8) (h : x = bs X) : StrsIs (w.alloc (.cells #[.string x] 9)) (.slice (some ⟨w.heap.size, 0, none⟩) 1 1) [X] := by rw [h]; exact strs_one w X
theorem take_map {α β : Type} (f : α → β) (D : List α) {k : Nat} (h : k < D.length) : (D.take (k + 1)).map f = (D.take k).map f ++ [f D[k]] := by
  rw [take_one' h, List.map_append]; rfl
theorem take_some {α β : Type} {f : α → Option β} {D : List α} {k : Nat} (h : k < D.length) {y : β} (e : f D[k] = some y) : (D.take (k + 1)).filterMap f = (D.take k).filterMap f ++ [y] := by
  rw [take_one' h, List.filterMap_append, List.filterMap_cons, e]; rfl
theorem take_none {α β : Type} {f : α → Option β} {D : List α} {k : Nat} (h : k < D.length) (e : f D[k] = none) : (D.take (k + 1)).filterMap f = (D.take k).filterMap f := by
  rw [take_one' h, List.filterMap_append, List.filterMap_cons, e]; simp

set_option maxHeartbeats 8000000 in
set_option maxRecDepth 100000 in
theorem dwalk_any (w : World) (vD vB : Value) (L : List Ent) (M : Nat → Option Nat) (num : Nat → Nat) (D : List Nm) (B : List Bool) (hD : NamedIs w vD D) (hB : BoolsIs w vB B) (hm : Mt L M num D B) :
    Calls Tryz.prog 24 #[.agg #[vD, vB]] w fun e w' => ∃ v', e = .returned v' ∧ StrsIs w' v' (txs L M) ∧ Below w.heap.size w w' := by
  obtain ⟨aD, cD, b, o, rfl, hl, ha, _, hc⟩ := hD.where
  obtain ⟨aB, cB, b2, o2, rfl, hlB, haB, hcB⟩ := hB.where
  obtain ⟨nD, hnD⟩ : ∃ n, D.length = n := ⟨_, rfl⟩
  obtain ⟨nB, hnB⟩ : ∃ n, B.length = n := ⟨_, rfl⟩
  have h24 : nD ≤ 24 := by have := hm.few; have := hm.good.few; omega
  have HND : Hid (D.length = nD) := hnD
  have HA : Hid (0 < nD → aD = some ⟨b, o, none⟩) := by rw [← hnD]; exact ha
  have HAB : Hid (0 < nB → aB = some ⟨b2, o2, none⟩) := by rw [← hnB]; exact haB
  have HC : Hid (∀ w', Below w.heap.size w w' → ∀ i, i < nD → w'.cell? ⟨b, o + i * 2, none⟩ = some (.string (bs (nAt D i).1)) ∧ w'.cell? ⟨b, o + i * 2 + 1, none⟩ = some (.int .i64 ((nAt D i).2 : Int))) :=
    fun w' hb i hi => ⟨keepU hb (hc i (by omega)).1, keepU hb (hc i (by omega)).2⟩
  have HZ : Hid (∀ i, i < nD → (nAt D i).2 < nB ∧ (nAt D i).1.length ≤ 41) := fun i hi => by
    obtain ⟨y, hy, hne, e1, e2, a8, an⟩ := hm.name (nAt_mem (show i < D.length by omega))
    have := (hm.dirs y.1 y.2 hy).1
    refine ⟨by rw [e2, ← hnB]; exact this, by rw [e1, ← shw_sg hne]; exact (shw_path a8 an).2.2⟩
  have HCB : Hid (∀ w', Below w.heap.size w w' → ∀ i, i < nB → w'.cell? ⟨b2, o2 + i, none⟩ = some (.bool (B.getD i false))) := fun w' hb i hi => keepU hb (hcB i (by omega))
  have HSo : Hid _ := fun (w' : World) (v : Value) (hv : StrsIs w' v (D.map (wlk B))) => sorted_any w' v _ hv hm.walk_nodup (by rw [List.length_map]; omega)
  rw [hm.walk_srt] at HSo
  have HX : Hid (∀ w', Below (w.alloc (.cells #[.slice aD nD cD, .slice aB nB cB] 42)).heap.size (w.alloc (.cells #[.slice aD nD cD, .slice aB nB cB] 42)) w' → Box2 w' w.heap.size (.slice aD nD cD) (.slice aB nB cB)) := fun w' hb => (box2_new w _ _).later hb
  have HB1 : Hid (Below w.heap.size w (w.alloc (.cells #[.slice aD nD cD, .slice aB nB cB] 42))) := below_alloc _ _
  rw [hnD, hnB]
  unfold maxLen at hl hlB
  rw [hnD] at hl
  rw [hnB] at hlB
  clear hD hB hm ha haB hc hcB hnD hnB
  go_enter Tryz.func24, Tryz.ntmps24
  go_upto_region 3 with fail
  generalize w.alloc (.cells #[.slice aD nD cD, .slice aB nB cB] 42) = w1 at *
  go_loopw [3, 4] (fun vo i wr => ∃ k : Nat, k ≤ nD ∧ i = .int .i64 k ∧ Hid (wr.ownsRow w1.heap.size 9 1 vo k (cellsS ((D.take k).map (wlk B)))) ∧ Hid (Below w1.heap.size w1 wr)) (fun _ i _ => nD - (intOf i).toNat)
  case atStart => exact ⟨0, Nat.zero_le _, rfl, World.ownsRow_nil _ _ _ _, Below.refl _ _⟩
  case round =>
    obtain ⟨k, hk, rfl, HO, HB⟩ := hrel
    obtain ⟨x0, x1, _, _⟩ := (HX.out wr HB.out).facts
    have HBw : Hid (Below w.heap.size w wr) := HB1.out.trans (HB.out.mono HB1.out.size)
    by_cases hlt : k < nD
    · have haa := HA.out (by omega)
      subst haa
      obtain ⟨hz1, hz2⟩ := HZ.out k hlt
      have haa := HAB.out (by omega)
      subst haa
      obtain ⟨n1, n2⟩ := HC.out wr HBw.out k hlt
      have cz := HCB.out wr HBw.out _ hz1
      have hkD : k < D.length := by have := HND.out; omega
      have hzi : ((nAt D k).2 : Int) < (nB : Int) := by omega
      have HTk : Hid ((D.take (k + 1)).map (wlk B) = (D.take k).map (wlk B) ++ [(nAt D k).1 ++ if B.getD (nAt D k).2 false then [47] else []]) := by
        show (D.take (k + 1)).map (wlk B) = _
        rw [take_map _ _ hkD, nAt_lt hkD]; rfl
      have hxs : (bs (nAt D k).1).size ≤ 41 := by rw [Lib.size_eq, data_bs]; exact hz2
      have HXb : Hid ((bs (nAt D k).1).data.toList = (nAt D k).1) := data_bs _
      generalize (nAt D k).1 = xp at *
      generalize (nAt D k).2 = xz at *
      generalize B.getD xz false = d at *
      generalize bs xp = x at *
      obtain ⟨X, hX⟩ : ∃ X, (D.take k).map (wlk B) = X := ⟨_, rfl⟩
      rw [hX] at HTk HO
      clear hX
      cases d
      case' false =>
        obtain ⟨y, hy⟩ : ∃ y, y = xp := ⟨_, rfl⟩
        have HTy : Hid ((D.take (k + 1)).map (wlk B) = X ++ [y]) := by
          show (D.take (k + 1)).map (wlk B) = X ++ [y]
          rw [HTk.out, hy]; simp
        have HN1 : Hid (∀ w : World, StrsIs (w.alloc (.cells #[.string x] 9)) (.slice (some ⟨w.heap.size, 0, none⟩) 1 1) [y]) := fun w => strs_one_text w _ _ (by rw [hy, ← HXb.out, bs_data])
      case' true =>
        obtain ⟨y, hy⟩ : ∃ y, y = xp ++ [47] := ⟨_, rfl⟩
        have HTy : Hid ((D.take (k + 1)).map (wlk B) = X ++ [y]) := by
          show (D.take (k + 1)).map (wlk B) = X ++ [y]
          rw [HTk.out, hy]; simp
        have HN1 : Hid (∀ w : World, StrsIs (w.alloc (.cells #[.string (x ++ ⟨#[47]⟩)] 9)) (.slice (some ⟨w.heap.size, 0, none⟩) 1 1) [y]) := fun w => strs_one_text w _ _ (by
          rw [hy, ← bs_data (x ++ ⟨#[47]⟩), ByteArray.data_append, Array.toList_append, HXb.out])
      all_goals
        clear hy HTk
        go_wp2_with fail
        go_quiet (fail)
        have HBq : Hid (Below w1.heap.size w1 (wr.drewN nq)) := HB.out.trans ((belowN wr _ nq).mono HB.out.size)
        have HOq : Hid ((wr.drewN nq).ownsRow w1.heap.size 9 1 u3 k (cellsS X)) := row_still8 HO.out (belowN wr _ nq)
        generalize wr.drewN nq = w2 at *
        go_wp2_with (at_builtin; refine wpList_append_strs rfl (.tmp 31) (.tmp 33) rfl w1.heap.size u3 k X rfl (HOq.out.alloc _) _ [y] rfl (HN1.out w2) ?q1 ?q2 ?q3)
        case q1 => first | omega | (simp; omega)
        case q2 => have := HBq.out.size; first | omega | (simp; omega)
        case q3 =>
          intro v1 w3 hown hb3
          have HO3 : Hid (w3.ownsRow w1.heap.size 9 1 v1 (k + 1) (cellsS ((D.take (k + 1)).map (wlk B)))) := by rw [HTy.out]; exact hown
          have HB3 : Hid (Below w1.heap.size w1 w3) := HBq.out.trans (((below_alloc w2 _).mono HBq.out.size).trans hb3)
          clear hown hb3
          go_wp2_with fail
          go_roundw
          case rel => exact ⟨k + 1, by omega, by go_num, HO3, HB3⟩
          case measure => simp [intOf]; omega
    · have hkn : k = nD := by omega
      have hall : D.take k = D := List.take_of_length_le (by have := HND.out; omega)
      have HV : Hid (StrsIs wr u3 (D.map (wlk B))) := by
        have := strs_own HO.out
        rw [hall] at this
        exact this
      clear hall hkn
      go_wp2_with fail
      refine Calls.mono (HSo.out wr u3 HV.out) ?_
      rintro e w2 ⟨v2, rfl, hv2, hb2⟩
      go_wp2_with fail
      go_ret
      exact ⟨v2, rfl, hv2, HBw.out.trans (hb2.mono HBw.out.size)⟩

end Go.Proofs.YtdlmkienogimgaaGreatDoor

namespace Go.Proofs.YtdlmkienogimgaaGreatDoor
open Go.RowKit Go.Deep Go.Shelf

theorem bgn_longer {s p : List UInt8} (h : bgn s p = true) : p.length < s.length := by
  unfold bgn at h
  obtain ⟨u, hu⟩ := decide_eq_true_iff.1 h
  have := congrArg List.length hu
  simp at this
  omega
theorem bs_tail (y : ByteArray) (n : Nat) : y.extract n y.size = bs (y.data.toList.drop n) := by
  rw [← bs_data (y.extract n y.size)]
  congr 1
  have h2 : y.data.toList.length = y.size := by rw [Lib.size_eq]
  rw [Lib.extract_data, List.take_of_length_le]
  rw [List.length_drop]; omega

set_option maxHeartbeats 8000000 in
set_option maxRecDepth 100000 in
theorem dinside_any (w : World) (vD vB : Value) (L : List Ent) (M : Nat → Option Nat) (num : Nat → Nat) (D : List Nm) (B : List Bool) (hD : NamedIs w vD D) (hm : Mt L M num D B) (p : List (List UInt8)) (hp8 : p.length ≤ 8) (hpn : ∀ k ∈ p, isN k = true) :
    Calls Tryz.prog 28 #[.agg #[vD, vB], .string (bs (shw p))] w fun e w' => ∃ v', e = .returned v' ∧ StrsIs w' v' (kids L p) ∧ Below w.heap.size w w' := by
  obtain ⟨aD, cD, b, o, rfl, hl, ha, _, hc⟩ := hD.where
  obtain ⟨nD, hnD⟩ : ∃ n, D.length = n := ⟨_, rfl⟩
  have h24 : nD ≤ 24 := by have := hm.few; have := hm.good.few; omega
  have HND : Hid (D.length = nD) := hnD
  have HA : Hid (0 < nD → aD = some ⟨b, o, none⟩) := by rw [← hnD]; exact ha
  have HC : Hid (∀ w', Below w.heap.size w w' → ∀ i, i < nD → w'.cell? ⟨b, o + i * 2, none⟩ = some (.string (bs (nAt D i).1)) ∧ w'.cell? ⟨b, o + i * 2 + 1, none⟩ = some (.int .i64 ((nAt D i).2 : Int))) :=
    fun w' hb i hi => ⟨keepU hb (hc i (by omega)).1, keepU hb (hc i (by omega)).2⟩
  have HZ : Hid (∀ i, i < nD → (nAt D i).1.length ≤ 41) := fun i hi => by
    obtain ⟨y, hy, hne, e1, e2, a8, an⟩ := hm.name (nAt_mem (show i < D.length by omega))
    rw [e1, ← shw_sg hne]; exact (shw_path a8 an).2.2
  have hnd := kd_nodup hm.good.uni p
  rw [← hm.inside hpn] at hnd
  have HSo : Hid _ := fun (w' : World) (v : Value) (hv : StrsIs w' v (D.filterMap (ins (sg p)))) => sorted_any w' v _ hv hnd (by have := List.length_filterMap_le (ins (sg p)) D; omega)
  rw [hm.inside_srt hpn] at HSo
  have HX : Hid (∀ w', Below (w.alloc (.cells #[.slice aD nD cD, vB] 42)).heap.size (w.alloc (.cells #[.slice aD nD cD, vB] 42)) w' → Box2 w' w.heap.size (.slice aD nD cD) vB) := fun w' hb => (box2_new w _ _).later hb
  have HB1 : Hid (Below w.heap.size w (w.alloc (.cells #[.slice aD nD cD, vB] 42))) := below_alloc _ _
  rw [hnD]
  unfold maxLen at hl
  rw [hnD] at hl
  have h41 := (shw_path hp8 hpn).2.2
  have hsz : (bs (shw p)).size ≤ 41 := by rw [Lib.size_eq, data_bs]; exact h41
  have hroot := shw_root hp8 hpn
  have hsg : p ≠ [] → shw p = sg p := shw_sg
  obtain ⟨P, hP⟩ : ∃ P, sg p = P := ⟨_, rfl⟩
  rw [hP] at HSo hsg
  have hnil : p = [] → P = [] := fun e => by rw [← hP, e]; rfl
  clear hD hm ha hc hnD hnd hP
  by_cases hp : p = []
  case' pos =>
    have hq : ((bs (shw p)).toList == [47]) = true := by rw [bs_list, hroot.2 hp]; rfl
    have hPn := hnil hp
    subst hPn
    generalize bs (shw p) = y at *
    clear hroot hsg hnil h41 hp hp8 hpn
    go_enter Tryz.func28, Tryz.ntmps28
    go_upto_region 6 with fail
    obtain ⟨W, hW⟩ : ∃ W : ByteArray, (⟨#[]⟩ : ByteArray) = W := ⟨_, rfl⟩
    rw [hW]
    have HW : Hid (W.data.toList = [] ∧ W.size ≤ 41) := by rw [← hW]; exact ⟨rfl, by decide⟩
    clear hW hq
    generalize ([] : List UInt8) = P at *
  case' neg =>
    have hq : ((bs (shw p)).toList == [47]) = false := by rw [bs_list]; simpa using mt hroot.1 hp
    have hPn := hsg hp
    have HW0 : Hid ((bs (shw p)).data.toList = P ∧ (bs (shw p)).size ≤ 41) := ⟨by rw [data_bs]; exact hPn, hsz⟩
    generalize bs (shw p) = W at *
    clear hroot hsg hnil h41 hp hp8 hpn hPn
    go_enter Tryz.func28, Tryz.ntmps28
    go_upto_region 6 with fail
    have HW : Hid (W.data.toList = P ∧ W.size ≤ 41) := HW0
    clear HW0 hq
  all_goals
    generalize w.alloc (.cells #[.slice aD nD cD, vB] 42) = w1 at *
    have hW41 : W.size ≤ 41 := HW.out.2
    go_loopw [6, 7] (fun vo i wr => ∃ k n : Nat, n ≤ k ∧ k ≤ nD ∧ i = .int .i64 k ∧ Hid (wr.ownsRow w1.heap.size 9 1 vo n (cellsS ((D.take k).filterMap (ins P)))) ∧ Hid (Below w1.heap.size w1 wr)) (fun _ i _ => nD - (intOf i).toNat)
    case atStart => exact ⟨0, 0, Nat.le_refl _, Nat.zero_le _, rfl, World.ownsRow_nil _ _ _ _, Below.refl _ _⟩
    case round =>
      obtain ⟨k, n, hnk, hk, rfl, HO, HB⟩ := hrel
      obtain ⟨x0, x1, _, _⟩ := (HX.out wr HB.out).facts
      have HBw : Hid (Below w.heap.size w wr) := HB1.out.trans (HB.out.mono HB1.out.size)
      by_cases hlt : k < nD
      · have haa := HA.out (by omega)
        subst haa
        have hz2 := HZ.out k hlt
        obtain ⟨n1, n2⟩ := HC.out wr HBw.out k hlt
        have hkD : k < D.length := by have := HND.out; omega
        have HTs : Hid (∀ y, ins P (nAt D k) = some y → (D.take (k + 1)).filterMap (ins P) = (D.take k).filterMap (ins P) ++ [y]) := fun y e => take_some hkD (by rw [← nAt_lt hkD]; exact e)
        have HTn : Hid (ins P (nAt D k) = none → (D.take (k + 1)).filterMap (ins P) = (D.take k).filterMap (ins P)) := fun e => take_none hkD (by rw [← nAt_lt hkD]; exact e)
        obtain ⟨X, hX⟩ : ∃ X, (D.take k).filterMap (ins P) = X := ⟨_, rfl⟩
        rw [hX] at HTs HTn HO
        have hxs : (bs (nAt D k).1).size ≤ 41 := by rw [Lib.size_eq, data_bs]; exact hz2
        have HBe : Hid _ := fun (w : World) => begins_any w (bs (nAt D k).1) W (by unfold maxLen; omega)
        have HS1 : Hid _ := fun (w : World) => slashes_any w (bs (nAt D k).1) (by omega)
        have HS2 : Hid _ := fun (w : World) => slashes_any w W (by omega)
        rw [data_bs, HW.out.1] at HBe
        rw [data_bs] at HS1
        rw [HW.out.1] at HS2
        clear hX hkD
        by_cases hb : bgn (nAt D k).1 P = true
        · rw [hb] at HBe
          by_cases hsl : sls (nAt D k).1 = sls P + 1
          · have hq2 : ((sls (nAt D k).1 : Int) == (sls P : Int) + 1) = true := by simp; omega
            have HT := HTs.out _ (show ins P (nAt D k) = some ((nAt D k).1.drop (P.length + 1)) by unfold ins; rw [if_pos ⟨hb, hsl⟩])
            have HTy : Hid ((D.take (k + 1)).filterMap (ins P) = X ++ [(nAt D k).1.drop (P.length + 1)]) := HT
            have hlen := bgn_longer hb
            have e1 : (bs (nAt D k).1).size = (nAt D k).1.length := by rw [Lib.size_eq, data_bs]
            have e2 : W.size = P.length := by rw [Lib.size_eq, HW.out.1]
            have hle : W.size + 1 ≤ (bs (nAt D k).1).size := by omega
            have hex := bs_tail (bs (nAt D k).1) (W.size + 1)
            rw [data_bs, e2] at hex
            rw [← e2] at hex
            have HEx : Hid ((bs (nAt D k).1).extract (W.size + 1) (bs (nAt D k).1).size = bs ((nAt D k).1.drop (P.length + 1))) := by rw [← e2]; exact hex
            have HN1 : Hid (∀ w : World, StrsIs (w.alloc (.cells #[.string ((bs (nAt D k).1).extract (W.size + 1) (bs (nAt D k).1).size)] 9)) (.slice (some ⟨w.heap.size, 0, none⟩) 1 1) [(nAt D k).1.drop (P.length + 1)]) := fun w => strs_one_text w _ _ HEx.out
            have hsn : sls P ≤ 41 := by
              have := List.countP_le_length (p := fun c : UInt8 => decide (c = 47)) (l := P)
              unfold sls
              omega
            generalize (nAt D k).1.drop (P.length + 1) = yt at *
            generalize sls (nAt D k).1 = s1 at *
            generalize sls P = s2 at *
            clear hlen e1 e2 hex HEx hb hsl HT HTs HTn
            generalize bs (nAt D k).1 = x at *
            go_wp2_with (first
              | (go_at_call 49; refine (HBe.out _).mono ?_; rintro e w' ⟨rfl, rfl⟩)
              | (go_at_call_of 51 x; refine (HS1.out _).mono ?_; rintro e w' ⟨rfl, rfl⟩)
              | (go_at_call_of 51 W; refine (HS2.out _).mono ?_; rintro e w' ⟨rfl, rfl⟩)
              | (at_builtin; refine wpList_append_strs rfl (.tmp 36) (.tmp 42) rfl w1.heap.size u6 n X rfl (HO.out.alloc _) _ [yt] rfl (HN1.out wr) ?q1 ?q2 ?q3))
            case q1 => first | omega | (simp; omega)
            case q2 => have := HB.out.size; first | omega | (simp; omega)
            case q3 =>
              intro v1 w3 hown hb3
              have HO3 : Hid (w3.ownsRow w1.heap.size 9 1 v1 (n + 1) (cellsS ((D.take (k + 1)).filterMap (ins P)))) := by rw [HTy.out]; exact hown
              have HB3 : Hid (Below w1.heap.size w1 w3) := HB.out.trans (((below_alloc wr _).mono HB.out.size).trans hb3)
              clear hown hb3
              go_wp2_with fail
              go_roundw
              case rel => exact ⟨k + 1, n + 1, by omega, by omega, by go_num, HO3, HB3⟩
              case measure => simp [intOf]; omega
          · have hq2 : ((sls (nAt D k).1 : Int) == (sls P : Int) + 1) = false := by simp; omega
            have hsn : sls P ≤ 41 := by
              have := List.countP_le_length (p := fun c : UInt8 => decide (c = 47)) (l := P)
              have e2 : W.size = P.length := by rw [Lib.size_eq, HW.out.1]
              unfold sls
              omega
            have HTy : Hid ((D.take (k + 1)).filterMap (ins P) = X) := HTn.out (by unfold ins; rw [if_neg (fun h => hsl h.2)])
            rw [← HTy.out] at HO
            generalize sls (nAt D k).1 = s1 at *
            generalize sls P = s2 at *
            clear hb hsl HTs HTn HTy
            generalize bs (nAt D k).1 = x at *
            go_wp2_with (first
              | (go_at_call 49; refine (HBe.out _).mono ?_; rintro e w' ⟨rfl, rfl⟩)
              | (go_at_call_of 51 x; refine (HS1.out _).mono ?_; rintro e w' ⟨rfl, rfl⟩)
              | (go_at_call_of 51 W; refine (HS2.out _).mono ?_; rintro e w' ⟨rfl, rfl⟩))
            go_roundw
            case rel => exact ⟨k + 1, n, by omega, by omega, by go_num, HO, HB⟩
            case measure => simp [intOf]; omega
        · have hbf : bgn (nAt D k).1 P = false := by simpa using hb
          rw [hbf] at HBe
          have HTy : Hid ((D.take (k + 1)).filterMap (ins P) = X) := HTn.out (by unfold ins; rw [if_neg (fun h => hb h.1)])
          rw [← HTy.out] at HO
          clear hb hbf HTs HTn HTy
          generalize bs (nAt D k).1 = x at *
          go_wp2_with (first
            | (go_at_call 49; refine (HBe.out _).mono ?_; rintro e w' ⟨rfl, rfl⟩))
          go_roundw
          case rel => exact ⟨k + 1, n, by omega, by omega, by go_num, HO, HB⟩
          case measure => simp [intOf]; omega
      · have hkn : k = nD := by omega
        have hall : D.take k = D := List.take_of_length_le (by have := HND.out; omega)
        have HV : Hid (StrsIs wr u6 (D.filterMap (ins P))) := by
          have := strs_own HO.out
          rw [hall] at this
          exact this
        clear hall hkn
        go_wp2_with fail
        refine Calls.mono (HSo.out wr u6 HV.out) ?_
        rintro e w2 ⟨v2, rfl, hv2, hb2⟩
        go_wp2_with fail
        go_ret
        exact ⟨v2, rfl, hv2, HBw.out.trans (hb2.mono HBw.out.size)⟩

end Go.Proofs.YtdlmkienogimgaaGreatDoor
