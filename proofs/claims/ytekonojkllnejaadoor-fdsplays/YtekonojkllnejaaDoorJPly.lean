/- This text proves that platterholdlaw2.FdsPlays returns true for any rows, and lets all old memory be; the conditions: the rows lie there, and the library's variable errors.errorType holds what the program's own text lays. -/
import Derived.Test.YtekonojkllnejaaDoorJ13
import Derived.Deep.DeepCutAuto
import Derived.Deep.CutBlock
import Derived.Laws.OwnMore
namespace Go.Proofs.YtekonojkllnejaaDoor
open Go.RowKit Go.Deep

set_option maxHeartbeats 64000000 in
set_option maxRecDepth 100000 in
theorem fdsPlays_any (w : World) (v : Value) (rs : List (List Int)) (hr : RowsIs w v rs) (hL : Laid w) :
    Calls Tryd.prog 4 #[v] w fun e w' => e = .returned (.bool true) ∧ Below w.heap.size w w' := by
  have HR : Hid (RowsIs w v rs) := hr
  have HL : Hid (Laid w) := hL
  obtain ⟨a, c, hv, hl, _⟩ := hr
  obtain ⟨n, hn⟩ : ∃ n, n = rs.length := ⟨_, rfl⟩
  rw [← hn] at hv hl
  unfold maxLen at hl
  subst hv
  clear hn hL
  obtain ⟨G, hG⟩ : ∃ G, G = w.heap.size := ⟨_, rfl⟩
  go_enter Tryd.func4, Tryd.ntmps4
  go_wp2_with fail
  refine (new_any _).mono ?_
  rintro e w1 ⟨rfl, hT1, hb1⟩
  rw [← hG] at hT1 hb1 ⊢
  have HT1 : Hid (TabAt w1 G G (fun _ => none) (fun _ => (0, 0))) := hT1
  have HB1 : Hid (Below G w w1) := hb1
  have HG : Hid (G = w.heap.size) := hG
  clear hG hT1 hb1
  go_wp2_with fail
  refine (newFds_any w1).mono ?_
  rintro e w2 ⟨vo0, rfl, hD2, hb2⟩
  obtain ⟨a0, c0, rfl⟩ := row_form hD2.o
  have ST0 : Hid _ := PlS.new HT1.out HB1.out hD2 rfl hb2
  have HX0 : Hid (w2.heap.size = w2.heap.size) := rfl
  clear hD2 hb2
  go_wp2
  generalize w2.alloc (.cells #[.slice a0 8 c0, .slice none 0 0, .slice none 0 0] 38) = w3 at ST0 ⊢
  generalize w2.heap.size = X at ST0 ⊢
  clear HX0 HT1 HB1
  go_loopw [5, 6, 7, 8, 9, 10, 11, 12] (fun i _ _ _ _ _ _ _ wr => ∃ k F Z, k ≤ 60 ∧ i = .int .i64 ((k : Nat) : Int) ∧ PlS w wr G X k F Z) (fun i _ _ _ _ _ _ _ _ => 60 - (intOf i).toNat)
  case atStart => exact ⟨0, _, _, by omega, rfl, ST0.out⟩
  case round =>
    obtain ⟨k, F, Z, hk, rfl, hst⟩ := hrel
    have ST : Hid (PlS w wr G X k F Z) := hst
    clear hst ST0
    by_cases hlt : k < n
    · have hl1 : (k : Int) < (n : Int) := by omega
      by_cases hs : k < 60
      · have hs1 : (k : Int) < 60 := by omega
        obtain ⟨b, o, vk, ha, hbs, hck, hsk⟩ := HR.out.row k hlt
        subst ha
        have HK : Hid (∀ {w'}, Below G w w' → w'.cell? ⟨b, o + k, none⟩ = some vk) := fun h => by rw [h.cell (p := ⟨b, o + k, none⟩) (by rw [HG.out]; exact hbs)]; exact hck
        have HSK : Hid (SliceIs w vk (rowAt rs k)) := hsk
        have hc0 := HK.out ST.out.old
        obtain ⟨a1, c1, hv1, hl1', _⟩ := hsk
        obtain ⟨z, hz⟩ : ∃ z, z = (rowAt rs k).length := ⟨_, rfl⟩
        have HZ : Hid (z = (rowAt rs k).length) := hz
        rw [← hz] at hv1
        subst hv1
        clear hck hz hl1'
        go_upto_block 2 with fail
        go_cut [7, 8, 9, 10] (fun s7 s8 s9 s10 wx => ∃ (E N : Nat) (F' : Nat → Option Nat) (Z' : Nat → Nat × Nat), s7 = .int .i64 (E : Int) ∧ s8 = .int .i64 (N : Int) ∧ s9 = .int .i64 (N : Int) ∧ s10 = errV E ∧ PlS w wx G X (k + 1) F' Z')
        case first =>
          by_cases h0 : 1 ≤ z ∧ z ≤ 4
          · obtain ⟨b1, o1, c2, hv2, hb1, hx, hy⟩ := row_some HSK.out HZ.out.symm (by omega)
            cases hv2
            have HX : Hid (∀ {w'}, Below G w w' → w'.cell? ⟨b1, o1, none⟩ = some (.int .i64 (nth (rowAt rs k) 0))) := fun h => by rw [h.cell (p := ⟨b1, o1, none⟩) (by rw [HG.out]; exact hb1)]; exact hx
            have HY : Hid (1 < z → ∀ {w'}, Below G w w' → w'.cell? ⟨b1, o1 + 1, none⟩ = some (.int .i64 (nth (rowAt rs k) 1))) := fun h1 w' h => by rw [h.cell (p := ⟨b1, o1 + 1, none⟩) (by rw [HG.out]; exact hb1)]; exact hy h1
            have hx0 := HX.out ST.out.old
            clear hx hy hc0
            generalize nth (rowAt rs k) 0 = x at HX hx0
            generalize nth (rowAt rs k) 1 = y at HY
            obtain ⟨vo, vs, va, O, S, A, adr, hM, hRel, hadr, hlen⟩ := ST.out
            obtain ⟨ao, co, rfl⟩ := row_form hM.doc.o
            obtain ⟨aS, cs, rfl⟩ := row_form hM.doc.s
            obtain ⟨aA, cA, rfl⟩ := row_form hM.doc.a
            obtain ⟨m, hm⟩ : ∃ m, S.length = m := ⟨_, rfl⟩
            have HM : Hid (Mem w wr G X (.slice ao 8 co) (.slice aS S.length cs) (.slice aA S.length cA) F Z O S A) := hM
            rw [hm] at HM hM
            have HRe : Hid (Rel F Z O S A adr) := hRel
            have HAd : Hid (∀ a ∈ adr, a < wr.heap.size) := hadr
            have HLn : Hid (S.length = m ∧ m ≤ k) := ⟨hm, by omega⟩
            have HOl : Hid (O.length = 8) := hM.doc.lenO
            have HAl : Hid (A.length = S.length) := hM.doc.lenA
            have HGz : Hid (G ≤ wr.heap.size) := Nat.le_of_lt hM.tab.lt
            have hbox : Box3 wr X (.slice ao 8 co) (.slice aS m cs) (.slice aA m cA) := hM.box
            obtain ⟨x0, x1, x2, f0, f1, f2⟩ := hbox.facts
            clear hM hRel hadr hlen hm hbox
            rcases (show z = 1 ∨ z = 2 ∨ z = 3 ∨ z = 4 by omega) with rfl | rfl | rfl | rfl
            · have HRo : Hid _ := fun (_ : Nat) => ropen_any wr.drew G _ _ _ O S A F (HM.out.later (below_drew1 _ _)).doc HRe.out.frs HGz.out (by have := HLn.out; omega) x
              clear h0 HY
              go_wp2_with fail
              refine wp_region_held_drew (S := fun w' => w'.cell? ⟨b1, o1, none⟩ = some (.int .i64 x)) (by kernel_rfl) ?hs (fun hHeld => ?_)
              case hs => exact hx0
              refine held_take (i := 1) (v := ?_) rfl rfl (by kernel_rfl) (by kernel_rfl) (by kernel_rfl) (fun _ _ _ h => h) (Or.inl ⟨by rfl, ?_⟩) hHeld ?_
              rotate_left
              · (intro w hSw; (try dsimp only at hSw); go_simp; try with_reducible rfl)
              simp only [Act.put, List.setIfInBounds_toArray, List.set_cons_zero, List.set_cons_succ]
              refine held_take (i := 2) (v := ?_) rfl rfl (by kernel_rfl) (by kernel_rfl) (by kernel_rfl) (fun _ _ _ h => h) (Or.inl ⟨by rfl, ?_⟩) hHeld ?_
              rotate_left
              · (intro w hSw; (try dsimp only at hSw); go_simp; try with_reducible rfl)
              simp only [Act.put, List.setIfInBounds_toArray, List.set_cons_zero, List.set_cons_succ]
              refine held_take (i := 3) (v := ?_) rfl rfl (by kernel_rfl) (by kernel_rfl) (by kernel_rfl) (fun _ _ _ h => h) (Or.inl ⟨by rfl, ?_⟩) hHeld ?_
              rotate_left
              · (intro w hSw; (try dsimp only at hSw); go_simp; try with_reducible rfl)
              simp only [Act.put, List.setIfInBounds_toArray, List.set_cons_zero, List.set_cons_succ]
              refine wpAnyH_ready (rs := [0]) (by kernel_rfl) (by simp) ?_
              refine AllReadyH.cons rfl (fun K hK => ?_) AllReadyH.nil
              go_simp
              refine hK.out _ _ (hHeld) (fun hHeld => ?_)
              clear hK K
              refine wpAnyH_ready (rs := [4]) (by kernel_rfl) (by simp) ?_
              refine AllReadyH.cons rfl (fun K hK => ?_) AllReadyH.nil
              go_simp
              go_at_call 14
              refine (HRo.out 0).mono ?_
              rintro e w2 ⟨vo', vs', va', rfl, hD', hT', hN'⟩
              obtain ⟨ao', co', rfl⟩ := row_form hD'.o
              obtain ⟨aS', cs', rfl⟩ := row_form hD'.s
              obtain ⟨aA', cA', rfl⟩ := row_form hD'.a
              obtain ⟨hMid, hbx⟩ := (HM.out.later (below_drew1 _ _)).ref hD' hT' hN'
              obtain ⟨q0, q1, q2, g0, g1, g2⟩ := hbx.facts
              go_simp
              refine hK.out _ _ (HX.out hMid.old) (fun hHeld => ?_)
              clear hK K
              refine held_take (i := 5) (v := ?_) rfl rfl (by kernel_rfl) (by kernel_rfl) (by kernel_rfl) (fun _ _ _ h => h) (Or.inl ⟨by rfl, ?_⟩) hHeld ?_
              rotate_left
              · (intro w hSw; (try dsimp only at hSw); go_simp; try with_reducible rfl)
              simp only [Act.put, List.setIfInBounds_toArray, List.set_cons_zero, List.set_cons_succ]
              refine held_take (i := 6) (v := ?_) rfl rfl (by kernel_rfl) (by kernel_rfl) (by kernel_rfl) (fun _ _ _ h => h) (Or.inl ⟨by rfl, ?_⟩) hHeld ?_
              rotate_left
              · (intro w hSw; (try dsimp only at hSw); go_simp; try with_reducible rfl)
              simp only [Act.put, List.setIfInBounds_toArray, List.set_cons_zero, List.set_cons_succ]
              refine held_take (i := 7) (v := ?_) rfl rfl (by kernel_rfl) (by kernel_rfl) (by kernel_rfl) (fun _ _ _ h => h) (Or.inl ⟨by rfl, ?_⟩) hHeld ?_
              rotate_left
              · (intro w hSw; (try dsimp only at hSw); go_simp; try with_reducible rfl)
              simp only [Act.put, List.setIfInBounds_toArray, List.set_cons_zero, List.set_cons_succ]
              refine held_take (i := 8) (v := ?_) rfl rfl (by kernel_rfl) (by kernel_rfl) (by kernel_rfl) (fun _ _ _ h => h) (Or.inl ⟨by rfl, ?_⟩) hHeld ?_
              rotate_left
              · (intro w hSw; (try dsimp only at hSw); go_simp; try with_reducible rfl)
              simp only [Act.put, List.setIfInBounds_toArray, List.set_cons_zero, List.set_cons_succ]
              refine wpAnyH_ready (rs := [9]) (by kernel_rfl) (by simp) ?_
              refine AllReadyH.cons rfl (fun K hK => ?_) AllReadyH.nil
              go_simp
              refine hK.out _ _ (HX.out hMid.set.old) (fun hHeld => ?_)
              clear hK K
              refine held_take (i := 10) (v := ?_) rfl rfl (by kernel_rfl) (by kernel_rfl) (by kernel_rfl) (fun _ _ _ h => h) (Or.inl ⟨by rfl, ?_⟩) hHeld ?_
              rotate_left
              · (intro w hSw; (try dsimp only at hSw); go_simp; try with_reducible rfl)
              simp only [Act.put, List.setIfInBounds_toArray, List.set_cons_zero, List.set_cons_succ]
              refine held_take (i := 11) (v := ?_) rfl rfl (by kernel_rfl) (by kernel_rfl) (by kernel_rfl) (fun _ _ _ h => h) (Or.inl ⟨by rfl, ?_⟩) hHeld ?_
              rotate_left
              · (intro w hSw; (try dsimp only at hSw); go_simp; try with_reducible rfl)
              simp only [Act.put, List.setIfInBounds_toArray, List.set_cons_zero, List.set_cons_succ]
              refine wpAnyH_done (by kernel_rfl) ?_ _
              have HM3 : Hid _ := hMid.set
              have HA3 : Hid (∀ a ∈ adr, a < w2.heap.size) := fun a h => Nat.lt_of_lt_of_le (HAd.out a h) hT'.size
              clear hD' hT' hN' hMid hbx q0 q1 q2 g0 g1 g2 x0 x1 x2 f0 f1 f2 hx0
              have HA4 : Hid (∀ a ∈ adr, a < (((w2.setCell ⟨X, 0, none⟩ (.slice ao' 8 co')).setCell ⟨X, 1, none⟩ (.slice aS' (onS F S x).length cs')).setCell ⟨X, 2, none⟩ (.slice aA' (onS F S x).length cA')).heap.size) := fun a h => Nat.lt_of_lt_of_le (HA3.out a h) (tch_set3 _ _ _ _ _).size
              generalize ((w2.setCell ⟨X, 0, none⟩ (.slice ao' 8 co')).setCell ⟨X, 1, none⟩ (.slice aS' (onS F S x).length cs')).setCell ⟨X, 2, none⟩ (.slice aA' (onS F S x).length cA') = w3 at HM3 HA4 ⊢
              have hx3 := HX.out HM3.out.old
              go_wp2_with (first | (go_at_call 8; refine (open_any w3 G G F Z HM3.out.tab x).mono ?_; rintro e w4 ⟨rfl, hs4⟩; have HP : Hid _ := PlS.opened HM3.out HRe.out HA4.out (Nat.le_trans (Nat.le_of_eq HLn.out.1) HLn.out.2) HOl.out HAl.out hs4))
              go_meet
              case rel => exact ⟨onE F x, onN F x, _, _, rfl, rfl, rfl, rfl, HP.out⟩
            · have HRo : Hid _ := fun (_ : Nat) => rdup_any wr.drew G _ _ _ O S A F (HM.out.later (below_drew1 _ _)).doc HRe.out.frs HGz.out x
              clear h0 HY
              go_wp2_with fail
              refine wp_region_held_drew (S := fun w' => w'.cell? ⟨b1, o1, none⟩ = some (.int .i64 x)) (by kernel_rfl) ?hs (fun hHeld => ?_)
              case hs => exact hx0
              refine held_take (i := 1) (v := ?_) rfl rfl (by kernel_rfl) (by kernel_rfl) (by kernel_rfl) (fun _ _ _ h => h) (Or.inl ⟨by rfl, ?_⟩) hHeld ?_
              rotate_left
              · (intro w hSw; (try dsimp only at hSw); go_simp; try with_reducible rfl)
              simp only [Act.put, List.setIfInBounds_toArray, List.set_cons_zero, List.set_cons_succ]
              refine held_take (i := 2) (v := ?_) rfl rfl (by kernel_rfl) (by kernel_rfl) (by kernel_rfl) (fun _ _ _ h => h) (Or.inl ⟨by rfl, ?_⟩) hHeld ?_
              rotate_left
              · (intro w hSw; (try dsimp only at hSw); go_simp; try with_reducible rfl)
              simp only [Act.put, List.setIfInBounds_toArray, List.set_cons_zero, List.set_cons_succ]
              refine held_take (i := 3) (v := ?_) rfl rfl (by kernel_rfl) (by kernel_rfl) (by kernel_rfl) (fun _ _ _ h => h) (Or.inl ⟨by rfl, ?_⟩) hHeld ?_
              rotate_left
              · (intro w hSw; (try dsimp only at hSw); go_simp; try with_reducible rfl)
              simp only [Act.put, List.setIfInBounds_toArray, List.set_cons_zero, List.set_cons_succ]
              refine wpAnyH_ready (rs := [0]) (by kernel_rfl) (by simp) ?_
              refine AllReadyH.cons rfl (fun K hK => ?_) AllReadyH.nil
              go_simp
              refine hK.out _ _ (hHeld) (fun hHeld => ?_)
              clear hK K
              refine wpAnyH_ready (rs := [4]) (by kernel_rfl) (by simp) ?_
              refine AllReadyH.cons rfl (fun K hK => ?_) AllReadyH.nil
              go_simp
              go_at_call 15
              refine (HRo.out 0).mono ?_
              rintro e w2 ⟨vo', rfl, hD', hB', hF'⟩
              have hT' : Tch (Db (.slice ao 8 co) (.slice aS m cs) (.slice aA m cA)) wr.drew w2 := Tch.of hB'
              have hN' : ∀ b, Db vo' (.slice aS m cs) (.slice aA m cA) b → Db (.slice ao 8 co) (.slice aS m cs) (.slice aA m cA) b ∨ wr.drew.heap.size ≤ b := (fun b hb => Or.elim hb (fun h => Or.elim (hF' b h) (fun h => .inl (.inl h)) .inr) (fun h => .inl (.inr h)))
              obtain ⟨ao', co', rfl⟩ := row_form hD'.o
              obtain ⟨hMid, hbx⟩ := (HM.out.later (below_drew1 _ _)).ref hD' hT' hN'
              obtain ⟨q0, q1, q2, g0, g1, g2⟩ := hbx.facts
              go_simp
              refine hK.out _ _ (HX.out hMid.old) (fun hHeld => ?_)
              clear hK K
              refine held_take (i := 5) (v := ?_) rfl rfl (by kernel_rfl) (by kernel_rfl) (by kernel_rfl) (fun _ _ _ h => h) (Or.inl ⟨by rfl, ?_⟩) hHeld ?_
              rotate_left
              · (intro w hSw; (try dsimp only at hSw); go_simp; try with_reducible rfl)
              simp only [Act.put, List.setIfInBounds_toArray, List.set_cons_zero, List.set_cons_succ]
              refine held_take (i := 6) (v := ?_) rfl rfl (by kernel_rfl) (by kernel_rfl) (by kernel_rfl) (fun _ _ _ h => h) (Or.inl ⟨by rfl, ?_⟩) hHeld ?_
              rotate_left
              · (intro w hSw; (try dsimp only at hSw); go_simp; try with_reducible rfl)
              simp only [Act.put, List.setIfInBounds_toArray, List.set_cons_zero, List.set_cons_succ]
              refine held_take (i := 7) (v := ?_) rfl rfl (by kernel_rfl) (by kernel_rfl) (by kernel_rfl) (fun _ _ _ h => h) (Or.inl ⟨by rfl, ?_⟩) hHeld ?_
              rotate_left
              · (intro w hSw; (try dsimp only at hSw); go_simp; try with_reducible rfl)
              simp only [Act.put, List.setIfInBounds_toArray, List.set_cons_zero, List.set_cons_succ]
              refine held_take (i := 8) (v := ?_) rfl rfl (by kernel_rfl) (by kernel_rfl) (by kernel_rfl) (fun _ _ _ h => h) (Or.inl ⟨by rfl, ?_⟩) hHeld ?_
              rotate_left
              · (intro w hSw; (try dsimp only at hSw); go_simp; try with_reducible rfl)
              simp only [Act.put, List.setIfInBounds_toArray, List.set_cons_zero, List.set_cons_succ]
              refine wpAnyH_ready (rs := [9]) (by kernel_rfl) (by simp) ?_
              refine AllReadyH.cons rfl (fun K hK => ?_) AllReadyH.nil
              go_simp
              refine hK.out _ _ (HX.out hMid.set.old) (fun hHeld => ?_)
              clear hK K
              refine held_take (i := 10) (v := ?_) rfl rfl (by kernel_rfl) (by kernel_rfl) (by kernel_rfl) (fun _ _ _ h => h) (Or.inl ⟨by rfl, ?_⟩) hHeld ?_
              rotate_left
              · (intro w hSw; (try dsimp only at hSw); go_simp; try with_reducible rfl)
              simp only [Act.put, List.setIfInBounds_toArray, List.set_cons_zero, List.set_cons_succ]
              refine held_take (i := 11) (v := ?_) rfl rfl (by kernel_rfl) (by kernel_rfl) (by kernel_rfl) (fun _ _ _ h => h) (Or.inl ⟨by rfl, ?_⟩) hHeld ?_
              rotate_left
              · (intro w hSw; (try dsimp only at hSw); go_simp; try with_reducible rfl)
              simp only [Act.put, List.setIfInBounds_toArray, List.set_cons_zero, List.set_cons_succ]
              refine wpAnyH_done (by kernel_rfl) ?_ _
              have HM3 : Hid _ := hMid.set
              have HA3 : Hid (∀ a ∈ adr, a < w2.heap.size) := fun a h => Nat.lt_of_lt_of_le (HAd.out a h) hT'.size
              clear hD' hT' hN' hMid hbx q0 q1 q2 g0 g1 g2 x0 x1 x2 f0 f1 f2 hx0
              have HA4 : Hid (∀ a ∈ adr, a < (((w2.setCell ⟨X, 0, none⟩ (.slice ao' 8 co')).setCell ⟨X, 1, none⟩ (.slice aS m cs)).setCell ⟨X, 2, none⟩ (.slice aA m cA)).heap.size) := fun a h => Nat.lt_of_lt_of_le (HA3.out a h) (tch_set3 _ _ _ _ _).size
              generalize ((w2.setCell ⟨X, 0, none⟩ (.slice ao' 8 co')).setCell ⟨X, 1, none⟩ (.slice aS m cs)).setCell ⟨X, 2, none⟩ (.slice aA m cA) = w3 at HM3 HA4 ⊢
              have hx3 := HX.out HM3.out.old
              go_wp2_with (first | (go_at_call 16; refine (dup_any w3 G G F Z HM3.out.tab x).mono ?_; rintro e w4 ⟨rfl, hs4⟩; have HP : Hid _ := PlS.dupped HM3.out HRe.out HA4.out (Nat.le_trans (Nat.le_of_eq HLn.out.1) HLn.out.2) HOl.out hs4))
              go_meet
              case rel => exact ⟨dpE F x, dpN F x, _, _, rfl, rfl, rfl, rfl, HP.out⟩
            · have HWr : Hid _ := fun (_ : Nat) => wrong_any wr.drew G (.slice ao 8 co) (.slice aS m cs) (.slice aA m cA) O F (HM.out.later (below_drew1 _ _)).doc.o HRe.out.frs x
              have HKq : Hid (∀ w2, Below wr.drew.heap.size wr.drew w2 → Mem w w2 G X (.slice ao 8 co) (.slice aS m cs) (.slice aA m cA) F Z O S A) := fun w2 hb => (HM.out.later (below_drew1 _ _)).later hb
              have HKx : Hid (∀ w2, Mem w w2 G X (.slice ao 8 co) (.slice aS m cs) (.slice aA m cA) F Z O S A → w2.cell? ⟨X, 0, none⟩ = some (.slice ao 8 co) ∧ w2.cell? ⟨X, 1, none⟩ = some (.slice aS m cs) ∧ w2.cell? ⟨X, 2, none⟩ = some (.slice aA m cA) ∧ w2.cell? ⟨b1, o1, none⟩ = some (.int .i64 x)) := fun w2 h => by
                obtain ⟨q0, q1, q2, _⟩ := h.box.facts
                exact ⟨q0, q1, q2, HX.out h.old⟩
              clear h0 HY
              by_cases hE : opE F x = 0
              · rw [hE] at HWr
                obtain ⟨i, rfl, hi⟩ : ∃ i : Nat, x = (i : Int) ∧ i < 8 := by
                  unfold opE at hE
                  split at hE
                  · rename_i h1; exact ⟨x.toNat, by omega, by omega⟩
                  · cases hE
                have HCl : Hid (clF F (i : Int) = upd F i none ∧ opE F (i : Int) = 0) := ⟨by unfold clF; rw [if_pos hE, Int.toNat_natCast], hE⟩
                clear hE
                go_wp2_with fail
                go_region_held3 (fun w' => w'.cell? ⟨X, 0, none⟩ = some (.slice ao 8 co) ∧ w'.cell? ⟨X, 1, none⟩ = some (.slice aS m cs) ∧ w'.cell? ⟨X, 2, none⟩ = some (.slice aA m cA) ∧ w'.cell? ⟨b1, o1, none⟩ = some (.int .i64 (i : Int)))
                  (first | go_keep | (go_split_ands; exact HKx.out _ HM2.out))
                  (first | (go_at_call 17; refine (HWr.out 0).mono ?_; rintro e w2 ⟨rfl, hb2⟩; have HM2 : Hid _ := HKq.out w2 hb2; have HA2 : Hid (∀ a ∈ adr, a < w2.heap.size) := fun a h => Nat.lt_of_lt_of_le (HAd.out a h) hb2.size))
                clear hb2 x0 x1 x2 f0 f1 f2 hx0
                obtain ⟨x0, x1, x2, xl⟩ := HKx.out _ HM2.out
                have HGz2 : Hid (G ≤ w2.heap.size) := Nat.le_of_lt HM2.out.tab.lt
                have HSe : Hid _ := fun (_ : Nat) => set_own w2.drew (.slice ao 8 co) O 8 i (-1) (slice_own (HM2.out.later (below_drew1 _ _)).doc.o (by decide)) HOl.out hi (by decide)
                have HKp : Hid (∀ w4, Below w2.heap.size w2 w4 → w4.cell? ⟨X, 0, none⟩ = some (.slice ao 8 co) ∧ w4.frozen? ⟨X, 0, none⟩ = false ∧ w4.cell? ⟨b1, o1, none⟩ = some (.int .i64 (i : Int))) := fun w4 hb => by
                  obtain ⟨q0, _, _, q3, _⟩ := (HM2.out.later hb).box.facts
                  exact ⟨q0, q3, HX.out (HM2.out.later hb).old⟩
                go_wp2_with fail
                refine wp_region_last (S := fun w' => w'.cell? ⟨X, 0, none⟩ = some (.slice ao 8 co) ∧ w'.frozen? ⟨X, 0, none⟩ = false ∧ w'.cell? ⟨b1, o1, none⟩ = some (.int .i64 (i : Int))) 7 (by kernel_rfl) (by kernel_rfl) ?hs (fun hHeld => ?_)
                case hs => exact HKp.out _ (below_drew1 _ _)
                refine held_take (i := 0) (v := ?_) rfl rfl (by kernel_rfl) (by kernel_rfl) (by kernel_rfl) (fun _ _ _ h => h) (Or.inl ⟨by rfl, ?_⟩) hHeld ?_
                rotate_left
                · (intro w hSw; (try dsimp only at hSw); go_simp; try with_reducible rfl)
                simp only [Act.put, List.setIfInBounds_toArray, List.set_cons_zero, List.set_cons_succ]
                refine held_take (i := 1) (v := ?_) rfl rfl (by kernel_rfl) (by kernel_rfl) (by kernel_rfl) (fun _ _ _ h => h) (Or.inl ⟨by rfl, ?_⟩) hHeld ?_
                rotate_left
                · (intro w hSw; (try dsimp only at hSw); go_simp; try with_reducible rfl)
                simp only [Act.put, List.setIfInBounds_toArray, List.set_cons_zero, List.set_cons_succ]
                refine held_take (i := 2) (v := ?_) rfl rfl (by kernel_rfl) (by kernel_rfl) (by kernel_rfl) (fun _ _ _ h => h) (Or.inl ⟨by rfl, ?_⟩) hHeld ?_
                rotate_left
                · (intro w hSw; (try dsimp only at hSw); go_simp; try with_reducible rfl)
                simp only [Act.put, List.setIfInBounds_toArray, List.set_cons_zero, List.set_cons_succ]
                refine held_take (i := 3) (v := ?_) rfl rfl (by kernel_rfl) (by kernel_rfl) (by kernel_rfl) (fun _ _ _ h => h) (Or.inl ⟨by rfl, ?_⟩) hHeld ?_
                rotate_left
                · (intro w hSw; (try dsimp only at hSw); go_simp; try with_reducible rfl)
                simp only [Act.put, List.setIfInBounds_toArray, List.set_cons_zero, List.set_cons_succ]
                refine held_take (i := 4) (v := ?_) rfl rfl (by kernel_rfl) (by kernel_rfl) (by kernel_rfl) (fun _ _ _ h => h) (Or.inl ⟨by rfl, ?_⟩) hHeld ?_
                rotate_left
                · (intro w hSw; (try dsimp only at hSw); go_simp; try with_reducible rfl)
                simp only [Act.put, List.setIfInBounds_toArray, List.set_cons_zero, List.set_cons_succ]
                refine wpAnyH_ready (rs := [5]) (by kernel_rfl) (by simp) ?_
                refine AllReadyH.cons rfl (fun K hK => ?_) AllReadyH.nil
                go_simp
                go_at_call 18
                refine (HSe.out 0).mono ?_
                rintro e w3 ⟨g', cap', rfl, ho, hb3⟩
                go_simp
                refine hK.out _ _ (HKp.out w3 ((below_drew1 _ _).trans hb3)) (fun hHeld => ?_)
                clear hK K
                have hM2d := HM2.out.later (below_drew1 w2.heap.size w2)
                have hD' := hM2d.doc.putO hb3 HGz2.out ho rfl
                have hN' : ∀ b, Db (.slice (some ⟨g', 0, none⟩) 8 cap') (.slice aS m cs) (.slice aA m cA) b → Db (.slice ao 8 co) (.slice aS m cs) (.slice aA m cA) b ∨ w2.drew.heap.size ≤ b := fun b hb => Or.elim hb (fun h => .inr (own_lt ho h).1) (fun h => .inl (.inr h))
                obtain ⟨hMid, hbx⟩ := hM2d.ref hD' (Tch.of hb3) hN'
                have HM4 : Hid _ := hMid.set0 hbx
                have HA4 : Hid (∀ a ∈ adr, a < (w3.setCell ⟨X, 0, none⟩ (.slice (some ⟨g', 0, none⟩) 8 cap')).heap.size) := fun a h => Nat.lt_of_lt_of_le (Nat.lt_of_lt_of_le (HA2.out a h) hb3.size) (by simp [World.setCell])
                clear hM2d hD' hN' hMid hbx ho hb3 x0 x1 x2 xl
                refine held_take (i := 6) (v := ?_) rfl rfl (by kernel_rfl) (by kernel_rfl) (by kernel_rfl) (fun _ _ _ h => h) (Or.inl ⟨by rfl, ?_⟩) hHeld ?_
                rotate_left
                · (intro w hSw; (try dsimp only at hSw); go_simp; try with_reducible rfl)
                simp only [Act.put, List.setIfInBounds_toArray, List.set_cons_zero, List.set_cons_succ]
                obtain ⟨q0, q1, _⟩ := hHeld
                refine wpAnyH_done (by kernel_rfl) ?_ _
                refine last_step rfl (fun K hK => ?_)
                go_simp
                refine hK _ _ ?_
                clear hK K
                generalize w3.setCell ⟨X, 0, none⟩ (.slice (some ⟨g', 0, none⟩) 8 cap') = w4 at HM4 HA4 ⊢
                have hx4 := HX.out HM4.out.old
                have HCs : Hid _ := fun (_ : Nat) => close_stp w4 G G F Z HM4.out.tab (i : Int)
                rw [HCl.out.1, HCl.out.2, errV_zero] at HCs
                clear q0 q1
                go_wp2_with (first | (go_at_call 11; refine (HCs.out 0).mono ?_; rintro e w5 ⟨rfl, hs5⟩; have HP : Hid _ := PlS.closed HM4.out HRe.out HA4.out (Nat.le_trans (Nat.le_of_eq HLn.out.1) HLn.out.2) HOl.out hi hs5))
                go_meet
                case rel => exact ⟨0, 0, _, _, rfl, rfl, rfl, rfl, HP.out⟩
              · have hE' : ¬ ((opE F x : Nat) : Int) = 0 := by omega
                have HCl : Hid (clF F x = F) := if_neg hE
                have HEp : Hid (errV (opE F x) = errV (opE F x)) := rfl
                go_wp2_with fail
                go_region_held3 (fun w' => w'.cell? ⟨X, 0, none⟩ = some (.slice ao 8 co) ∧ w'.cell? ⟨X, 1, none⟩ = some (.slice aS m cs) ∧ w'.cell? ⟨X, 2, none⟩ = some (.slice aA m cA) ∧ w'.cell? ⟨b1, o1, none⟩ = some (.int .i64 x))
                  (first | go_keep | (go_split_ands; exact HKx.out _ HM2.out))
                  (first | (go_at_call 17; refine (HWr.out 0).mono ?_; rintro e w2 ⟨rfl, hb2⟩; have HM2 : Hid _ := HKq.out w2 hb2; have HA2 : Hid (∀ a ∈ adr, a < w2.heap.size) := fun a h => Nat.lt_of_lt_of_le (HAd.out a h) hb2.size))
                clear hb2 x0 x1 x2 f0 f1 f2 hx0
                have xl := HX.out HM2.out.old
                have HCs : Hid _ := fun (_ : Nat) => close_stp w2 G G F Z HM2.out.tab x
                rw [HCl.out] at HCs
                have HP2 : Hid (PlS w w2 G X k F Z) := ⟨_, _, _, _, _, _, _, HM2.out, HRe.out, HA2.out, Nat.le_trans (Nat.le_of_eq HLn.out.1) HLn.out.2⟩
                generalize opE F x = E at *
                go_wp2_with (first | (go_at_call 11; refine (HCs.out 0).mono ?_; rintro e w5 ⟨rfl, hs5⟩; have HP : Hid _ := HP2.out.same hs5))
                go_meet
                case rel => exact ⟨E, 0, _, _, rfl, rfl, rfl, rfl, HP.out⟩
            · have HY : Hid (∀ {w'}, Below G w w' → w'.cell? ⟨b1, o1 + 1, none⟩ = some (.int .i64 y)) := HY.out (by decide)
              have hy0 := HY.out ST.out.old
              have HRo : Hid _ := fun (_ : Nat) => rmove_any wr.drew G _ _ _ O S A F Z adr (HM.out.later (below_drew1 _ _)).doc HRe.out HM.out.tab.fits HGz.out x y
              clear h0
              go_wp2_with fail
              refine wp_region_held_drew (S := fun w' => w'.cell? ⟨b1, o1, none⟩ = some (.int .i64 x) ∧ w'.cell? ⟨b1, o1 + 1, none⟩ = some (.int .i64 y)) (by kernel_rfl) ?hs (fun hHeld => ?_)
              case hs => exact ⟨hx0, hy0⟩
              refine held_take (i := 1) (v := ?_) rfl rfl (by kernel_rfl) (by kernel_rfl) (by kernel_rfl) (fun _ _ _ h => h) (Or.inl ⟨by rfl, ?_⟩) hHeld ?_
              rotate_left
              · (intro w hSw; (try dsimp only at hSw); go_simp; try with_reducible rfl)
              simp only [Act.put, List.setIfInBounds_toArray, List.set_cons_zero, List.set_cons_succ]
              refine held_take (i := 2) (v := ?_) rfl rfl (by kernel_rfl) (by kernel_rfl) (by kernel_rfl) (fun _ _ _ h => h) (Or.inl ⟨by rfl, ?_⟩) hHeld ?_
              rotate_left
              · (intro w hSw; (try dsimp only at hSw); go_simp; try with_reducible rfl)
              simp only [Act.put, List.setIfInBounds_toArray, List.set_cons_zero, List.set_cons_succ]
              refine held_take (i := 3) (v := ?_) rfl rfl (by kernel_rfl) (by kernel_rfl) (by kernel_rfl) (fun _ _ _ h => h) (Or.inl ⟨by rfl, ?_⟩) hHeld ?_
              rotate_left
              · (intro w hSw; (try dsimp only at hSw); go_simp; try with_reducible rfl)
              simp only [Act.put, List.setIfInBounds_toArray, List.set_cons_zero, List.set_cons_succ]
              refine held_take (i := 4) (v := ?_) rfl rfl (by kernel_rfl) (by kernel_rfl) (by kernel_rfl) (fun _ _ _ h => h) (Or.inl ⟨by rfl, ?_⟩) hHeld ?_
              rotate_left
              · (intro w hSw; (try dsimp only at hSw); go_simp; try with_reducible rfl)
              simp only [Act.put, List.setIfInBounds_toArray, List.set_cons_zero, List.set_cons_succ]
              refine held_take (i := 5) (v := ?_) rfl rfl (by kernel_rfl) (by kernel_rfl) (by kernel_rfl) (fun _ _ _ h => h) (Or.inl ⟨by rfl, ?_⟩) hHeld ?_
              rotate_left
              · (intro w hSw; (try dsimp only at hSw); go_simp; try with_reducible rfl)
              simp only [Act.put, List.setIfInBounds_toArray, List.set_cons_zero, List.set_cons_succ]
              refine held_take (i := 6) (v := ?_) rfl rfl (by kernel_rfl) (by kernel_rfl) (by kernel_rfl) (fun _ _ _ h => h) (Or.inl ⟨by rfl, ?_⟩) hHeld ?_
              rotate_left
              · (intro w hSw; (try dsimp only at hSw); go_simp; try with_reducible rfl)
              simp only [Act.put, List.setIfInBounds_toArray, List.set_cons_zero, List.set_cons_succ]
              refine wpAnyH_ready (rs := [0]) (by kernel_rfl) (by simp) ?_
              refine AllReadyH.cons rfl (fun K hK => ?_) AllReadyH.nil
              go_simp
              refine hK.out _ _ (hHeld) (fun hHeld => ?_)
              clear hK K
              refine wpAnyH_ready (rs := [7]) (by kernel_rfl) (by simp) ?_
              refine AllReadyH.cons rfl (fun K hK => ?_) AllReadyH.nil
              go_simp
              go_at_call 19
              refine (HRo.out 0).mono ?_
              rintro e w2 ⟨va', rfl, hD', hB', hF'⟩
              have hT' : Tch (Db (.slice ao 8 co) (.slice aS m cs) (.slice aA m cA)) wr.drew w2 := Tch.of hB'
              have hN' : ∀ b, Db (.slice ao 8 co) (.slice aS m cs) va' b → Db (.slice ao 8 co) (.slice aS m cs) (.slice aA m cA) b ∨ wr.drew.heap.size ≤ b := (fun b hb => Or.elim hb (fun h => .inl (.inl h)) (fun h => Or.elim h (fun h => .inl (.inr (.inl h))) (fun h => Or.elim (hF' b h) (fun h => .inl (.inr (.inr h))) .inr)))
              obtain ⟨aA', cA', rfl⟩ := row_form hD'.a
              rw [HLn.out.1] at hD' hN' ⊢
              obtain ⟨hMid, hbx⟩ := (HM.out.later (below_drew1 _ _)).ref hD' hT' hN'
              obtain ⟨q0, q1, q2, g0, g1, g2⟩ := hbx.facts
              go_simp
              refine hK.out _ _ (⟨HX.out hMid.old, HY.out hMid.old⟩) (fun hHeld => ?_)
              clear hK K
              refine held_take (i := 8) (v := ?_) rfl rfl (by kernel_rfl) (by kernel_rfl) (by kernel_rfl) (fun _ _ _ h => h) (Or.inl ⟨by rfl, ?_⟩) hHeld ?_
              rotate_left
              · (intro w hSw; (try dsimp only at hSw); go_simp; try with_reducible rfl)
              simp only [Act.put, List.setIfInBounds_toArray, List.set_cons_zero, List.set_cons_succ]
              refine held_take (i := 9) (v := ?_) rfl rfl (by kernel_rfl) (by kernel_rfl) (by kernel_rfl) (fun _ _ _ h => h) (Or.inl ⟨by rfl, ?_⟩) hHeld ?_
              rotate_left
              · (intro w hSw; (try dsimp only at hSw); go_simp; try with_reducible rfl)
              simp only [Act.put, List.setIfInBounds_toArray, List.set_cons_zero, List.set_cons_succ]
              refine held_take (i := 10) (v := ?_) rfl rfl (by kernel_rfl) (by kernel_rfl) (by kernel_rfl) (fun _ _ _ h => h) (Or.inl ⟨by rfl, ?_⟩) hHeld ?_
              rotate_left
              · (intro w hSw; (try dsimp only at hSw); go_simp; try with_reducible rfl)
              simp only [Act.put, List.setIfInBounds_toArray, List.set_cons_zero, List.set_cons_succ]
              refine held_take (i := 11) (v := ?_) rfl rfl (by kernel_rfl) (by kernel_rfl) (by kernel_rfl) (fun _ _ _ h => h) (Or.inl ⟨by rfl, ?_⟩) hHeld ?_
              rotate_left
              · (intro w hSw; (try dsimp only at hSw); go_simp; try with_reducible rfl)
              simp only [Act.put, List.setIfInBounds_toArray, List.set_cons_zero, List.set_cons_succ]
              refine wpAnyH_ready (rs := [12]) (by kernel_rfl) (by simp) ?_
              refine AllReadyH.cons rfl (fun K hK => ?_) AllReadyH.nil
              go_simp
              refine hK.out _ _ (⟨HX.out hMid.set.old, HY.out hMid.set.old⟩) (fun hHeld => ?_)
              clear hK K
              refine held_take (i := 13) (v := ?_) rfl rfl (by kernel_rfl) (by kernel_rfl) (by kernel_rfl) (fun _ _ _ h => h) (Or.inl ⟨by rfl, ?_⟩) hHeld ?_
              rotate_left
              · (intro w hSw; (try dsimp only at hSw); go_simp; try with_reducible rfl)
              simp only [Act.put, List.setIfInBounds_toArray, List.set_cons_zero, List.set_cons_succ]
              refine held_take (i := 14) (v := ?_) rfl rfl (by kernel_rfl) (by kernel_rfl) (by kernel_rfl) (fun _ _ _ h => h) (Or.inl ⟨by rfl, ?_⟩) hHeld ?_
              rotate_left
              · (intro w hSw; (try dsimp only at hSw); go_simp; try with_reducible rfl)
              simp only [Act.put, List.setIfInBounds_toArray, List.set_cons_zero, List.set_cons_succ]
              refine wpAnyH_done (by kernel_rfl) ?_ _
              have HM3 : Hid _ := hMid.set
              have HA3 : Hid (∀ a ∈ adr, a < w2.heap.size) := fun a h => Nat.lt_of_lt_of_le (HAd.out a h) hT'.size
              clear hD' hT' hN' hMid hbx q0 q1 q2 g0 g1 g2 x0 x1 x2 f0 f1 f2 hx0
              have HA4 : Hid (∀ a ∈ adr, a < (((w2.setCell ⟨X, 0, none⟩ (.slice ao 8 co)).setCell ⟨X, 1, none⟩ (.slice aS m cs)).setCell ⟨X, 2, none⟩ (.slice aA' m cA')).heap.size) := fun a h => Nat.lt_of_lt_of_le (HA3.out a h) (tch_set3 _ _ _ _ _).size
              generalize ((w2.setCell ⟨X, 0, none⟩ (.slice ao 8 co)).setCell ⟨X, 1, none⟩ (.slice aS m cs)).setCell ⟨X, 2, none⟩ (.slice aA' m cA') = w3 at HM3 HA4 ⊢
              have hx3 := HX.out HM3.out.old
              have hy3 := HY.out HM3.out.old
              clear hy0
              go_wp2_with fail
              go_region_held3 (fun w' => w'.cell? ⟨b1, o1, none⟩ = some (.int .i64 x) ∧ w'.cell? ⟨b1, o1 + 1, none⟩ = some (.int .i64 y))
                (first | go_keep | (go_split_ands; exact ⟨HX.out HP.out.old, HY.out HP.out.old⟩))
                (first | (go_at_call 20; refine (move_any _ G G F Z (HM3.out.later (below_drew1 _ _)).tab x y).mono ?_; rintro e w4 ⟨rfl, hs4⟩; have HP : Hid (PlS w w4 G X (k + 1) F (mvZ F Z x y)) := PlS.moved (HM3.out.later (below_drew1 _ _)) HRe.out HA4.out (Nat.le_trans (Nat.le_of_eq HLn.out.1) HLn.out.2) HAl.out hs4))
              go_wp2_with fail
              go_meet
              case rel => exact ⟨mvE F Z x y, mvN F Z x y, _, _, rfl, rfl, rfl, rfl, HP.out⟩
          · have h1 : ¬ z = 1 := by omega
            have h2 : ¬ z = 2 := by omega
            have h3 : ¬ z = 3 := by omega
            have h4 : ¬ z = 4 := by omega
            clear h0
            go_wp2_with fail
            go_meet
            case rel => exact ⟨0, 0, F, Z, rfl, rfl, rfl, rfl, ST.out.more⟩
        case rest =>
        rename World => w4
        obtain ⟨E, N, F', Z', rfl, rfl, rfl, rfl, hP⟩ := hcut
        have HP : Hid (PlS w w4 G X (k + 1) F' Z') := hP
        have HEq : Hid (((E : Int) == (E : Int)) = true) := by show ((E : Int) == (E : Int)) = true; simp
        clear hP hc0 ST
        go_wp2_with fail
        refine (error_any E (E : Int) _ (HL.out.later (by rw [← HG.out]; exact HP.out.old))).mono ?_
        rintro e w5 ⟨rfl, hb5⟩
        rw [HEq.out]
        have HP5 : Hid (PlS w w5 G X (k + 1) F' Z') := HP.out.later hb5
        clear hb5
        go_wp2
        go_loopw [11] (fun i wv => ∃ j : Nat, j ≤ 10 ∧ i = .int .i64 ((j : Int) - 1) ∧ PlS w wv G X (k + 1) F' Z') (fun i _ => (10 - (intOf i)).toNat)
        case atStart => exact ⟨0, by omega, rfl, HP5.out⟩
        case round =>
          rename World => wv
          obtain ⟨j, hj, rfl, hp⟩ := hrel
          have HPv : Hid (PlS w wv G X (k + 1) F' Z') := hp
          clear hp
          by_cases hj9 : j < 10
          · have hl9 : (j : Int) - 1 ≤ 8 := by omega
            obtain ⟨y, hy⟩ : ∃ y : Int, (j : Int) - 1 = y := ⟨_, rfl⟩
            rw [hy] at hl9 ⊢
            have HY1 : Hid ((j : Int) - 1 = y) := hy
            clear hy
            obtain ⟨vo, vs, va, O, S, A, adr, hM, hRel, hadr, hlen⟩ := HPv.out
            obtain ⟨g, cap, rfl, hg, hcO⟩ := own_cells hM.doc.o (by decide)
            have HM : Hid (Mem w wv G X (.slice (some ⟨g, 0, none⟩) 8 cap) vs va F' Z' O S A) := hM
            have HRe : Hid (Rel F' Z' O S A adr) := hRel
            have HWr : Hid _ := fun (_ : Nat) => wrong_any wv G (.slice (some ⟨g, 0, none⟩) 8 cap) vs va O F' hM.doc.o hRel.frs y
            cases hf : fo F' y with
            | none =>
              have hE := opE_none hf
              have hE' : ¬ ((opE F' y : Nat) : Int) = 0 := by omega
              have hA := atZ_none (Z := Z') hf
              obtain ⟨x0, x1, x2, _, _, _⟩ := hM.box.facts
              generalize opE F' y = E1 at HWr hE'
              clear hM hRel hadr hlen hg hcO hE hf
              have HA : Hid _ := fun (wz : World) (h : Below wv.heap.size wv wz) => at_any wz G G F' Z' (HM.out.later h).tab y
              rw [hA] at HA
              clear hA
              go_wp2_with (first
                | (go_at_call 17; refine (HWr.out 0).mono ?_; rintro e w6 ⟨rfl, hb6⟩; have HB6 : Hid (Below wv.heap.size wv w6) := hb6; clear hb6)
                | (go_at_call 7; refine (HA.out _ HB6.out).mono ?_; rintro e w7 ⟨rfl, rfl⟩))
              go_roundw
              case rel => exact ⟨j + 1, by omega, by rw [← HY1.out]; refine congrArg (Value.int IntKind.i64) ?_; unfold wrap64; omega, HPv.out.later HB6.out⟩
              case measure =>
                have hw : wrap64 (j : Int) = (j : Int) := by unfold wrap64; omega
                rw [← HY1.out]; simp [intOf, hw]; omega
            | some b2 =>
              obtain ⟨e1, e2, e3, e4⟩ := opE_some hf
              have hA := atZ_some (Z := Z') hf
              obtain ⟨i, rfl⟩ : ∃ i : Nat, y = (i : Int) := ⟨y.toNat, by omega⟩
              have hi : i < 8 := by omega
              rw [Int.toNat_natCast] at e4
              obtain ⟨q, hq1, hq2⟩ := hRel.num i b2 hi e4
              have hv := (hRel.val q b2 hq2).2
              have hql : q < S.length := by rw [hRel.len]; exact (List.getElem?_eq_some_iff.1 hq2).1
              obtain ⟨ga, ca, rfl, hga, hcA⟩ := own_cells hM.doc.a (by omega)
              have cO := hcO i hi
              have cA2 := hcA q hql
              rw [hq1] at cO
              rw [hv] at cA2
              have hqi : (q : Int) < (S.length : Int) := by omega
              have hii : (i : Int) < 8 := by omega
              have hi0 : (0 : Int) ≤ (i : Int) := by omega
              have hq0 : (0 : Int) ≤ (q : Int) := by omega
              have hm100 := hM.doc.len
              obtain ⟨aS, cS, rfl⟩ := row_form hM.doc.s
              obtain ⟨x0, x1, x2, _, _, _⟩ := hM.box.facts
              have HK6 : Hid (∀ w6, Below wv.heap.size wv w6 → w6.cell? ⟨X, 0, none⟩ = some (.slice (some ⟨g, 0, none⟩) 8 cap) ∧ w6.cell? ⟨X, 2, none⟩ = some (.slice (some ⟨ga, 0, none⟩) S.length ca) ∧ w6.cell? ⟨g, i, none⟩ = some (.int .i64 (q : Int)) ∧ w6.cell? ⟨ga, q, none⟩ = some (.int .i64 ((Z' b2).2 : Int))) := fun w6 h => by
                obtain ⟨q0, _, q2, _⟩ := (HM.out.later h).box.facts
                exact ⟨q0, q2, by rw [h.cell (p := ⟨g, i, none⟩) hg]; exact cO, by rw [h.cell (p := ⟨ga, q, none⟩) hga]; exact cA2⟩
              have HA : Hid _ := fun (wz : World) (h : Below wv.heap.size wv wz) => at_any wz G G F' Z' (HM.out.later h).tab (i : Int)
              rw [hA] at HA
              rw [e1] at HWr
              obtain ⟨m, hm⟩ : ∃ m, S.length = m := ⟨_, rfl⟩
              rw [hm] at HK6 x1 x2 hqi hm100 HWr HM
              generalize (Z' b2).2 = P at HK6 HA
              clear hM hRel hadr hlen hg hcO hf e1 e2 e3 e4 hA hq1 hq2 hv hql hga hcA cO cA2 hm
              go_wp2_with (first
                | (go_at_call 17; refine (HWr.out 0).mono ?_; rintro e w6 ⟨rfl, hb6⟩; have HB6 : Hid (Below wv.heap.size wv w6) := hb6; clear hb6))
              clear x0 x1 x2
              obtain ⟨x0, x2, cO, cA2⟩ := HK6.out _ HB6.out
              go_quiet (fail)
              have HB7 : Hid (Below wv.heap.size wv (w6.drewN nq)) := HB6.out.trans (below_drew _ _ _)
              generalize w6.drewN nq = w7 at HB7 ⊢
              clear x0 x2 cO cA2
              go_wp2_with (first
                | (go_at_call 7; refine (HA.out _ HB7.out).mono ?_; rintro e w8 ⟨rfl, rfl⟩))
              go_roundw
              case rel => exact ⟨j + 1, by omega, by rw [← HY1.out]; refine congrArg (Value.int IntKind.i64) ?_; omega, HPv.out.later HB7.out⟩
              case measure => rw [← HY1.out]; simp [intOf]; omega
          · have hl9 : ¬ (j : Int) - 1 ≤ 8 := by omega
            go_wp2_with fail
            go_roundw
            case rel => exact ⟨k + 1, F', Z', by omega, by go_num, HPv.out⟩
            case measure => simp [intOf]; omega
      · have hs1 : ¬ (k : Int) < 60 := by omega
        go_wp2
        go_ret
        exact ⟨rfl, by rw [← HG.out]; exact ST.out.old⟩
    · have hl1 : ¬ (k : Int) < (n : Int) := by omega
      go_wp2
      go_ret
      exact ⟨rfl, by rw [← HG.out]; exact ST.out.old⟩

end Go.Proofs.YtekonojkllnejaaDoor
