/- This text proves what the document's own Values of a log answers: what the log leaves in the blocks; old memory is as it was; the conditions are that the document's records lie there, and its blocks' values. -/
import Derived.Test.YtejganpamidkmaaDoorZD1
namespace Go.Proofs.YtejganpamidkmaaDoor
open Go.RowKit Go.Deep Go.Maps

/-- Behind an end there is no record of its turn: so it does not matter how far one looks. -/
theorem redo_front {L : List Rc} (hp : L.Pairwise fun a b => a.e = true → b.t ≠ a.t) {i : Nat} (hi : i < L.length) (he : (rcAt L i).e = true) (H : Nat → Nat) : redo L (rcAt L i).t H = redo (L.take i) (rcAt L i).t H := by
  have hs : L = L.take i ++ (rcAt L i :: L.drop (i + 1)) := by rw [rcAt_lt hi, List.getElem_cons_drop hi, List.take_append_drop]
  have hp2 := hp
  rw [hs] at hp2
  have h3 := (List.pairwise_cons.1 (List.pairwise_append.1 hp2).2.1).1
  generalize hr : rcAt L i = r at *
  conv => lhs; rw [hs]
  rw [redo_append]
  refine redo_skip _ _ _ fun x hx hk => ?_
  rcases List.mem_cons.1 hx with rfl | hx
  · rw [he] at hk; cases hk.1
  · exact h3 x hx he hk.2
theorem own_down {w : World} {base base' e n : Nat} {v : Value} {xs : List Value} (h : w.ownsRow base e 1 v n xs) (hb : base' ≤ base) : w.ownsRow base' e 1 v n xs := by
  refine ⟨h.1, ?_⟩
  rcases h.2 with h0 | ⟨b, cap, cur, h1, h2, h3⟩
  · exact .inl h0
  · exact .inr ⟨b, cap, cur, h1, Nat.le_trans hb h2, h3⟩

/-- What was told so far: the blocks' own values, or a list of the call's own. -/
structure Out (w wr : World) (vh : Value) (H : Nat → Nat) (vo : Value) (X : Nat → Nat) : Prop where
  is : SliceIs wr vo (lst X)
  or' : (vo = vh ∧ lst X = lst H) ∨ wr.ownsRow w.heap.size 3 1 vo 8 (cellsOf (lst X))
  old : Below w.heap.size w wr
theorem Out.later {w wr w' : World} {vh vo : Value} {H X : Nat → Nat} (h : Out w wr vh H vo X) (hb : Below wr.heap.size wr w') : Out w w' vh H vo X :=
  ⟨h.is.later hb, h.or'.elim .inl fun k => .inr (own_block k fun b e => hb.block b (k.lt b e).2), h.old.trans (hb.mono h.old.size)⟩
theorem Out.set {w wr w' : World} {vh vo v' : Value} {H X : Nat → Nat} {b x : Nat} (h : Out w wr vh H vo X) (ho : w'.ownsRow wr.heap.size 3 1 v' 8 (cellsOf ((lst X).set b (x : Int)))) (hb : Below wr.heap.size wr w') : Out w w' vh H v' (putV X b x) := by
  rw [lst_put] at ho
  exact ⟨slice_own ho (by decide), .inr (own_down ho h.old.size), h.old.trans (hb.mono h.old.size)⟩

set_option maxHeartbeats 8000000 in
set_option maxRecDepth 100000 in
theorem r2values_any (w : World) (vh vl : Value) (s : Int) (H : Nat → Nat) (L : List Rc) (hh : SliceIs w vh (lst H)) (h : PutsIs w vl L) (hf : Fine ⟨H, L, 0⟩) :
    Calls Tryd.prog 18 #[.agg #[vh, vl, .int .i64 s]] w fun e w' => ∃ v', e = .returned v' ∧ Out w w' vh H v' (vals L H) := by
  obtain ⟨ah, ch, rfl, _, _⟩ := id hh
  rw [lst_len] at hh ⊢
  obtain ⟨a, c, b, rfl, hl, ha, hb, hc⟩ := h.where
  obtain ⟨n, hn⟩ : ∃ n, n = L.length := ⟨_, rfl⟩
  have HN : Hid (n = L.length) := hn
  rw [← hn] at hl ha hb hc ⊢
  have h60 : n ≤ 60 := by rw [hn]; exact hf.len
  have hbo := below_one w (.cells #[.slice ah 8 ch, .slice a n c, .int .i64 s] 28)
  have HC : Hid (∀ W, Below w.heap.size w W → ∀ i, i < n → W.cell? ⟨b, i * 3, none⟩ = some (.int .i64 ((rcAt L i).t : Int)) ∧ W.cell? ⟨b, i * 3 + 1, none⟩ = some (.int .i64 (pcB (rcAt L i))) ∧ W.cell? ⟨b, i * 3 + 2, none⟩ = some (.int .i64 (pcV (rcAt L i)))) := fun W hW i hi =>
    ⟨by rw [hW.cell (p := ⟨b, i * 3, none⟩) (hb (by omega))]; exact (hc i hi).1, by rw [hW.cell (p := ⟨b, i * 3 + 1, none⟩) (hb (by omega))]; exact (hc i hi).2.1, by rw [hW.cell (p := ⟨b, i * 3 + 2, none⟩) (hb (by omega))]; exact (hc i hi).2.2⟩
  have b0 : (w.alloc (.cells #[.slice ah 8 ch, .slice a n c, .int .i64 s] 28)).cell? ⟨w.heap.size, 0, none⟩ = some (.slice ah 8 ch) := cell_new _ _ _ _
  have b1 : (w.alloc (.cells #[.slice ah 8 ch, .slice a n c, .int .i64 s] 28)).cell? ⟨w.heap.size, 1, none⟩ = some (.slice a n c) := cell_new _ _ _ _
  have HP : Hid (w.heap.size < (w.alloc (.cells #[.slice ah 8 ch, .slice a n c, .int .i64 s] 28)).heap.size) := by show _ < _; simp
  have HF : Hid (Fine ⟨H, L, 0⟩) := hf
  have HO : Hid (Out (w.alloc (.cells #[.slice ah 8 ch, .slice a n c, .int .i64 s] 28)) (w.alloc (.cells #[.slice ah 8 ch, .slice a n c, .int .i64 s] 28)) (.slice ah 8 ch) H (.slice ah 8 ch) H) := ⟨hh.later hbo, .inl ⟨rfl, rfl⟩, Below.refl _ _⟩
  have HB : Hid (Below w.heap.size w (w.alloc (.cells #[.slice ah 8 ch, .slice a n c, .int .i64 s] 28))) := hbo
  clear hc hn h hb hbo hh hf
  go_enter Tryd.func18, Tryd.ntmps18
  go_wp2
  generalize w.alloc _ = w1 at HP HO HB b0 b1 ⊢
  obtain ⟨P, hPe⟩ : ∃ P, w.heap.size = P := ⟨_, rfl⟩
  have HPe : Hid (w.heap.size = P) := hPe
  rw [hPe] at HP b0 b1 HB HC ⊢
  clear hPe
  have HC1 : Hid (∀ W, Below w1.heap.size w1 W → (W.cell? ⟨P, 1, none⟩ = some (.slice a n c)) ∧ ∀ i, i < n → W.cell? ⟨b, i * 3, none⟩ = some (.int .i64 ((rcAt L i).t : Int)) ∧ W.cell? ⟨b, i * 3 + 1, none⟩ = some (.int .i64 (pcB (rcAt L i))) ∧ W.cell? ⟨b, i * 3 + 2, none⟩ = some (.int .i64 (pcV (rcAt L i)))) := fun W hW =>
    ⟨by rw [hW.cell (p := ⟨P, 1, none⟩) HP.out]; exact b1, HC.out W (HB.out.trans (hW.mono (by have := HP.out; omega)))⟩
  clear b0 b1 HC
  have HSet : Hid (∀ (W : World) (vo : Value) (X : Nat → Nat) (B1 V1 : Nat), Out w1 W (.slice ah 8 ch) H vo X → B1 < 8 → Calls Tryd.prog 28 #[vo, .int .i64 (B1 : Int), .int .i64 (V1 : Int)] W fun e w' => ∃ v', e = .returned v' ∧ Out w1 w' (.slice ah 8 ch) H v' (putV X B1 V1)) := fun W vo X B1 V1 hO hB => by
    refine (set_own W vo (lst X) 8 B1 (V1 : Int) hO.is (lst_len X) hB (by decide)).mono ?_
    rintro e w' ⟨g, cap, rfl, ho, hb⟩
    exact ⟨_, rfl, hO.set ho hb⟩
  go_loopw [3, 4] (fun vo i wr => ∃ k : Nat, k ≤ n ∧ i = .int .i64 (k : Int) ∧ Out w1 wr (.slice ah 8 ch) H vo (valO (L.take k) L H)) (fun _ i _ => n - (Go.RowKit.intOf i).toNat)
  case atStart => exact ⟨0, Nat.zero_le _, rfl, HO.out⟩
  case round =>
    obtain ⟨i, hi, rfl, ho⟩ := hrel
    have OR : Hid (Out w1 wr (.slice ah 8 ch) H u3 (valO (L.take i) L H)) := ho
    clear ho HO
    obtain ⟨p1, hcs⟩ := HC1.out wr OR.out.old
    by_cases hlt : i < n
    · have haa := ha (by omega)
      subst haa
      obtain ⟨c0, _, c2⟩ := hcs i hlt
      clear hcs
      have HX : Hid (valO (L.take (i + 1)) L H = vst L (valO (L.take i) L H) (rcAt L i)) := by
        show _ = _
        rw [List.take_succ_eq_append_getElem (by rw [← HN.out]; exact hlt), valO_append, rcAt_lt (by rw [← HN.out]; exact hlt)]
        rfl
      have HRf : Hid ((rcAt L i).e = true → ∀ X, redo L (rcAt L i).t X = redo (L.take i) (rcAt L i).t X) := fun he X => redo_front HF.out.two (by rw [← HN.out]; exact hlt) he X
      have HV : Hid (pcV (rcAt L i) < 0 ↔ (rcAt L i).e = true) := pcV_neg
      have HT : Hid (∀ X, vst L X (rcAt L i) = if (rcAt L i).e = true then redo L (rcAt L i).t X else X) := fun X => rfl
      obtain ⟨T, hT⟩ : ∃ T, (rcAt L i).t = T := ⟨_, rfl⟩
      have HTi : Hid ((rcAt L i).t = T) := hT
      rw [hT] at HRf HT c0
      clear hT
      generalize pcV (rcAt L i) = V at c2 HV
      generalize (rcAt L i).e = E at HRf HV HT
      by_cases hV : V < 0
      · have hV0 : ¬ (0 ≤ V) := by omega
        have HX2 : Hid (valO (L.take (i + 1)) L H = redo (L.take i) T (valO (L.take i) L H)) := by
          have e := HV.out.1 hV
          show _ = _
          rw [HX.out, HT.out, if_pos e, HRf.out e]
        clear HX HT HRf HV
        generalize valO (L.take i) L H = X0 at OR HX2
        clear hV0
        go_wp2
        go_loopw [3, 5] (fun vo k wr => ∃ j : Nat, j ≤ i ∧ k = .int .i64 (j : Int) ∧ Out w1 wr (.slice ah 8 ch) H vo (redo (L.take j) T X0)) (fun _ k _ => i - (Go.RowKit.intOf k).toNat)
        case atStart => exact ⟨0, Nat.zero_le _, rfl, OR.out⟩
        case round =>
          obtain ⟨j, hj, rfl, ho2⟩ := hrel
          have O2 : Hid (Out w1 wr (.slice ah 8 ch) H u3 (redo (L.take j) T X0)) := ho2
          clear ho2 OR p1 c0 c2
          by_cases hji : j < i
          · have hjn : j < n := by omega
            have hin : i < n := by omega
            obtain ⟨p1, hcs⟩ := HC1.out wr O2.out.old
            obtain ⟨d0, _, _⟩ := hcs i hin
            obtain ⟨c0, c1, c2⟩ := hcs j hjn
            rw [HTi.out] at d0
            clear hcs
            have HS : Hid (redo (L.take (j + 1)) T X0 = stp T (redo (L.take j) T X0) (rcAt L j)) := redo_next (by rw [← HN.out]; exact hjn) T X0
            have h8 : (rcAt L j).b < 8 := (HF.out.one _ (rcAt_mem (by rw [← HN.out]; exact hjn))).2.1
            have hF : ∀ o, (wr.alloc o).cell? ⟨P, 1, none⟩ = some (.slice (some ⟨b, 0, none⟩) n c) ∧ (wr.alloc o).cell? ⟨b, i * 3, none⟩ = some (.int .i64 (T : Int)) := fun o => ⟨by rw [(below_one wr o).cell (p := ⟨P, 1, none⟩) (World.block_lt_of_cell? _ _ p1)]; exact p1, by rw [(below_one wr o).cell (p := ⟨b, i * 3, none⟩) (World.block_lt_of_cell? _ _ d0)]; exact d0⟩
            have hN : ∀ x y z, (wr.alloc (.cells #[x, y, z] 35)).cell? ⟨wr.heap.size, 0, none⟩ = some x ∧ (wr.alloc (.cells #[x, y, z] 35)).cell? ⟨wr.heap.size, 1, none⟩ = some y ∧ (wr.alloc (.cells #[x, y, z] 35)).cell? ⟨wr.heap.size, 2, none⟩ = some z := fun x y z => ⟨cell_new _ _ _ _, cell_new _ _ _ _, cell_new _ _ _ _⟩
            generalize rcAt L j = R at c0 c1 c2 HS h8
            obtain ⟨Tj, Bj, Vj, Ej⟩ := R
            have h8 : Bj < 8 := h8
            replace c0 : wr.cell? ⟨b, j * 3, none⟩ = some (.int .i64 (Tj : Int)) := c0
            generalize redo (L.take j) T X0 = Xj at O2 HS
            cases Ej with
            | true =>
              replace c1 : wr.cell? ⟨b, j * 3 + 1, none⟩ = some (.int .i64 0) := c1
              replace c2 : wr.cell? ⟨b, j * 3 + 2, none⟩ = some (.int .i64 (-1)) := c2
              have HS2 : Hid (redo (L.take (j + 1)) T X0 = Xj) := by have := HS.out; unfold stp at this; rw [if_neg (by simp)] at this; exact this
              have HOa : Hid (∀ o q, Out w1 ((wr.alloc o).drewN q) (.slice ah 8 ch) H u3 Xj) := fun o q => O2.out.later ((below_one _ _).trans (below_drew _ _ _))
              obtain ⟨Q, hQ⟩ : ∃ Q, ((Tj : Int) == (T : Int)) = Q := ⟨_, rfl⟩
              cases Q with
              | true =>
                go_wp2_with fail
                obtain ⟨f1, f2⟩ := hF (.cells #[.int .i64 (Tj : Int), .int .i64 0, .int .i64 (-1)] 35)
                obtain ⟨g0, g1, g2⟩ := hN (.int .i64 (Tj : Int)) (.int .i64 0) (.int .i64 (-1))
                have HO1 : Hid (∀ q, Out w1 ((wr.alloc (.cells #[.int .i64 (Tj : Int), .int .i64 0, .int .i64 (-1)] 35)).drewN q) (.slice ah 8 ch) H u3 Xj) := fun q => HOa.out _ q
                clear hF hN c0 c1 c2 p1 d0
                generalize wr.alloc _ = W1 at f1 f2 g0 g1 g2 HO1 ⊢
                generalize wr.heap.size = PB at g0 g1 g2 ⊢
                go_quiet (fail)
                go_wp2
                go_roundw
                case rel => exact ⟨j + 1, by omega, by go_num, by rw [HS2.out]; exact HO1.out _⟩
                case measure => simp [Go.RowKit.intOf]; omega
              | false =>
                go_wp2_with fail
                obtain ⟨f1, f2⟩ := hF (.cells #[.int .i64 (Tj : Int), .int .i64 0, .int .i64 (-1)] 35)
                obtain ⟨g0, g1, g2⟩ := hN (.int .i64 (Tj : Int)) (.int .i64 0) (.int .i64 (-1))
                have HO1 : Hid (∀ q, Out w1 ((wr.alloc (.cells #[.int .i64 (Tj : Int), .int .i64 0, .int .i64 (-1)] 35)).drewN q) (.slice ah 8 ch) H u3 Xj) := fun q => HOa.out _ q
                clear hF hN c0 c1 c2 p1 d0
                generalize wr.alloc _ = W1 at f1 f2 g0 g1 g2 HO1 ⊢
                generalize wr.heap.size = PB at g0 g1 g2 ⊢
                go_quiet (fail)
                go_wp2
                go_roundw
                case rel => exact ⟨j + 1, by omega, by go_num, by rw [HS2.out]; exact HO1.out _⟩
                case measure => simp [Go.RowKit.intOf]; omega
            | false =>
              replace c1 : wr.cell? ⟨b, j * 3 + 1, none⟩ = some (.int .i64 (Bj : Int)) := c1
              replace c2 : wr.cell? ⟨b, j * 3 + 2, none⟩ = some (.int .i64 (Vj : Int)) := c2
              have HOa : Hid (∀ o q, Out w1 ((wr.alloc o).drewN q) (.slice ah 8 ch) H u3 Xj) := fun o q => O2.out.later ((below_one _ _).trans (below_drew _ _ _))
              by_cases hTT : Tj = T
              · subst hTT
                have HS2 : Hid (redo (L.take (j + 1)) Tj X0 = putV Xj Bj Vj) := by have := HS.out; unfold stp at this; rw [if_pos ⟨rfl, rfl⟩] at this; exact this
                go_wp2_with fail
                obtain ⟨f1, f2⟩ := hF (.cells #[.int .i64 (Tj : Int), .int .i64 (Bj : Int), .int .i64 (Vj : Int)] 35)
                obtain ⟨g0, g1, g2⟩ := hN (.int .i64 (Tj : Int)) (.int .i64 (Bj : Int)) (.int .i64 (Vj : Int))
                have HO1 : Hid (∀ q, Out w1 ((wr.alloc (.cells #[.int .i64 (Tj : Int), .int .i64 (Bj : Int), .int .i64 (Vj : Int)] 35)).drewN q) (.slice ah 8 ch) H u3 Xj) := fun q => HOa.out _ q
                clear hF hN c0 c1 c2 p1 d0
                generalize wr.alloc _ = W1 at f1 f2 g0 g1 g2 HO1 ⊢
                generalize wr.heap.size = PB at g0 g1 g2 ⊢
                go_quiet (fail)
                go_wp2_with (go_at_call 28; refine (HSet.out _ _ _ _ _ (HO1.out _) h8).mono ?_; rintro e w5 ⟨v5, rfl, ho5⟩; have O5 : Hid (Out w1 w5 (.slice ah 8 ch) H v5 (putV Xj Bj Vj)) := ho5; clear ho5)
                go_roundw
                case rel => exact ⟨j + 1, by omega, by go_num, by rw [HS2.out]; exact O5.out⟩
                case measure => simp [Go.RowKit.intOf]; omega
              · have HS2 : Hid (redo (L.take (j + 1)) T X0 = Xj) := by have := HS.out; unfold stp at this; rw [if_neg (fun h => hTT h.2)] at this; exact this
                have hQ : ((Tj : Int) == (T : Int)) = false := by simp; omega
                go_wp2_with fail
                obtain ⟨f1, f2⟩ := hF (.cells #[.int .i64 (Tj : Int), .int .i64 (Bj : Int), .int .i64 (Vj : Int)] 35)
                obtain ⟨g0, g1, g2⟩ := hN (.int .i64 (Tj : Int)) (.int .i64 (Bj : Int)) (.int .i64 (Vj : Int))
                have HO1 : Hid (∀ q, Out w1 ((wr.alloc (.cells #[.int .i64 (Tj : Int), .int .i64 (Bj : Int), .int .i64 (Vj : Int)] 35)).drewN q) (.slice ah 8 ch) H u3 Xj) := fun q => HOa.out _ q
                clear hF hN c0 c1 c2 p1 d0
                generalize wr.alloc _ = W1 at f1 f2 g0 g1 g2 HO1 ⊢
                generalize wr.heap.size = PB at g0 g1 g2 ⊢
                go_quiet (fail)
                go_wp2
                go_roundw
                case rel => exact ⟨j + 1, by omega, by go_num, by rw [HS2.out]; exact HO1.out _⟩
                case measure => simp [Go.RowKit.intOf]; omega
          · obtain rfl : j = i := by omega
            have HE : Hid (Out w1 wr (.slice ah 8 ch) H u3 (valO (L.take (j + 1)) L H)) := by rw [HX2.out]; exact O2.out
            go_wp2
            go_roundw
            case rel => exact ⟨j + 1, by omega, by go_num, HE.out⟩
            case measure => simp [Go.RowKit.intOf]; omega
      · have hV0 : 0 ≤ V := by omega
        have HX2 : Hid (valO (L.take (i + 1)) L H = valO (L.take i) L H) := by
          have e : ¬ E = true := fun h => hV (HV.out.2 h)
          show _ = _
          rw [HX.out, HT.out, if_neg e]
        clear HX HT HRf HV
        go_wp2
        go_roundw
        case rel => exact ⟨i + 1, by omega, by go_num, by rw [HX2.out]; exact OR.out⟩
        case measure => simp [Go.RowKit.intOf]; omega
    · obtain rfl : i = n := by omega
      have HE : Hid (Out w1 wr (.slice ah 8 ch) H u3 (vals L H)) := by have := OR.out; rw [HN.out, List.take_length] at this; exact this
      go_wp2
      go_ret
      have hO := HE.out
      exact ⟨_, rfl, hO.is, hO.or'.elim .inl fun k => .inr (own_down k (by rw [HPe.out]; have := HP.out; omega)), by rw [HPe.out]; exact HB.out.trans (hO.old.mono (by have := HP.out; omega))⟩

end Go.Proofs.YtejganpamidkmaaDoor
