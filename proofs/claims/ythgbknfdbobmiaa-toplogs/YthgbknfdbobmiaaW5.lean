/- This text proves what the library's DeleteFunc leaves of notes, with the question of package undo whether a note is of one turn: those of the others, in their order; nothing is turned but the notes that were handed in; the conditions are that the notes lie there in memory of the caller's own, and the turn's number elsewhere. -/
import Derived.Test.YthgbknfdbobmiaaW4
namespace Go.Proofs.Ythgbknfdbobmiaa
open Go.RowKit Go.Deep

/-- A note is stored in the place of another one. -/
def put3 (w : World) (b i : Nat) (x : Nt) : World := ((w.setCell ⟨b, i * 3, none⟩ (.int .i64 (x.t : Int))).setCell ⟨b, i * 3 + 1, none⟩ (.int .i64 (x.b : Int))).setCell ⟨b, i * 3 + 2, none⟩ (.int .i64 (x.w : Int))
theorem put3_own {w : World} {base b n cap i : Nat} {R : List Nt} (h : w.ownsRow base 69 3 (.slice (some ⟨b, 0, none⟩) n cap) n (ntc R)) (hi : i < n) (x : Nt) :
    (put3 w b i x).ownsRow base 69 3 (.slice (some ⟨b, 0, none⟩) n cap) n (ntc (R.set i x)) := by
  have hl : R.length = n := by have := h.1; rw [ntc_len] at this; omega
  have h1 := ((((h.stored (i * 3) (.int .i64 (x.t : Int))).1).stored (i * 3 + 1) (.int .i64 (x.b : Int))).1.stored (i * 3 + 2) (.int .i64 (x.w : Int))).1
  rw [ntc_set3 R i x (by omega)] at h1
  exact h1
theorem put3_stay (w : World) (b i : Nat) (x : Nt) : Stay (fun y => y = b) w (put3 w b i x) :=
  ((Stay.set (S := fun y => y = b) w (a := ⟨b, i * 3, none⟩) _ rfl).trans (Stay.set (S := fun y => y = b) _ (a := ⟨b, i * 3 + 1, none⟩) _ rfl)).trans (Stay.set (S := fun y => y = b) _ (a := ⟨b, i * 3 + 2, none⟩) _ rfl)

/-- What the walk knows behind a question: the copy that it asked of, and that the notes may be stored into. -/
theorem midu_cells {w w2 : World} {base b n cap : Nat} {R : List Nt} (h : w.ownsRow base 69 3 (.slice (some ⟨b, 0, none⟩) n cap) n (ntc R)) (x : Nt)
    (hb : Below (w.alloc (.cells #[.int .i64 (x.t : Int), .int .i64 (x.b : Int), .int .i64 (x.w : Int)] 69)).heap.size (w.alloc (.cells #[.int .i64 (x.t : Int), .int .i64 (x.b : Int), .int .i64 (x.w : Int)] 69)) w2) :
    (w2.cell? ⟨w.heap.size, 0, none⟩ = some (.int .i64 (x.t : Int)) ∧ w2.cell? ⟨w.heap.size, 1, none⟩ = some (.int .i64 (x.b : Int)) ∧ w2.cell? ⟨w.heap.size, 2, none⟩ = some (.int .i64 (x.w : Int))) ∧
    w2.ownsRow base 69 3 (.slice (some ⟨b, 0, none⟩) n cap) n (ntc R) ∧ Below w.heap.size w w2 ∧ (∀ q, w2.frozen? ⟨b, q, none⟩ = false) ∧
    ∀ i, i < n → w2.cell? ⟨b, i * 3, none⟩ = some (.int .i64 ((ntAt R i).t : Int)) ∧ w2.cell? ⟨b, i * 3 + 1, none⟩ = some (.int .i64 ((ntAt R i).b : Int)) ∧ w2.cell? ⟨b, i * 3 + 2, none⟩ = some (.int .i64 ((ntAt R i).w : Int)) := by
  have hn := Below.next (below_one w (.cells #[.int .i64 (x.t : Int), .int .i64 (x.b : Int), .int .i64 (x.w : Int)] 69)) hb
  have ho := xown_later h hn
  have hl : R.length = n := by have := h.1; rw [ntc_len] at this; omega
  refine ⟨⟨?_, ?_, ?_⟩, ho, hn, fun q => ho.frozenAt q, fun i hi => ?_⟩
  rotate_left 3
  · obtain ⟨q0, q1, q2⟩ := ntc_at R i (by omega)
    exact ⟨(ho.cellAt (i * 3) (by omega)).trans q0, (ho.cellAt (i * 3 + 1) (by omega)).trans q1, (ho.cellAt (i * 3 + 2) (by omega)).trans q2⟩
  · rw [hb.cell (p := ⟨w.heap.size, 0, none⟩) (by simp)]; exact cell_new _ _ _ _
  · rw [hb.cell (p := ⟨w.heap.size, 1, none⟩) (by simp)]; exact cell_new _ _ _ _
  · rw [hb.cell (p := ⟨w.heap.size, 2, none⟩) (by simp)]; exact cell_new _ _ _ _

theorem zero3_one (n : Nat) : ∀ u ∈ (Builtin.zeroCells #[Value.int .i64 0, .int .i64 0, .int .i64 0] n).toList, u.oneCell' = true := by
  intro u hu
  unfold Builtin.zeroCells at hu
  rw [Array.toList_map, List.mem_map] at hu
  obtain ⟨i, _, rfl⟩ := hu
  have h : i % 3 < 3 := Nat.mod_lt _ (by decide)
  show (#[Value.int .i64 0, .int .i64 0, .int .i64 0][i % 3]!).oneCell' = true
  rcases (show i % 3 = 0 ∨ i % 3 = 1 ∨ i % 3 = 2 by omega) with e | e | e <;> rw [e] <;> rfl
/-- What is behind a place is cleared. -/
theorem clearu_own (w : World) (base b n cap i : Nat) (R : List Nt) (h : w.ownsRow base 69 3 (.slice (some ⟨b, 0, none⟩) n cap) n (ntc R)) (hi : i < n) :
    ∃ W, (∀ ty, (Builtin.clear_ #[60] ty #[.slice (some ⟨b, i * 3, none⟩) (n - i) (cap - i)]).run Try.prog w = .ok (.tuple #[]) W) ∧ W.ownsRow base 69 3 (.slice (some ⟨b, 0, none⟩) i cap) i (ntc (R.take i)) ∧ Stay (fun x => x = b) w W := by
  have hl : R.length = n := by have := h.1; rw [ntc_len] at this; omega
  rcases h.2 with ⟨h0, _⟩ | ⟨g, cap', cur, h1, h2, h3, h4, h5, h6, h7⟩
  · cases h0
  · cases h1
    obtain ⟨m, hm⟩ : ∃ m, n - i = m + 1 := ⟨n - i - 1, by omega⟩
    generalize hz : (Builtin.zeroCells #[Value.int .i64 0, .int .i64 0, .int .i64 0] (m + 1)).toList = Z
    have hZ1 : ∀ u ∈ Z, u.oneCell' = true := by rw [← hz]; exact zero3_one (m + 1)
    have hZl : Z.length = (m + 1) * 3 := by rw [← hz, Array.length_toList, size_zeroCells]; rfl
    have hst := run_storeCells_at (P := Try.prog) b (i * 3) 69 Z 0 cur w h3 (by rw [hZl, h6]; omega) hZ1
    have hcur : cur.toList.length = cap * 3 := by rw [Array.length_toList]; exact h6
    refine ⟨w.setRow b (cur.toList.take (i * 3 + 0) ++ Z ++ cur.toList.drop (i * 3 + 0 + Z.length)).toArray, fun ty => ?_, ?_, ⟨rfl, rfl, rfl, by simp, fun x _ hn => setRow_other w b x _ hn⟩⟩
    · simp [Builtin.clear_, run_underlying Try.underlying60, hm, Value.cells, hz, hst, Result.andThen]
    · refine ⟨by rw [ntc_len, List.length_take]; omega, .inr ⟨b, cap, _, rfl, h2, setRow_heap w b cur _ _ (0, 0) h3, by omega, h5, ?_, ?_⟩⟩
      · rw [List.size_toArray, List.length_append, List.length_append, List.length_take, List.length_drop, hcur, hZl]
        omega
      · rw [← ntc_take R i (by omega), ← h7, List.take_take]
        show ((cur.toList.take (i * 3 + 0) ++ Z) ++ _).take (i * 3) = _
        rw [List.append_assoc, List.take_append_of_le_length (by rw [List.length_take, hcur]; omega), List.take_take]
        congr 1
        omega

set_option maxHeartbeats 8000000 in
set_option maxRecDepth 100000 in
theorem delt_any (w : World) (base : Nat) (v : Value) (M : List Nt) (ho : w.ownsRow base 69 3 v M.length (ntc M)) (hl : M.length ≤ 60) (B : Nat) (t : Int) (hA : AskT w B t) (hBv : v.ownBlock ≠ some B) :
    Calls Try.prog 32 #[v, .func (.func 33) #[] #[.pointer (some ⟨B, 0, none⟩)]] w fun e w' => ∃ v', e = .returned v' ∧
      w'.ownsRow base 69 3 v' (cut t M).length (ntc (cut t M)) ∧ v'.ownBlock = v.ownBlock ∧ Stay (fun x => v.ownBlock = some x) w w' := by
  have hx := nts_own ho (by unfold maxLen; omega)
  have HK : Hid _ := fun (_ : Nat) => indext_any w v M hx B t hA
  have HA : Hid (AskT w B t) := hA
  have HO : Hid (w.ownsRow base 69 3 v M.length (ntc M)) := ho
  have e30 := Try.enterAskT
  clear hx hA ho
  unfold cut
  go_enter Try.func32, Try.ntmps32
  go_wp2_with fail
  refine (HK.out 0).mono ?_
  rintro e w1 ⟨⟨i, rfl, hi⟩, hb⟩
  have HB : Hid (Below w.heap.size w w1) := hb
  rcases hi with ⟨rfl, hall⟩ | ⟨k, rfl, hk, hno, hlow⟩
  · have HF : Hid (M.filter (fun x => !ofT t x) = M) := List.filter_eq_self.2 (all_nts (p := fun x => !ofT t x) hall)
    clear hall hb
    go_wp2
    go_ret
    exact ⟨_, rfl, by rw [HF.out]; exact xown_later HO.out HB.out, rfl, Stay.of HB.out⟩
  · obtain ⟨b, cap, rfl, hb1, hb2⟩ := rown_where HO.out (by omega)
    have hBb : b ≠ B := fun e => hBv (congrArg some e)
    have HM : Hid (MidU M (fun x => !ofT t x) M k (k + 1)) := midu_start hk hlow hno
    have HO1 : Hid (w1.ownsRow base 69 3 (.slice (some ⟨b, 0, none⟩) M.length cap) M.length (ntc M)) := xown_later HO.out hb
    have HA1 : Hid (AskT w1 B t) := HA.out.later hb
    have HS1 : Hid (Stay (fun x => x = b) w w1) := Stay.of hb
    have HCap : Hid (M.length ≤ cap ∧ cap ≤ maxLen) := by
      rcases HO.out.2 with ⟨h0, _⟩ | ⟨g, c, cur, h1, _, _, h3, h4, _⟩
      · cases h0
      · cases h1; exact ⟨h3, h4⟩
    obtain ⟨n, hn⟩ : ∃ n, n = M.length := ⟨_, rfl⟩
    have HN : Hid (n = M.length) := hn
    rw [← hn] at HO1 HCap hl ⊢
    have hkn : k < n := by rw [HN.out]; exact hk
    have hk1 : ((k : Int) == -1) = false := by first | (simp; done) | (simp; omega)
    clear hn hno hlow HK HO hBv hk
    go_wp2
    go_loopw [5, 6] (fun i j wr => ∃ a b2 : Nat, ∃ R, b2 ≤ n ∧ i = .int .i64 (a : Int) ∧ j = .int .i64 (b2 : Int) ∧ MidU M (fun x => !ofT t x) R a b2 ∧ wr.ownsRow base 69 3 (.slice (some ⟨b, 0, none⟩) n cap) n (ntc R) ∧ AskT wr B t ∧ Stay (fun x => x = b) w wr) (fun _ j _ => n - (intOf j).toNat)
    case atStart => exact ⟨k, k + 1, M, by omega, rfl, by go_num, HM.out, HO1.out, HA1.out, HS1.out⟩
    case round =>
      obtain ⟨i, j, R, hj, rfl, rfl, hmid, hor, hask, hst⟩ := hrel
      have MI : Hid (MidU M (fun x => !ofT t x) R i j) := hmid
      have OR : Hid (wr.ownsRow base 69 3 (.slice (some ⟨b, 0, none⟩) n cap) n (ntc R)) := hor
      have AR : Hid (AskT wr B t) := hask
      have SR : Hid (Stay (fun x => x = b) w wr) := hst
      have hij := hmid.lt
      have hRl : R.length = n := by rw [hmid.len, HN.out]
      clear hmid hor hask hst HO1 HA1 HS1 HM HB
      by_cases hlt : j < n
      · obtain ⟨q0, q1, q2⟩ := ntc_at R j (by omega)
        have he : ntAt R j = ntAt M j := MI.out.rest j (Nat.le_refl _) (by rw [← HN.out]; exact hlt)
        rw [he] at q0 q1 q2
        have c0 : wr.cell? ⟨b, j * 3, none⟩ = some (.int .i64 ((ntAt M j).t : Int)) := (OR.out.cellAt (j * 3) (by omega)).trans q0
        have c1 : wr.cell? ⟨b, j * 3 + 1, none⟩ = some (.int .i64 ((ntAt M j).b : Int)) := (OR.out.cellAt (j * 3 + 1) (by omega)).trans q1
        have c2 : wr.cell? ⟨b, j * 3 + 2, none⟩ = some (.int .i64 ((ntAt M j).w : Int)) := (OR.out.cellAt (j * 3 + 2) (by omega)).trans q2
        clear q0 q1 q2 he
        obtain ⟨y, hy⟩ : ∃ y, ofT t (ntAt M j) = y := ⟨_, rfl⟩
        have HY : Hid (ofT t (ntAt M j) = y) := hy
        have HQ : Hid _ := fun (o : Obj) => askt_any (wr.alloc o) B t (AR.out.later (below_one _ _)) (ntAt M j)
        rw [hy] at HQ
        clear hy
        have HD : Hid _ := fun w2 h => midu_cells (w2 := w2) OR.out (ntAt M j) h
        have hin : i < n := by omega
        cases y with
        | true =>
          have HN2 : Hid (MidU M (fun x => !ofT t x) R i (j + 1)) := MI.out.no (by rw [← HN.out]; exact hlt) (by rw [HY.out]; rfl)
          generalize (ntAt M j).t = T1 at c0 HQ HD
          generalize (ntAt M j).b = B1 at c1 HQ HD
          generalize (ntAt M j).w = V1 at c2 HQ HD
          go_wp2_with (go_at_call 33; refine (HQ.out _).mono ?_; rintro e w2 ⟨rfl, hb3⟩; obtain ⟨⟨d0, d1, d2⟩, ho2, hb4, hf, _⟩ := HD.out w2 hb3)
          go_roundw
          case rel => exact ⟨i, j + 1, R, by omega, rfl, by go_num, HN2.out, ho2, AR.out.later hb4, SR.out.trans (Stay.of hb4)⟩
          case measure => simp [intOf]; omega
        | false =>
          have HN2 : Hid (MidU M (fun x => !ofT t x) (R.set i (ntAt M j)) (i + 1) (j + 1)) := MI.out.yes (by rw [← HN.out]; exact hlt) (by rw [HY.out]; rfl)
          have HP : Hid _ := fun w2 h => put3_own (w := w2) (base := base) (b := b) (n := n) (cap := cap) (R := R) h hin (ntAt M j)
          have HPS : Hid _ := fun w2 => put3_stay w2 b i (ntAt M j)
          unfold put3 at HP HPS
          generalize ntAt M j = X at c0 c1 c2 HQ HD HN2 HP HPS
          obtain ⟨T1, B1, V1⟩ := X
          go_wp2_with (go_at_call 33; refine (HQ.out _).mono ?_; rintro e w2 ⟨rfl, hb3⟩; obtain ⟨⟨d0, d1, d2⟩, ho2, hb4, hf, hco⟩ := HD.out w2 hb3; obtain ⟨e0, e1, e2⟩ := hco i hin; clear hco; have HO2 : Hid _ := HP.out w2 ho2; have HS2 : Hid _ := HPS.out w2; have HB4 : Hid (Below wr.heap.size wr w2) := hb4; clear hb3 ho2 hb4)
          go_roundw
          case rel => exact ⟨i + 1, j + 1, _, by omega, by go_num, by go_num, HN2.out, HO2.out, (AR.out.later HB4.out).frame (HS2.out.block B (by have := AR.out.lt; have := HB4.out.size; omega) (fun e => hBb e.symm)), (SR.out.trans (Stay.of HB4.out)).trans HS2.out⟩
          case measure => simp [intOf]; omega
      · have hjn : j = n := by omega
        subst hjn
        have hil : i < j := hij
        obtain ⟨W, hcl, hoW, hsW⟩ := clearu_own wr base b j cap i R OR.out hil
        have HF : Hid (R.take i = M.filter (fun x => !ofT t x) ∧ i = (M.filter (fun x => !ofT t x)).length) := MI.out.end' HN.out
        rw [HF.out.1] at hoW
        have HW : Hid _ := And.intro hoW (SR.out.trans hsW)
        clear hoW hsW
        have hic : i ≤ cap := by have := HCap.out.1; omega
        have hci : ¬ cap = i := by have := HCap.out.1; omega
        go_wp2
        go_ret
        exact ⟨_, rfl, by rw [← HF.out.2]; exact HW.out.1, rfl, HW.out.2.sub fun x e => congrArg some e.symm⟩

end Go.Proofs.Ythgbknfdbobmiaa
