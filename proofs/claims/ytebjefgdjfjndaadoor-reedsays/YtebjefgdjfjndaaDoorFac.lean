/- This text proves what platterholdref1.Factors answers: factors that come to some bytes at some others, in new memory; the conditions: the slices lie there and hold as many bytes, and the first ones grow. -/
import Derived.Test.YtebjefgdjfjndaaDoorMt
import Derived.Test.YtebjefgdjfjndaaDoorRn
import Derived.Test.YtebjefgdjfjndaaDoorSp
import Derived.Deep.RegionHeld3
import Derived.Deep.DrawnRows
namespace Go.Proofs.YtebjefgdjfjndaaDoor
open Go.RowKit Go.Deep

set_option maxHeartbeats 16000000 in
set_option maxRecDepth 100000 in
theorem fac_any (w : World) (vx vy : Value) (n : Nat) (X Y : Nat → Nat) (hx : SliceIs w vx (fl n X)) (hy : SliceIs w vy (fl n Y)) (hn1 : 1 ≤ n) (hn8 : n ≤ 8) (hX : ∀ i, X i < 256) (hY : ∀ i, Y i < 256) (hG : Grows n X) :
    Calls Tryd.prog 16 #[vx, vy] w fun e w' => ∃ v' f, e = .returned v' ∧ Thru n X Y f ∧ SliceIs w' v' (fl n f) ∧ Below w.heap.size w w' := by
  have HX : Hid (∀ i, X i < 256) := hX
  have HY : Hid (∀ i, Y i < 256) := hY
  have HG : Hid (Grows n X) := hG
  obtain ⟨ax, cx, hvx, _, ix⟩ := hx
  obtain ⟨ay, cy, hvy, _, iy⟩ := hy
  rw [fl_len] at hvx hvy
  obtain ⟨bx, ox, rfl, lx, kx⟩ := ix (fun e => by have := fl_len n X; rw [e] at this; simp at this; omega)
  obtain ⟨by', oy, rfl, ly, ky⟩ := iy (fun e => by have := fl_len n Y; rw [e] at this; simp at this; omega)
  subst hvx hvy
  have HCX : Hid (∀ i, i < n → w.cell? ⟨bx, ox + i, none⟩ = some (.int .i64 (X i : Int))) := fun i hi => by rw [kx i (by rw [fl_len]; exact hi), fl_nth hi]
  have HCY : Hid (∀ i, i < n → w.cell? ⟨by', oy + i, none⟩ = some (.int .i64 (Y i : Int))) := fun i hi => by rw [ky i (by rw [fl_len]; exact hi), fl_nth hi]
  have HLX : Hid (bx < w.heap.size) := lx
  have HLY : Hid (by' < w.heap.size) := ly
  clear hX hY hG ix iy lx ly kx ky
  obtain ⟨t3, ht3, y30, y31, y32⟩ := info_parts Tryd.info3
  obtain ⟨ti, hti, z0, z1, z2⟩ := info_parts Tryd.info22
  go_enter Tryd.func16, Tryd.ntmps16
  go_wp2
  go_loopw [6, 7] (fun v6 v7 wr => ∃ (i : Nat) (V : Nat → Value), i ≤ n ∧ v7 = .int .i64 i ∧ Mat wr w.heap.size i n v6 V (M0 X Y n) ∧ Below w.heap.size w wr) (fun _ i _ => n - (intOf i).toNat)
  case atStart => exact ⟨0, fun _ => .slice none 0 0, Nat.zero_le _, rfl, mat_none _ _ _ _ _, Below.refl _ _⟩
  case round =>
    obtain ⟨i, V, hi, rfl, hmat, hbel⟩ := hrel
    have HM : Hid (Mat wr w.heap.size i n u6 V (M0 X Y n)) := hmat
    have HB : Hid (Below w.heap.size w wr) := hbel
    clear hmat hbel
    rename World => W0
    by_cases hlt : i < n
    · have hi' : (i : Int) < (n : Int) := by omega
      go_wp2
      go_loopw [8, 9] (fun v8 v9 wv => ∃ k : Nat, k ≤ n ∧ v9 = .int .i64 k ∧ wv.ownsRow W0.heap.size 3 1 v8 k (cellsOf (fl k (M0 X Y n i))) ∧ Below W0.heap.size W0 wv) (fun _ i _ => n - (intOf i).toNat)
      case atStart => exact ⟨0, Nat.zero_le _, rfl, World.ownsRow_nil _ _ _ _, Below.refl _ _⟩
      case round =>
        obtain ⟨k, hk, rfl, hown, hb1⟩ := hrel
        have HO : Hid (wr.ownsRow W0.heap.size 3 1 u8 k (cellsOf (fl k (M0 X Y n i)))) := hown
        have HB1 : Hid (Below W0.heap.size W0 wr) := hb1
        have HBW : Hid (Below w.heap.size w wr) := Below.next HB.out hb1
        clear hown hb1
        by_cases hkl : k < n
        · have hk' : (k : Int) < (n : Int) := by omega
          have h1 : wr.cell? ⟨bx, ox + i, none⟩ = some (.int .i64 (X i : Int)) := by rw [HBW.out.cell (p := ⟨bx, ox + i, none⟩) HLX.out]; exact HCX.out i hlt
          have HS : Hid (cellsOf (fl k (M0 X Y n i)) ++ [.int .i64 (gpow (X i) k : Int)] = cellsOf (fl (k + 1) (M0 X Y n i))) := by
            show cellsOf (fl k (M0 X Y n i)) ++ [.int .i64 (gpow (X i) k : Int)] = cellsOf (fl (k + 1) (M0 X Y n i))
            rw [← cells_succ]
            unfold M0
            rw [if_pos hkl]
          go_wp2_with fail
          refine (rpow_any (X i) k wr (HX.out i) (by omega)).mono ?_
          rintro e w' ⟨rfl, rfl⟩
          generalize gpow (X i) k = z at HS ⊢
          go_wp2_with (at_builtin; refine wpList_append_own _ rfl (.tmp 33) (.tmp 40) 22 rfl W0.heap.size 3 t3 (.int .i64 0) 1 8 Tryd.underlying22 ht3 y30 y31 y32 rfl (by decide) u8 k (cellsOf (fl k (M0 X Y n i))) rfl (HO.out.alloc _) ⟨wr.heap.size, 0, none⟩ 1 1 [.int .i64 (z : Int)] rfl rfl (news_one wr _ 3) (ones_int _) ?q1 ?q2 ?q3 ?q4)
          case q1 => unfold maxLen; omega
          case q2 => omega
          case q3 => have := HB1.out.size; simp; omega
          case q4 =>
            intro v1 w1 hown hgr _
            rw [HS.out] at hown
            have HO1 : Hid (w1.ownsRow W0.heap.size 3 1 v1 (k + 1) (cellsOf (fl (k + 1) (M0 X Y n i)))) := hown
            have HB2 : Hid (Below W0.heap.size W0 w1) := (HB1.out.alloc HB1.out.size _).grown hgr (by have := HB1.out.size; simp; omega) (fun k e => (HO.out.lt k e).1)
            clear hown hgr h1
            go_wp2
            go_roundw
            case rel => exact ⟨k + 1, by omega, by go_num, HO1.out, HB2.out⟩
            case measure => simp [intOf]; omega
        · have hkn : k = n := by omega
          subst hkn
          have h1 : wr.cell? ⟨by', oy + i, none⟩ = some (.int .i64 (Y i : Int)) := by rw [HBW.out.cell (p := ⟨by', oy + i, none⟩) HLY.out]; exact HCY.out i hlt
          have HS : Hid (cellsOf (fl k (M0 X Y k i)) ++ [.int .i64 (Y i : Int)] = cellsOf (fl (k + 1) (M0 X Y k i))) := by
            show cellsOf (fl k (M0 X Y k i)) ++ [.int .i64 (Y i : Int)] = cellsOf (fl (k + 1) (M0 X Y k i))
            rw [← cells_succ]
            unfold M0
            rw [if_neg (Nat.lt_irrefl k)]
          have HM1 : Hid (Mat wr w.heap.size i k u6 V (M0 X Y k)) := HM.out.later HB1.out
          have hki : ¬ (k : Int) < (k : Int) := by omega
          generalize Y i = z at HS h1
          go_wp2_with (at_builtin; refine wpList_append_own _ rfl (.tmp 43) (.tmp 48) 22 rfl W0.heap.size 3 t3 (.int .i64 0) 1 8 Tryd.underlying22 ht3 y30 y31 y32 rfl (by decide) u8 k (cellsOf (fl k (M0 X Y k i))) rfl (HO.out.alloc _) ⟨wr.heap.size, 0, none⟩ 1 1 [.int .i64 (z : Int)] rfl rfl (news_one wr _ 3) (ones_int _) ?q1 ?q2 ?q3 ?q4)
          case q1 => unfold maxLen; omega
          case q2 => omega
          case q3 => have := HB1.out.size; simp; omega
          case q4 =>
            intro v1 w1 hown hgr _
            rw [HS.out] at hown
            have hb2 : Below W0.heap.size W0 w1 := (HB1.out.alloc HB1.out.size _).grown hgr (by have := HB1.out.size; simp; omega) (fun k e => (HO.out.lt k e).1)
            obtain ⟨g1, c1, rfl, _, _⟩ := own_where hown (by omega)
            have HO1 : Hid (w1.ownsRow w.heap.size 3 1 (.slice (some ⟨g1, 0, none⟩) (k + 1) c1) (k + 1) (cellsOf (fl (k + 1) (M0 X Y k i)))) := ⟨hown.1, by
              rcases hown.2 with h | ⟨g, cap, cur, e1, e2, e3⟩
              · exact .inl h
              · exact .inr ⟨g, cap, cur, e1, Nat.le_trans HB.out.size e2, e3⟩⟩
            have HM2 : Hid (Mat w1 w.heap.size i k u6 V (M0 X Y k)) := HM.out.later hb2
            have HB2 : Hid (Below w.heap.size w w1) := Below.next HB.out hb2
            clear hown hgr h1 hb2
            go_wp2_with (at_builtin; refine wpList_append_own _ rfl (.tmp 42) (.tmp 50) 47 rfl w.heap.size 22 ti (.slice none 0 0) 1 24 Tryd.underlying47 hti z0 z1 z2 rfl (by decide) u6 i (vl V i) rfl (HM2.out.outer.alloc _) ⟨w1.heap.size, 0, none⟩ 1 1 [.slice (some ⟨g1, 0, none⟩) (k + 1) c1] rfl rfl (news_one w1 _ 22) (ones_slice _ _ _) ?p1 ?p2 ?p3 ?p4)
            case p1 => unfold maxLen; omega
            case p2 => omega
            case p3 => have := HB2.out.size; simp; omega
            case p4 =>
              intro v2 w2 hown hgr _
              have HM3 : Hid (Mat w2 w.heap.size (i + 1) k v2 (upd V i (.slice (some ⟨g1, 0, none⟩) (k + 1) c1)) (M0 X Y k)) := (HM2.out.later (below_alloc w1 _)).more (HO1.out.alloc _) hgr hown
              have HB3 : Hid (Below w.heap.size w w2) := (HB2.out.alloc HB2.out.size _).grown hgr (by have := HB2.out.size; simp; omega) (fun k e => (HM2.out.outer.lt k e).1)
              clear hown hgr
              go_wp2
              go_roundw
              case rel => exact ⟨i + 1, _, by omega, by go_num, HM3.out, HB3.out⟩
              case measure => simp [intOf]; omega
    · have hin : n = i := by omega
      subst hin
      clear HCX HCY
      obtain ⟨g, c6, rfl, hg1, hg2⟩ := own_where HM.out.outer (by omega)
      have HGB : Hid (w.heap.size ≤ g) := hg1
      have HEL : Hid (Elim n 0 X Y (M0 X Y n)) := elim_start HX.out HY.out
      have hii : ¬ (n : Int) < (n : Int) := by omega
      clear hg1 hg2 hlt hi
      go_wp2
      go_loopw [10] (fun v10 wv => ∃ k : Nat, k ≤ n ∧ v10 = .int .i64 k ∧ ∃ (V : Nat → Value) (M : Nat → Nat → Nat), Mat wv w.heap.size n n (.slice (some ⟨g, 0, none⟩) n c6) V M ∧ Elim n k X Y M ∧ Below w.heap.size w wv) (fun i _ => n - (intOf i).toNat)
      case atStart => exact ⟨0, Nat.zero_le _, rfl, V, _, HM.out, HEL.out, HB.out⟩
      case round =>
        obtain ⟨k, hk, rfl, V1, M, hmat, hel, hbel⟩ := hrel
        rename World => W1
        clear HM HB HEL
        have HM : Hid (Mat W1 w.heap.size n n (.slice (some ⟨g, 0, none⟩) n c6) V1 M) := hmat
        have HE : Hid (Elim n k X Y M) := hel
        have HB : Hid (Below w.heap.size w W1) := hbel
        clear hmat hel hbel
        by_cases hkl : k < n
        · have hk' : (k : Int) < (n : Int) := by omega
          go_wp2
          go_loop [11] (fun v11 => ∃ a : Nat, k ≤ a ∧ a < n ∧ v11 = .int .i64 a ∧ ∀ i, k ≤ i → i < a → M i k = 0) (fun i => n - (intOf i).toNat)
          case atStart => exact ⟨k, Nat.le_refl _, hkl, rfl, fun i h1 h2 => by omega⟩
          case round =>
            obtain ⟨a, hka, han, rfl, hz⟩ := hrel
            have HZ : Hid (∀ i, k ≤ i → i < a → M i k = 0) := hz
            obtain ⟨ba, ca, hVa, hba, hneg, hga, hcells⟩ := HM.out.read han
            have HVA : Hid (V1 a = .slice (some ⟨ba, 0, none⟩) (n + 1) ca) := hVa
            have HCA : Hid (∀ q, q < n + 1 → W1.cell? ⟨ba, q, none⟩ = some (.int .i64 (M a q : Int))) := hcells
            have hck := hcells k (by omega)
            have HBA : Hid (ba < W1.heap.size ∧ ba ≠ g) := ⟨hba, hneg⟩
            have ha' : (a : Int) < (n : Int) := by omega
            have hkn : (k : Int) < ((n + 1 : Nat) : Int) := by omega
            clear hz hVa hba hneg hcells
            by_cases hp : M a k = 0
            · have hlast : a < n - 1 := by
                refine Nat.lt_of_le_of_ne (by omega) fun e => ?_
                obtain ⟨i, h1, h2, h3⟩ := elim_pivot HE.out hkl HX.out HG.out
                by_cases e2 : i = a
                · subst e2; exact h3 hp
                · exact h3 (HZ.out i h1 (by omega))
              have HP : Hid (M a k = 0) := hp
              have hal : (a : Int) < (n : Int) - 1 := by omega
              rw [hp] at hck
              clear hp
              go_wp2
              refine ⟨⟨a + 1, by omega, by omega, rfl, fun i h1 h2 => ?_⟩, ?_⟩
              · by_cases e : i = a
                · subst e; exact HP.out
                · exact HZ.out i h1 (by omega)
              · simp only [intOf]; omega
            · have HP : Hid (M a k ≠ 0) := hp
              have hpb : ((M a k : Int) == 0) = false := by simp; omega
              obtain ⟨bk, ck, hVk, hbk, hnegk, hgk, _⟩ := HM.out.read hkl
              have hfr : W1.frozen? ⟨g, a, none⟩ = false := HM.out.outer.frozenAt a
              have hput := HM.out.put (k := a) (HM.out.inner k hkl)
              rw [hVk] at hput
              have hrow := hput.2 _ _ _ (HM.out.inner a han)
              rw [HVA.out] at hrow
              have hck2 : (W1.setCell ⟨g, a, none⟩ (.slice (some ⟨bk, 0, none⟩) (n + 1) ck)).cell? ⟨ba, k, none⟩ = some (.int .i64 (M a k : Int)) := own_num hrow (by omega)
              have HM2 : Hid (Mat (W1.setCell ⟨g, a, none⟩ (.slice (some ⟨bk, 0, none⟩) (n + 1) ck)) w.heap.size n n (.slice (some ⟨g, 0, none⟩) n c6) (upd V1 a (.slice (some ⟨bk, 0, none⟩) (n + 1) ck)) (upd M a (M k))) := hput.1
              have HR2 : Hid ((W1.setCell ⟨g, a, none⟩ (.slice (some ⟨bk, 0, none⟩) (n + 1) ck)).ownsRow w.heap.size 3 1 (.slice (some ⟨ba, 0, none⟩) (n + 1) ca) (n + 1) (cellsOf (fl (n + 1) (M a)))) := hrow
              have HB2 : Hid (Below w.heap.size w (W1.setCell ⟨g, a, none⟩ (.slice (some ⟨bk, 0, none⟩) (n + 1) ck))) := HB.out.setCell (p := ⟨g, a, none⟩) HGB.out _
              have hcs : (¬ (a : Int) < (n : Int) - 1) ∨ ((a : Int) < (n : Int) - 1) := by omega
              have HPN : Hid (∃ p, p = M a k) := ⟨_, rfl⟩
              clear hp hVk hbk hnegk hput hrow HCA HBA
              rcases hcs with hcs | hcs
              all_goals
                go_wp2
                clear hck hpb hgk hga hfr hck2 hcs
                generalize W1.setCell ⟨g, a, none⟩ (.slice (some ⟨bk, 0, none⟩) (n + 1) ck) = W2 at HM2 HR2 HB2 ⊢
                go_loopw [14, 15] (fun v14 v15 wv => ∃ j : Nat, j ≤ n + 1 ∧ v15 = .int .i64 j ∧ wv.ownsRow W2.heap.size 3 1 v14 j (cellsOf (fl j (oneOf M a k))) ∧ Below W2.heap.size W2 wv) (fun _ i _ => n + 1 - (intOf i).toNat)
                case atStart => exact ⟨0, Nat.zero_le _, rfl, World.ownsRow_nil _ _ _ _, Below.refl _ _⟩
                case round =>
                  obtain ⟨j, hj, rfl, hown, hb1⟩ := hrel
                  have HO : Hid (wr.ownsRow W2.heap.size 3 1 u14 j (cellsOf (fl j (oneOf M a k)))) := hown
                  have HB1 : Hid (Below W2.heap.size W2 wr) := hb1
                  clear hown hb1
                  by_cases hjl : j < n + 1
                  · have hj' : (j : Int) ≤ (n : Int) := by omega
                    have hj2 : (j : Int) < ((n + 1 : Nat) : Int) := by omega
                    have h1 : wr.cell? ⟨ba, j, none⟩ = some (.int .i64 (M a j : Int)) := own_num (own_later HR2.out HB1.out) hjl
                    have HS : Hid (cellsOf (fl j (oneOf M a k)) ++ [.int .i64 (gm (M a j) (gpow (M a k) 254) : Int)] = cellsOf (fl (j + 1) (oneOf M a k))) := cells_succ j (oneOf M a k)
                    go_wp2_with fail
                    refine (rdiv_any (M a j) (M a k) wr (HE.out.bytes a j) (HE.out.bytes a k) HP.out).mono ?_
                    rintro e w' ⟨rfl, rfl⟩
                    generalize gm (M a j) (gpow (M a k) 254) = z at HS ⊢
                    go_wp2_with (at_builtin; refine wpList_append_own _ rfl (.tmp 102) (.tmp 109) 22 rfl W2.heap.size 3 t3 (.int .i64 0) 1 8 Tryd.underlying22 ht3 y30 y31 y32 rfl (by decide) u14 j (cellsOf (fl j (oneOf M a k))) rfl (HO.out.alloc _) ⟨wr.heap.size, 0, none⟩ 1 1 [.int .i64 (z : Int)] rfl rfl (news_one wr _ 3) (ones_int _) ?q1 ?q2 ?q3 ?q4)
                    case q1 => unfold maxLen; omega
                    case q2 => omega
                    case q3 => have := HB1.out.size; simp; omega
                    case q4 =>
                      intro v1 w1 hown hgr _
                      rw [HS.out] at hown
                      have HO1 : Hid (w1.ownsRow W2.heap.size 3 1 v1 (j + 1) (cellsOf (fl (j + 1) (oneOf M a k)))) := hown
                      have HB3 : Hid (Below W2.heap.size W2 w1) := (HB1.out.alloc HB1.out.size _).grown hgr (by have := HB1.out.size; simp; omega) (fun k e => (HO.out.lt k e).1)
                      clear hown hgr h1
                      go_wp2
                      go_roundw
                      case rel => exact ⟨j + 1, by omega, by go_num, HO1.out, HB3.out⟩
                      case measure => simp [intOf]; omega
                  · have hjn : j = n + 1 := by omega
                    subst hjn
                    have hj' : ¬ ((n + 1 : Nat) : Int) ≤ (n : Int) := by omega
                    obtain ⟨g1, c1, hu, _, _⟩ := own_where HO.out (by omega)
                    subst hu
                    have HM3 := HM2.out.later HB1.out
                    have hone := own_base HO.out (Nat.le_trans HB2.out.size (Nat.le_refl _))
                    have hfr : wr.frozen? ⟨g, k, none⟩ = false := HM3.outer.frozenAt k
                    obtain ⟨_, _, _, _, _, hgk, _⟩ := HM3.read hkl
                    have HM4 : Hid (Mat (wr.setCell ⟨g, k, none⟩ (.slice (some ⟨g1, 0, none⟩) (n + 1) c1)) w.heap.size n n (.slice (some ⟨g, 0, none⟩) n c6) (upd (upd V1 a (.slice (some ⟨bk, 0, none⟩) (n + 1) ck)) k (.slice (some ⟨g1, 0, none⟩) (n + 1) c1)) (M2 M a k)) := (HM3.put (k := k) hone).1
                    have HB4 : Hid (Below w.heap.size w (wr.setCell ⟨g, k, none⟩ (.slice (some ⟨g1, 0, none⟩) (n + 1) c1))) := (Below.next HB2.out HB1.out).setCell (p := ⟨g, k, none⟩) HGB.out _
                    clear HM3 hone
                    go_wp2
                    clear hfr hgk hj'
                    generalize wr.setCell ⟨g, k, none⟩ (.slice (some ⟨g1, 0, none⟩) (n + 1) c1) = W3 at HM4 HB4 ⊢
                    go_loopw [16] (fun v16 wv => ∃ r : Nat, r ≤ n ∧ v16 = .int .i64 r ∧ ∃ V : Nat → Value, Mat wv w.heap.size n n (.slice (some ⟨g, 0, none⟩) n c6) V (M3 M a k r) ∧ V k = .slice (some ⟨g1, 0, none⟩) (n + 1) c1 ∧ Below w.heap.size w wv) (fun i _ => n - (intOf i).toNat)
                    case atStart =>
                      exact ⟨0, Nat.zero_le _, rfl, _, HM4.out.congr (fun _ _ => rfl) (fun i _ q _ => by unfold M3; rw [if_neg (by omega)]), upd_at _ _ _, HB4.out⟩
                    case round =>
                      obtain ⟨r, hr, rfl, V3, hmat, hV3, hbel⟩ := hrel
                      rename World => W4
                      have HM5 : Hid (Mat W4 w.heap.size n n (.slice (some ⟨g, 0, none⟩) n c6) V3 (M3 M a k r)) := hmat
                      have HV3 : Hid (V3 k = .slice (some ⟨g1, 0, none⟩) (n + 1) c1) := hV3
                      have HB5 : Hid (Below w.heap.size w W4) := hbel
                      clear hmat hV3 hbel
                      by_cases hrl : r < n
                      · have hr' : (r : Int) < (n : Int) := by omega
                        obtain ⟨br, cr, hVr, hbr, hnegr, hgr0, hcr⟩ := HM5.out.read hrl
                        rw [M3_here] at hcr
                        have HCR : Hid (∀ q, q < n + 1 → W4.cell? ⟨br, q, none⟩ = some (.int .i64 (M2 M a k r q : Int))) := hcr
                        have hck := hcr k (by omega)
                        clear hVr hcr hnegr
                        by_cases hrk : r = k
                        · have hrb : ((r : Int) != (k : Int)) = false := by simp [hrk]
                          have HM6 : Hid (Mat W4 w.heap.size n n (.slice (some ⟨g, 0, none⟩) n c6) V3 (M3 M a k (r + 1))) := HM5.out.congr (fun _ _ => rfl) (fun i _ q _ => M3_same (.inl hrk) i q)
                          clear hrk hck
                          go_wp2
                          go_roundw
                          case rel => exact ⟨r + 1, by omega, by go_num, V3, HM6.out, HV3.out, HB5.out⟩
                          case measure => simp [intOf]; omega
                        · have hrb : ((r : Int) != (k : Int)) = true := by simp; omega
                          have HRK : Hid (r ≠ k) := hrk
                          by_cases hz : M2 M a k r k = 0
                          · have HM6 : Hid (Mat W4 w.heap.size n n (.slice (some ⟨g, 0, none⟩) n c6) V3 (M3 M a k (r + 1))) := HM5.out.congr (fun _ _ => rfl) (fun i _ q _ => M3_same (.inr hz) i q)
                            rw [hz] at hck
                            clear hrk hz
                            go_wp2
                            go_roundw
                            case rel => exact ⟨r + 1, by omega, by go_num, V3, HM6.out, HV3.out, HB5.out⟩
                            case measure => simp [intOf]; omega
                          · have hzb : ((M2 M a k r k : Int) != 0) = true := by simp; omega
                            have hin := HM5.out.inner k hkl
                            rw [HV3.out, M3_pivot] at hin
                            have HONE : Hid (W4.ownsRow w.heap.size 3 1 (.slice (some ⟨g1, 0, none⟩) (n + 1) c1) (n + 1) (cellsOf (fl (n + 1) (oneOf M a k)))) := hin
                            have lg : g < W4.heap.size := (HM5.out.outer.lt g rfl).2
                            have lr : br < W4.heap.size := hbr
                            have l1 : g1 < W4.heap.size := (hin.lt g1 rfl).2
                            have HGR : Hid (W4.cell? ⟨g, r, none⟩ = some (.slice (some ⟨br, 0, none⟩) (n + 1) cr)) := hgr0
                            clear hrk hz hin hbr
                            go_wp2
                            clear hck hgr0 hzb hrb
                            go_loopw [17, 18] (fun v17 v18 wv => ∃ j : Nat, j ≤ n + 1 ∧ v18 = .int .i64 j ∧ wv.ownsRow W4.heap.size 3 1 v17 j (cellsOf (fl j (nextOf M a k r))) ∧ Below W4.heap.size W4 wv) (fun _ i _ => n + 1 - (intOf i).toNat)
                            case atStart => exact ⟨0, Nat.zero_le _, rfl, World.ownsRow_nil _ _ _ _, Below.refl _ _⟩
                            case round =>
                              obtain ⟨j, hj, rfl, hown, hb1⟩ := hrel
                              have HO : Hid (wr.ownsRow W4.heap.size 3 1 u17 j (cellsOf (fl j (nextOf M a k r)))) := hown
                              have HB6 : Hid (Below W4.heap.size W4 wr) := hb1
                              clear hown hb1
                              by_cases hjl : j < n + 1
                              · have hj' : (j : Int) ≤ (n : Int) := by omega
                                have hj2 : (j : Int) < ((n + 1 : Nat) : Int) := by omega
                                have hk2 : (k : Int) < (n : Int) + 1 := by omega
                                have hj3 : (j : Int) < (n : Int) + 1 := by omega
                                have hj0 : (0 : Int) ≤ (j : Int) := Int.natCast_nonneg _
                                have hk0 : (0 : Int) ≤ (k : Int) := Int.natCast_nonneg _
                                have hr0 : (0 : Int) ≤ (r : Int) := Int.natCast_nonneg _
                                have h1 : wr.cell? ⟨g, r, none⟩ = some (.slice (some ⟨br, 0, none⟩) (n + 1) cr) := by rw [HB6.out.cell (p := ⟨g, r, none⟩) lg]; exact HGR.out
                                have h2 : wr.cell? ⟨br, j, none⟩ = some (.int .i64 (M2 M a k r j : Int)) := by rw [HB6.out.cell (p := ⟨br, j, none⟩) lr]; exact HCR.out j hjl
                                have h3 : wr.cell? ⟨g1, j, none⟩ = some (.int .i64 (oneOf M a k j : Int)) := own_num (own_later HONE.out HB6.out) hjl
                                have h4 : wr.cell? ⟨br, k, none⟩ = some (.int .i64 (M2 M a k r k : Int)) := by rw [HB6.out.cell (p := ⟨br, k, none⟩) lr]; exact HCR.out k (by omega)
                                have HS : Hid (cellsOf (fl j (nextOf M a k r)) ++ [.int .i64 ((M2 M a k r j ^^^ gm (oneOf M a k j) (M2 M a k r k) : Nat) : Int)] = cellsOf (fl (j + 1) (nextOf M a k r))) := cells_succ j (nextOf M a k r)
                                have bp : M2 M a k r j < 256 := M2_byte HE.out r j
                                have bo : oneOf M a k j < 256 := one_byte HE.out j
                                have bs : M2 M a k r k < 256 := M2_byte HE.out r k
                                generalize M2 M a k r j = p at h2 bp HS
                                generalize oneOf M a k j = o at h3 bo HS
                                generalize M2 M a k r k = s at h4 bs HS
                                have bm : gm o s < 256 := gm_byte bo bs
                                have hle := HB6.out.size
                                go_wp2_with fail
                                go_region_held3 (fun w' => w'.cell? ⟨g, r, none⟩ = some (.slice (some ⟨br, 0, none⟩) (n + 1) cr) ∧ w'.cell? ⟨br, j, none⟩ = some (.int .i64 (p : Int)) ∧ w'.cell? ⟨g1, j, none⟩ = some (.int .i64 (o : Int)) ∧ w'.cell? ⟨br, k, none⟩ = some (.int .i64 (s : Int)))
                                  (first
                                    | go_keep
                                    | (go_split_ands
                                       refine ⟨?_, ?_, ?_, ?_⟩
                                       · (rw [grown_cell hgr lg (by simp; omega) (fun k e => (HO.out.lt k e).1)]; assumption)
                                       · (rw [grown_cell hgr lr (by simp; omega) (fun k e => (HO.out.lt k e).1)]; assumption)
                                       · (rw [grown_cell hgr l1 (by simp; omega) (fun k e => (HO.out.lt k e).1)]; assumption)
                                       · (rw [grown_cell hgr lr (by simp; omega) (fun k e => (HO.out.lt k e).1)]; assumption)))
                                  (first
                                    | (refine step_append_own (by rfl) (.tmp 138) (.tmp 159) 22 (by rfl) W4.heap.size 3 t3 (.int .i64 0) 1 8 Tryd.underlying22 ht3 y30 y31 y32 rfl (by decide) u17 j (cellsOf (fl j (nextOf M a k r))) (by rfl) ((HO.out.alloc _).drew) ⟨wr.heap.size, 0, none⟩ 1 1 [.int .i64 ((p ^^^ gm o s : Nat) : Int)] (by rfl) rfl (news_one wr _ 3) (ones_int _) (by unfold maxLen; omega) (by omega) (Nat.le_trans hle (by simp)) ?_; intro v' w' hown hgr)
                                    | (go_at_call 29; refine (rmul_any o s _ bo bs).mono ?_; rintro e w' ⟨rfl, rfl⟩)
                                    | (go_at_call 28; refine (rxor_any p (gm o s) _ (by omega) (by omega)).mono ?_; rintro e w' ⟨rfl, rfl⟩))
                                have HO1 : Hid (w'.ownsRow W4.heap.size 3 1 v' (j + 1) (cellsOf (fl (j + 1) (nextOf M a k r)))) := by rw [HS.out] at hown; exact hown
                                have HB8 : Hid (Below W4.heap.size W4 w') := (HB6.out.alloc hle _).drew.grown hgr (by simp; omega) (fun k e => (HO.out.lt k e).1)
                                clear hown hgr h1 h2 h3 h4
                                go_wp2
                                go_roundw
                                case rel => exact ⟨j + 1, by omega, by go_num, HO1.out, HB8.out⟩
                                case measure => simp [intOf]; omega
                              · have hjn : j = n + 1 := by omega
                                subst hjn
                                have hj' : ¬ ((n + 1 : Nat) : Int) ≤ (n : Int) := by omega
                                obtain ⟨g7, c7, hu, _, _⟩ := own_where HO.out (by omega)
                                subst hu
                                have HM6 := HM5.out.later HB6.out
                                have hnx := own_base HO.out (Nat.le_trans HB5.out.size (Nat.le_refl _))
                                have hfr : wr.frozen? ⟨g, r, none⟩ = false := HM6.outer.frozenAt r
                                have hgr7 : wr.cell? ⟨g, r, none⟩ = some (.slice (some ⟨br, 0, none⟩) (n + 1) cr) := by rw [HB6.out.cell (p := ⟨g, r, none⟩) lg]; exact HGR.out
                                have HM7 : Hid (Mat (wr.setCell ⟨g, r, none⟩ (.slice (some ⟨g7, 0, none⟩) (n + 1) c7)) w.heap.size n n (.slice (some ⟨g, 0, none⟩) n c6) (upd V3 r (.slice (some ⟨g7, 0, none⟩) (n + 1) c7)) (M3 M a k (r + 1))) := (HM6.put (k := r) hnx).1.congr (fun _ _ => rfl) (fun i _ q _ => M3_upd HRK.out i q)
                                have HV7 : Hid (upd V3 r (.slice (some ⟨g7, 0, none⟩) (n + 1) c7) k = .slice (some ⟨g1, 0, none⟩) (n + 1) c1) := (upd_else _ _ (fun e => HRK.out e.symm)).trans HV3.out
                                have HB7 : Hid (Below w.heap.size w (wr.setCell ⟨g, r, none⟩ (.slice (some ⟨g7, 0, none⟩) (n + 1) c7))) := (Below.next HB5.out HB6.out).setCell (p := ⟨g, r, none⟩) HGB.out _
                                clear HM6 hnx
                                go_wp2
                                go_roundw
                                case rel => exact ⟨r + 1, by omega, by go_num, _, HM7.out, HV7.out, HB7.out⟩
                                case measure => simp [intOf]; omega
                      · have hrn : n = r := by omega
                        have HEn : Hid (Elim n (k + 1) X Y (M3 M a k n)) := elim_step HE.out hkl hka han HP.out
                        have HMn : Hid (Mat W4 w.heap.size n n (.slice (some ⟨g, 0, none⟩) n c6) V3 (M3 M a k n)) := by rw [hrn]; rw [hrn] at HM5; exact HM5.out
                        have hr' : ¬ (r : Int) < (n : Int) := by omega
                        clear hrn
                        go_wp2
                        go_roundw
                        case rel => exact ⟨k + 1, by omega, by go_num, V3, _, HMn.out, HEn.out, HB5.out⟩
                        case measure => simp [intOf]; omega
        · have hkn : n = k := by omega
          subst hkn
          have hii' : ¬ (n : Int) < (n : Int) := by omega
          have HT : Hid (Thru n X Y (fun i => if i < n then M i n else 0)) := elim_end HE.out HX.out HY.out
          go_wp2
          go_loopw [19, 20] (fun v19 v20 wv => ∃ i : Nat, i ≤ n ∧ v20 = .int .i64 i ∧ wv.ownsRow W1.heap.size 3 1 v19 i (cellsOf (fl i (fun i => if i < n then M i n else 0))) ∧ Below W1.heap.size W1 wv) (fun _ i _ => n - (intOf i).toNat)
          case atStart => exact ⟨0, Nat.zero_le _, rfl, World.ownsRow_nil _ _ _ _, Below.refl _ _⟩
          case round =>
            obtain ⟨i, hi, rfl, hown, hb1⟩ := hrel
            have HO : Hid (wr.ownsRow W1.heap.size 3 1 u19 i (cellsOf (fl i (fun i => if i < n then M i n else 0)))) := hown
            have HB1 : Hid (Below W1.heap.size W1 wr) := hb1
            clear hown hb1
            by_cases hil : i < n
            · have hi' : (i : Int) < (n : Int) := by omega
              obtain ⟨b, c, _, _, _, h1, h2⟩ := (HM.out.later HB1.out).read hil
              have h3 := h2 n (by omega)
              have hn2 : (n : Int) < ((n + 1 : Nat) : Int) := by omega
              have HS : Hid (cellsOf (fl i (fun i => if i < n then M i n else 0)) ++ [.int .i64 (M i n : Int)] = cellsOf (fl (i + 1) (fun i => if i < n then M i n else 0))) := by
                show cellsOf (fl i (fun i => if i < n then M i n else 0)) ++ [.int .i64 (M i n : Int)] = cellsOf (fl (i + 1) (fun i => if i < n then M i n else 0))
                rw [← cells_succ, if_pos hil]
              clear h2
              generalize M i n = z at h3 HS
              go_wp2_with (at_builtin; refine wpList_append_own _ rfl (.tmp 170) (.tmp 178) 22 rfl W1.heap.size 3 t3 (.int .i64 0) 1 8 Tryd.underlying22 ht3 y30 y31 y32 rfl (by decide) u19 i (cellsOf (fl i (fun i => if i < n then M i n else 0))) rfl (HO.out.alloc _) ⟨wr.heap.size, 0, none⟩ 1 1 [.int .i64 (z : Int)] rfl rfl (news_one wr _ 3) (ones_int _) ?q1 ?q2 ?q3 ?q4)
              case q1 => unfold maxLen; omega
              case q2 => omega
              case q3 => have := HB1.out.size; simp; omega
              case q4 =>
                intro v1 w1 hown hgr _
                rw [HS.out] at hown
                have HO1 : Hid (w1.ownsRow W1.heap.size 3 1 v1 (i + 1) (cellsOf (fl (i + 1) (fun i => if i < n then M i n else 0)))) := hown
                have HB2 : Hid (Below W1.heap.size W1 w1) := (HB1.out.alloc HB1.out.size _).grown hgr (by have := HB1.out.size; simp; omega) (fun k e => (HO.out.lt k e).1)
                clear hown hgr h1 h3
                go_wp2
                go_roundw
                case rel => exact ⟨i + 1, by omega, by go_num, HO1.out, HB2.out⟩
                case measure => simp [intOf]; omega
            · have hin : n = i := by omega
              subst hin
              obtain ⟨g9, c9, hu, _, hg9⟩ := own_where HO.out (by omega)
              subst hu
              have HS9 : Hid (SliceIs wr (.slice (some ⟨g9, 0, none⟩) n c9) (fl n (fun i => if i < n then M i n else 0))) := slice_owned HO.out (by unfold maxLen; omega) hg9
              have HB9 : Hid (Below w.heap.size w wr) := Below.next HB.out HB1.out
              clear hg9
              go_wp2
              go_ret
              exact ⟨_, _, rfl, HT.out, HS9.out, HB9.out⟩

end Go.Proofs.YtebjefgdjfjndaaDoor
