/- This text proves what head.serve returns, whatever order it is handed: how far the head goes and the order in which all requests come; all old memory is as it was; the conditions: the slice lies there, nothing is wrong with it, and the order handed in answers and writes nothing. -/
import Derived.Test.YtckdknkgadhmjaaDoorK2
import Derived.Test.YtckdknkgadhmjaaDoorKt
import Derived.Test.YtckdknkgadhmjaaDoorKs
import Derived.Test.YtckdknkgadhmjaaDoorKf
namespace Go.Proofs.YtckdknkgadhmjaaDoor
open Go.RowKit Go.Deep

/-- The state ahead of a round of serve. -/
structure SvSt (S : Int → Int → Int → Bool) (L : List Int) (D : Int) (n B : Nat) (w0 : World) (v10 v11 : Value) (F p : Int) (ys zs : List Int) (wr : World) : Prop where
  left : wr.ownsRow B 3 1 v10 ys.length (cellsOf ys)
  order : wr.ownsRow B 3 1 v11 zs.length (cellsOf zs)
  apart : ∀ g, v10.ownBlock = some g → v11.ownBlock ≠ some g
  here : 0 ≤ p ∧ p ≤ 99
  all : ∀ x ∈ ys, 0 ≤ x ∧ x ≤ 99
  far : 0 ≤ F ∧ F ≤ 99 * (zs.length : Int)
  len : zs.length + ys.length = n
  ord : zs ++ ord S ys.length p ys = L
  dist : F + farL p (Go.Proofs.YtckdknkgadhmjaaDoor.ord S ys.length p ys) = D
  below : Below B w0 wr

theorem below_of_grown {B : Nat} {w w' : World} {row : Option Nat} (hg : w.grownBy w' row) (hB : B ≤ w.heap.size) (hr : ∀ k, row = some k → B ≤ k) : Below B w w' := (Below.refl _ _).grown hg hB hr

/-- The list that is left stays when the order grows. -/
theorem SvSt.keep {S : Int → Int → Int → Bool} {L : List Int} {D : Int} {n B m : Nat} {w0 wr W1 : World} {v11 : Value} {F p : Int} {ys zs : List Int} {g c q : Nat} {o : Obj}
    (h : SvSt S L D n B w0 (.slice (some ⟨g, 0, none⟩) m c) v11 F p ys zs wr) (hm : m = ys.length) (h2 : ((wr.drewN q).alloc o).grownBy W1 v11.ownBlock) :
    W1.ownsRow B 3 1 (.slice (some ⟨g, 0, none⟩) m c) m (cellsOf ys) := by
  subst hm
  exact (World.ownsRow.alloc (show (wr.drewN q).ownsRow B 3 1 _ _ _ from h.left) o).kept h2 (.inr (h.apart g rfl).symm)

/-- One round of serve. -/
theorem SvSt.step {S : Int → Int → Int → Bool} {L : List Int} {D : Int} {n B m z : Nat} {w0 wr W1 W2 : World} {v11 : Value} {F p d t : Int} {ys zs : List Int} {g c g2 c2 q k : Nat} {o : Obj}
    (h : SvSt S L D n B w0 (.slice (some ⟨g, 0, none⟩) m c) v11 F p ys zs wr) (hm : m = ys.length) (hz : z = zs.length) (hm0 : 0 < m) (hk : k = pickN (S p) ys m) (ht : t = nth ys k) (hd : d = dst p (nth ys k)) (hB : B ≤ wr.heap.size)
    (h1 : W1.ownsRow B 3 1 (.slice (some ⟨g2, 0, none⟩) (z + 1) c2) (z + 1) (cellsOf (zs ++ [t]))) (h2 : ((wr.drewN q).alloc o).grownBy W1 v11.ownBlock)
    (h3 : v11.ownBlock = some g2 ∨ g2 = wr.heap.size + 1)
    (h5 : W2.ownsRow B 3 1 (.slice (some ⟨g, 0, none⟩) (m - 1) c) (m - 1) (cellsOf (ys.eraseIdx k))) (h6 : W1.grownBy W2 (some g)) :
    SvSt S L D n B w0 (.slice (some ⟨g, 0, none⟩) (m - 1) c) (.slice (some ⟨g2, 0, none⟩) (z + 1) c2) (F + d) t (ys.eraseIdx k) (zs ++ [t]) W2 := by
  subst hm hz ht hd
  have hkl : k < ys.length := by rw [hk]; exact pickN_lt _ _ _ _ (by omega) (Nat.le_refl _)
  obtain ⟨m, hm⟩ : ∃ m, ys.length = m + 1 := ⟨ys.length - 1, by omega⟩
  have e1 : (ys.eraseIdx k).length = ys.length - 1 := by rw [erase_len hkl hm]; omega
  have e2 : (zs ++ [nth ys k]).length = zs.length + 1 := by simp
  have ht := h.all _ (nth_mem hkl)
  have hd := dst_in h.here ht
  have hg := h.left.lt g rfl
  have hne : g2 ≠ g := by
    rcases h3 with h3 | h3
    · exact fun e => h.apart g rfl (by rw [h3, e])
    · omega
  have eo : Go.Proofs.YtckdknkgadhmjaaDoor.ord S ys.length p ys = nth ys k :: Go.Proofs.YtckdknkgadhmjaaDoor.ord S (ys.eraseIdx k).length (nth ys k) (ys.eraseIdx k) := by
    rw [e1, hm, show m + 1 - 1 = m by omega, Go.Proofs.YtckdknkgadhmjaaDoor.ord, ← hk]
  refine ⟨by rw [e1]; exact h5, by rw [e2]; exact h1.kept h6 (.inr (by simpa [Value.ownBlock] using hne)), fun g' e => ?_, ht, fun x hx => h.all x (List.mem_of_mem_eraseIdx hx), ?_, by rw [e1, e2]; have := h.len; omega, ?_, ?_, ?_⟩
  · have : g = g' := by simpa [Value.ownBlock] using e
    subst this
    simpa [Value.ownBlock] using hne
  · rw [e2]; have := h.far; omega
  · have := h.ord
    rw [eo] at this
    rw [← this]
    simp
  · have := h.dist
    rw [eo, farL] at this
    omega
  · have b1 : Below B wr ((wr.drewN q).alloc o) := (show Below B wr (wr.drewN q) from below_drew _ _ _).trans ((Below.refl B (wr.drewN q)).alloc hB o)
    have b2 : Below B ((wr.drewN q).alloc o) W1 := below_of_grown h2 (Nat.le_trans hB (by simp [World.alloc, World.drewN])) (fun k e => (h.order.lt k e).1)
    have b3 : Below B W1 W2 := below_of_grown h6 (Nat.le_trans hB (Nat.le_trans (by simp [World.alloc, World.drewN]) h2.size)) (fun k e => by cases e; exact hg.1)
    exact ((h.below.trans b1).trans b2).trans b3

set_option maxHeartbeats 8000000 in
set_option maxRecDepth 100000 in
theorem serve_ok (g : Nat) (caps : Array Value) (w0 : World) (S : Int → Int → Int → Bool) (eg : ∀ args w, (callFunc g args).run Tryd.prog w = .ok (.enter g args) w)
    (hJ : ∀ (w : World) (now a b : Int), 0 ≤ now ∧ now ≤ 99 → 0 ≤ a ∧ a ≤ 99 → 0 ≤ b ∧ b ≤ 99 → Below w0.heap.size w0 w →
      Calls Tryd.prog g (#[.int .i64 now, .int .i64 a, .int .i64 b] ++ caps) w fun x w' => x = .returned (.bool (S now a b)) ∧ ∃ q, w' = w.drewN q)
    (s : Int) (v : Value) (xs : List Int) (hx : SliceIs w0 v xs) (he : hdE s xs = 0) :
    Calls Tryd.prog 21 #[.int .i64 s, v, .func (.func g) #[] caps] w0 fun e w' => ∃ v', e = .returned (.tuple #[.int .i64 (farL s (ord S xs.length s xs)), v', .nilIface]) ∧
      w'.ownsRow w0.heap.size 3 1 v' (ord S xs.length s xs).length (cellsOf (ord S xs.length s xs)) ∧ Below w0.heap.size w0 w' := by
  have HX : Hid (SliceIs w0 v xs) := hx
  have HE : Hid (errV (hdE s xs) = .nilIface) := by show errV (hdE s xs) = .nilIface; rw [he]; rfl
  have HZ : Hid _ := hdE_zero he
  obtain ⟨h20, hs, hall⟩ := hdE_zero he
  have HJ : Hid _ := hJ
  obtain ⟨L, hL⟩ : ∃ L, L = ord S xs.length s xs := ⟨_, rfl⟩
  obtain ⟨D, hD⟩ : ∃ D, D = farL s L := ⟨_, rfl⟩
  rw [← hL, ← hD]
  have H0 : Hid (∀ v1 w1, w1.ownsRow w0.heap.size 3 1 v1 xs.length (cellsOf xs) → Below w0.heap.size w0 w1 → SvSt S L D xs.length w0.heap.size w0 v1 (.slice none 0 0) 0 s xs [] w1) := fun v1 w1 h1 h2 =>
    ⟨h1, World.ownsRow_nil _ _ _ _, (fun g e h => by cases h), hs, hall, by simp, by simp, by rw [hL]; rfl, by rw [hD, hL]; omega, h2⟩
  have HN : Hid (xs.length ≤ 1000000) := show xs.length ≤ 1000000 by omega
  generalize hn : xs.length = n at H0 h20 HN
  clear hx he hJ hL hD hall hs
  go_enter Tryd.func21, Tryd.ntmps21
  go_wp2_with fail
  refine (check_any w0 _ _ xs HX.out).mono ?_
  rintro e w' ⟨rfl, rfl⟩
  rw [HE.out]
  go_wp2_with fail
  refine (clone_any w0 _ xs HX.out (by rw [hn]; exact HN.out)).mono ?_
  rintro e w1 ⟨v1, rfl, hown, hb1⟩
  rw [hn] at hown
  have HS : Hid _ := H0.out v1 w1 hown hb1
  clear hown hb1 H0 HX HE HZ hn
  go_wp2_with fail
  go_loopw [10, 11, 12, 13] (fun v10 v11 v12 v13 wr => ∃ (F p : Int) (ys zs : List Int), v12 = .int .i64 F ∧ v13 = .int .i64 p ∧ SvSt S L D n w0.heap.size w0 v10 v11 F p ys zs wr) (fun v10 _ _ _ _ => slen v10)
  case atStart => exact ⟨0, s, xs, [], rfl, rfl, HS.out⟩
  case round =>
    obtain ⟨F, p, ys, zs, rfl, rfl, hst⟩ := hrel
    have ST : Hid (SvSt S L D n w0.heap.size w0 _ _ F p ys zs _) := hst
    obtain ⟨a10, c10, hv10⟩ := own_form hst.left
    have hlen := hst.len
    have hfar := hst.far
    have hp := hst.here
    obtain ⟨m, hm⟩ : ∃ m, m = ys.length := ⟨_, rfl⟩
    have HM : Hid (m = ys.length) := hm
    obtain ⟨z, hz⟩ : ∃ z, z = zs.length := ⟨_, rfl⟩
    rw [← hm] at hlen hv10
    rw [← hz] at hlen hfar
    have HZL : Hid (z = zs.length) := hz
    have HBB : Hid _ := hst.below
    have HBL : Hid _ := hst.all
    clear hm hz
    by_cases h0 : m = 0
    · subst hv10
      have HL : Hid (zs = L) := by
        have h1 := hst.ord
        have h2 : ys = [] := List.length_eq_zero_iff.1 (by rw [← HM.out]; exact h0)
        rw [h2] at h1
        show zs = L
        rw [← h1]
        exact (List.append_nil zs).symm
      have HD : Hid (F = D) := by
        have h1 := hst.dist
        have h2 : ys = [] := List.length_eq_zero_iff.1 (by rw [← HM.out]; exact h0)
        rw [h2] at h1
        show F = D
        rw [← h1]
        exact (Int.add_zero F).symm
      have HO : Hid _ := hst.order
      clear hst
      subst h0
      go_wp2
      go_ret3
      exact ⟨_, by rw [HD.out]; rfl, by rw [← HL.out]; exact HO.out, HBB.out⟩
    · obtain ⟨gl, cl, hvl, hgl1, hgl2⟩ := own_where hst.left (by rw [← HM.out]; omega)
      rw [hv10, ← HM.out] at hvl
      cases hvl
      subst hv10
      have hown := hst.left
      rw [← HM.out] at hown
      have HC : Hid _ := fun k (hk : k < m) => (hown.cellAt k (by omega)).trans (cellsOf_get (by rw [← HM.out]; exact hk))
      have HG : Hid (gl < _) := hgl2
      clear hst hown hgl1 hgl2
      have hm20 : m ≤ 20 := by omega
      have hmp : 0 < m := by omega
      have hmi : (0 : Int) < (m : Int) := by omega
      rename_i wr _
      go_wp2_with fail
      go_loopw [14, 32] (fun v14 v32 wv => ∃ k : Nat, k ≤ m ∧ v32 = .int .i64 k ∧ v14 = .int .i64 (pickN (S p) ys k : Int) ∧ ∃ q, wv = wr.drewN q) (fun _ i _ => m - (intOf i).toNat)
      case atStart => exact ⟨0, Nat.zero_le _, rfl, rfl, 0, rfl⟩
      case round =>
        obtain ⟨k, hk, rfl, rfl, q, rfl⟩ := hrel
        have hpk := pickN_lt (S p) ys k m hmp hk
        obtain ⟨u, hu⟩ : ∃ u, u = pickN (S p) ys k := ⟨_, rfl⟩
        rw [← hu] at hpk ⊢
        have HU : Hid (u = pickN (S p) ys k) := hu
        have hcu := HC.out u hpk
        clear hu
        by_cases hlt : k < m
        · have hck := HC.out k hlt
          have hki : (k : Int) < (m : Int) := by omega
          have hui : (u : Int) < (m : Int) := by omega
          have HJ1 : Hid _ := HJ.out (wr.drewN q) p (nth ys k) (nth ys u) hp (HBL.out _ (nth_mem (by rw [← HM.out]; exact hlt))) (HBL.out _ (nth_mem (by rw [← HM.out]; exact hpk))) (HBB.out.trans (below_drew _ _ _))
          have HP : Hid (pickN (S p) ys (k + 1) = if S p (nth ys k) (nth ys u) = true then k else u) := by show pickN (S p) ys (k + 1) = _; rw [pickN, ← HU.out]
          go_wp2_with fail
          refine Calls.mono HJ1.out ?_
          rintro e w' ⟨rfl, q2, rfl⟩
          cases hb : S p (nth ys k) (nth ys u) with
          | true =>
            have HB2 : Hid (S p (nth ys k) (nth ys u) = true) := hb
            clear hb
            go_wp2
            go_roundw
            case rel => exact ⟨k + 1, by omega, by go_num, by rw [HP.out, if_pos HB2.out], q + q2, rfl⟩
            case measure => simp [intOf]; omega
          | false =>
            have HB2 : Hid (¬ S p (nth ys k) (nth ys u) = true) := by show ¬ S p (nth ys k) (nth ys u) = true; rw [hb]; simp
            clear hb
            go_wp2
            go_roundw
            case rel => exact ⟨k + 1, by omega, by go_num, by rw [HP.out, if_neg HB2.out], q + q2, rfl⟩
            case measure => simp [intOf]; omega
        · have hkm : k = m := by omega
          subst hkm
          have HT : Hid (0 ≤ nth ys u ∧ nth ys u ≤ 99) := HBL.out _ (nth_mem (by rw [← HM.out]; exact hpk))
          have hdd := dst_in hp HT.out
          obtain ⟨d, hd⟩ : ∃ d, d = dst p (nth ys u) := ⟨_, rfl⟩
          have HDD : Hid (d = dst p (nth ys u)) := hd
          rw [← hd] at hdd
          obtain ⟨t, ht⟩ : ∃ t, t = nth ys u := ⟨_, rfl⟩
          have HTT : Hid (t = nth ys u) := ht
          rw [← ht] at hcu
          clear hd ht
          have hui : (u : Int) < (k : Int) := by omega
          have hf1 : F + d ≤ 4000 := by omega
          have hf2 : 0 ≤ F + d := by omega
          have HO : Hid (((wr.drewN q).alloc (.cells #[.int .i64 t] 3)).ownsRow w0.heap.size 3 1 u11 z (cellsOf zs)) := by
            have := World.ownsRow.alloc (show (wr.drewN q).ownsRow w0.heap.size 3 1 _ _ _ from ST.out.order) (.cells #[.int .i64 t] 3)
            rw [← HZL.out] at this
            exact this
          have HY : Hid (SliceIs ((wr.drewN q).alloc (.cells #[.int .i64 t] 3)) (.slice (some ⟨wr.heap.size, 0, none⟩) 1 1) [t]) := ints_lit (wr.drewN q) [t] (show 1 ≤ maxLen by decide) 1
          have HS0 : Hid (w0.heap.size ≤ ((wr.drewN q).alloc (.cells #[.int .i64 t] 3)).heap.size) := Nat.le_trans HBB.out.size (by simp [World.alloc, World.drewN])
          have hz20 : z ≤ 1000000 := by omega
          clear hfar
          go_wp2_with (first
            | (go_at_call 24; refine (between_any p t _ hp (by rw [HTT.out]; exact HT.out)).mono ?_; rintro e w' ⟨rfl, rfl⟩; rw [HTT.out, ← HDD.out, ← HTT.out])
            | (at_builtin; refine wpList_append_lie rfl (.tmp 56) (.tmp 58) rfl w0.heap.size u11 z zs rfl HO.out _ t rfl HY.out hz20 HS0.out ?q1))
          case q1 =>
            intro g2 c2 W1 h1 h2 h3 _
            have H1 : Hid _ := h1
            have H2 : Hid _ := h2
            have H3 : Hid _ := h3
            have HK : Hid _ := SvSt.keep ST.out HM.out h2
            clear h1 h2 h3
            go_wp2_with fail
            refine (delete_any W1 w0.heap.size gl k c10 u ys HK.out hpk _ (by omega)).mono ?_
            rintro e W2 ⟨rfl, h5, h6⟩
            have H5 : Hid _ := SvSt.step ST.out HM.out HZL.out hmp HU.out HTT.out HDD.out (HBB.out.size) H1.out H2.out H3.out h5 h6
            clear h5 h6
            go_wp2
            go_roundw
            case rel => exact ⟨_, _, _, _, by go_num, rfl, H5.out⟩
            case measure => simp [slen]; omega

end Go.Proofs.YtckdknkgadhmjaaDoor
