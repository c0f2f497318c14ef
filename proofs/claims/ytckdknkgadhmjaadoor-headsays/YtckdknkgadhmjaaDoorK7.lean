/- This text proves what the document's own Rising (package platterholdref1) answers: the same numbers, rising; the new list lies in memory of the call's own and all old memory is as it was; the conditions: the slice lies there and holds at most 1000 numbers. -/
import Derived.Test.YtckdknkgadhmjaaDoorK6
namespace Go.Proofs.YtckdknkgadhmjaaDoor
open Go.RowKit Go.Deep

/-- The first of a number, by its place. -/
theorem erase_at : ∀ (xs : List Int) (k : Nat), k < xs.length → (∀ j, j < k → nth xs j ≠ nth xs k) → xs.erase (nth xs k) = xs.eraseIdx k
  | [], k, h, _ => by simp at h
  | x :: xs, 0, _, _ => by show (x :: xs).erase x = xs; simp
  | x :: xs, k + 1, h, hf => by
    have h0 : x ≠ nth xs k := hf 0 (by omega)
    show (x :: xs).erase (nth xs k) = x :: xs.eraseIdx k
    rw [List.erase_cons_tail (by simpa using h0), erase_at xs k (by simpa using h) (fun j hj => hf (j + 1) (by omega))]

theorem SliceIs.kept {w w' : World} {v : Value} {xs : List Int} {row : Option Nat} (h : SliceIs w v xs) (hg : w.grownBy w' row) (hne : ∀ g, v.ownBlock = some g → row ≠ some g) : SliceIs w' v xs := by
  obtain ⟨a, c, rfl, hl, hi⟩ := h
  refine ⟨a, c, rfl, hl, fun hx => ?_⟩
  obtain ⟨b, o, rfl, hb, hc⟩ := hi hx
  refine ⟨b, o, rfl, Nat.lt_of_lt_of_le hb hg.size, fun i hi => ?_⟩
  rw [hg.cell_far ⟨b, o + i, none⟩ hb (fun e => hne b rfl e.symm)]
  exact hc i hi

theorem own_later {w w' : World} {B e n : Nat} {v : Value} {vs : List Value} (h : w.ownsRow B e 1 v n vs) (hb : Below w.heap.size w w') : w'.ownsRow B e 1 v n vs := by
  refine ⟨h.1, ?_⟩
  rcases h.2 with h0 | ⟨g, cap, cur, h1, h2, h3, h4⟩
  · exact .inl h0
  · exact .inr ⟨g, cap, cur, h1, h2, (hb.block _ (Array.getElem?_eq_some_iff.1 h3).1).trans h3, h4⟩

/-- The state ahead of a round that takes the next one out of a list. -/
structure RsSt (S : Int → Int → Int → Bool) (L : List Int) (n B : Nat) (w0 : World) (v0 v3 : Value) (p : Int) (ys zs : List Int) (wr : World) : Prop where
  sl : SliceIs wr v0 ys
  out : wr.ownsRow B 3 1 v3 zs.length (cellsOf zs)
  apart : ∀ g, v0.ownBlock = some g → v3.ownBlock ≠ some g
  len : zs.length + ys.length = n
  ord : zs ++ ord S ys.length p ys = L
  below : Below B w0 wr

theorem RsSt.keep {S : Int → Int → Int → Bool} {L : List Int} {n B : Nat} {w0 wr W1 : World} {v0 v3 : Value} {p : Int} {ys zs : List Int} {q : Nat} {o : Obj}
    (h : RsSt S L n B w0 v0 v3 p ys zs wr) (h2 : ((wr.drewN q).alloc o).grownBy W1 v3.ownBlock) : SliceIs W1 v0 ys :=
  ((h.sl.later (below_drew wr _ q)).later (below_alloc _ o)).kept h2 h.apart

theorem RsSt.step {S : Int → Int → Int → Bool} {L : List Int} {n B m z : Nat} {w0 wr W1 W2 : World} {v0 v0' v3 : Value} {p t : Int} {ys zs : List Int} {g2 c2 k q : Nat} {o : Obj}
    (h : RsSt S L n B w0 v0 v3 p ys zs wr) (hS : Total (S p)) (hm : m = ys.length) (hz : z = zs.length) (hm0 : 0 < m) (hk : k = pickN (S p) ys m) (ht : t = nth ys k) (hB : B ≤ wr.heap.size) (h20 : n ≤ 1000)
    (h1 : W1.ownsRow B 3 1 (.slice (some ⟨g2, 0, none⟩) (z + 1) c2) (z + 1) (cellsOf (zs ++ [t]))) (h2 : ((wr.drewN q).alloc o).grownBy W1 v3.ownBlock) (h3 : g2 < W1.heap.size)
    (h5 : W2.ownsRow W1.heap.size 3 1 v0' (ys.erase t).length (cellsOf (ys.erase t))) (h6 : Below W1.heap.size W1 W2) :
    RsSt S L n B w0 v0' (.slice (some ⟨g2, 0, none⟩) (z + 1) c2) t (ys.eraseIdx k) (zs ++ [t]) W2 := by
  subst hm hz ht
  have hkl : k < ys.length := by rw [hk]; exact pickN_lt _ _ _ _ (by omega) (Nat.le_refl _)
  obtain ⟨m, hm⟩ : ∃ m, ys.length = m + 1 := ⟨ys.length - 1, by omega⟩
  have e1 : (ys.eraseIdx k).length = ys.length - 1 := by rw [erase_len hkl hm]; omega
  have e2 : (zs ++ [nth ys k]).length = zs.length + 1 := by simp
  have e3 : ys.erase (nth ys k) = ys.eraseIdx k := erase_at ys k hkl (fun j hj => by rw [hk] at hj ⊢; exact pickN_first hS ys ys.length j hj)
  rw [e3] at h5
  have eo : Go.Proofs.YtckdknkgadhmjaaDoor.ord S ys.length p ys = nth ys k :: Go.Proofs.YtckdknkgadhmjaaDoor.ord S (ys.eraseIdx k).length (nth ys k) (ys.eraseIdx k) := by
    rw [e1, hm, show m + 1 - 1 = m by omega, Go.Proofs.YtckdknkgadhmjaaDoor.ord, ← hk]
  have hl := h.len
  refine ⟨slice_own h5 (by rw [e1]; unfold maxLen; omega), by rw [e2]; exact own_later h1 h6, fun g e => ?_, by rw [e1, e2]; omega, ?_, ?_⟩
  · have := (h5.lt g e).1
    intro e'
    have : g2 = g := by simpa [Value.ownBlock] using e'
    omega
  · have := h.ord
    rw [eo] at this
    rw [← this]
    simp
  · have b1 : Below B wr ((wr.drewN q).alloc o) := (show Below B wr (wr.drewN q) from below_drew _ _ _).trans ((Below.refl B (wr.drewN q)).alloc hB o)
    have b2 : Below B ((wr.drewN q).alloc o) W1 := (Below.refl _ _).grown h2 (Nat.le_trans hB (by simp [World.drewN])) (fun k e => (h.out.lt k e).1)
    exact ((h.below.trans b1).trans b2).trans (h6.mono (Nat.le_trans hB (Nat.le_trans (by simp [World.drewN]) h2.size)))

set_option maxHeartbeats 4000000 in
set_option maxRecDepth 100000 in
theorem rising_any (w : World) (v : Value) (xs : List Int) (hx : SliceIs w v xs) (hn : xs.length ≤ 1000) :
    Calls Tryd.prog 20 #[v] w fun e w' => ∃ v', e = .returned v' ∧ w'.ownsRow w.heap.size 3 1 v' (rise xs).length (cellsOf (rise xs)) ∧ Below w.heap.size w w' := by
  have H0 : Hid (RsSt (fun _ => ltI) (rise xs) xs.length w.heap.size w v (.slice none 0 0) 0 xs [] w) :=
    ⟨hx, World.ownsRow_nil _ _ _ _, (fun g e h => by cases h), by simp, rfl, Below.refl _ _⟩
  generalize rise xs = L at H0 ⊢
  generalize xs.length = n at H0 hn
  clear hx
  go_enter Tryd.func20, Tryd.ntmps20
  go_wp2
  go_loopw [0, 3] (fun v0 v3 wr => ∃ (p : Int) (ys zs : List Int), RsSt (fun _ => ltI) L n w.heap.size w v0 v3 p ys zs wr) (fun v0 _ _ => slen v0)
  case atStart => exact ⟨0, xs, [], H0.out⟩
  case round =>
    obtain ⟨p, ys, zs, hst⟩ := hrel
    rename_i wr _
    have ST : Hid (RsSt (fun _ => ltI) L n w.heap.size w u0 u3 p ys zs wr) := hst
    obtain ⟨a, c, b, o, hv0, _, ha, hc⟩ := hst.sl.where
    have hlen := hst.len
    obtain ⟨m, hm⟩ : ∃ m, m = ys.length := ⟨_, rfl⟩
    have HM : Hid (m = ys.length) := hm
    obtain ⟨z, hz⟩ : ∃ z, z = zs.length := ⟨_, rfl⟩
    have HZL : Hid (z = zs.length) := hz
    rw [← hm] at hlen hv0 ha hc
    rw [← hz] at hlen
    have HC : Hid (∀ i, i < m → wr.cell? ⟨b, o + i, none⟩ = some (.int .i64 (nth ys i))) := hc
    have HBB : Hid (Below w.heap.size w wr) := hst.below
    clear hm hz hc
    subst hv0
    by_cases h0 : m = 0
    · have HL : Hid (zs = L) := by
        have h1 := hst.ord
        have h2 : ys = [] := List.length_eq_zero_iff.1 (by rw [← HM.out]; exact h0)
        rw [h2] at h1
        show zs = L
        rw [← h1]
        exact (List.append_nil zs).symm
      have HO : Hid _ := hst.out
      clear hst
      subst h0
      go_wp2
      go_ret
      exact ⟨_, rfl, by rw [← HL.out]; exact HO.out, HBB.out⟩
    · clear hst
      have hmp : 0 < m := by omega
      have hmi : (0 : Int) < (m : Int) := by omega
      obtain rfl := ha hmp
      have hc0 := HC.out 0 hmp
      rw [Nat.add_zero] at hc0
      clear ha
      go_wp2
      go_loop [4, 5] (fun v4 v5 => ∃ k : Nat, k ≤ m ∧ v5 = .int .i64 k ∧ v4 = .int .i64 (nth ys (pickN ltI ys k))) (fun _ i => m - (intOf i).toNat)
      case atStart => exact ⟨0, Nat.zero_le _, rfl, rfl⟩
      case round =>
        obtain ⟨k, hk, rfl, rfl⟩ := hrel
        by_cases hlt : k < m
        · have hck := HC.out k hlt
          have hki : (k : Int) < (m : Int) := by omega
          have HP : Hid (pickN ltI ys (k + 1) = if ltI (nth ys k) (nth ys (pickN ltI ys k)) = true then k else pickN ltI ys k) := rfl
          generalize hu : nth ys (pickN ltI ys k) = u at *
          have HU : Hid (nth ys (pickN ltI ys k) = u) := hu
          clear hu
          by_cases h1 : nth ys k < u
          · have HB2 : Hid (ltI (nth ys k) u = true) := decide_eq_true h1
            go_wp2
            go_round
            case rel => exact ⟨k + 1, by omega, by go_num, by rw [HP.out, if_pos HB2.out]⟩
            case measure => simp [intOf]; omega
          · have HB2 : Hid (¬ ltI (nth ys k) u = true) := by show ¬ ltI (nth ys k) u = true; simpa [ltI] using h1
            go_wp2
            go_round
            case rel => exact ⟨k + 1, by omega, by go_num, by rw [HP.out, if_neg HB2.out, HU.out]⟩
            case measure => simp [intOf]; omega
        · have hkm : k = m := by omega
          subst hkm
          obtain ⟨u, hu⟩ : ∃ u, u = pickN ltI ys k := ⟨_, rfl⟩
          rw [← hu]
          have HU : Hid (u = pickN ltI ys k) := hu
          obtain ⟨t, ht⟩ : ∃ t, t = nth ys u := ⟨_, rfl⟩
          rw [← ht]
          have HTT : Hid (t = nth ys u) := ht
          clear hu ht
          have HO : Hid ((wr.alloc (.cells #[.int .i64 t] 3)).ownsRow w.heap.size 3 1 u3 z (cellsOf zs)) := by
            have := World.ownsRow.alloc ST.out.out (.cells #[.int .i64 t] 3)
            rw [← HZL.out] at this
            exact this
          have HY : Hid (SliceIs (wr.alloc (.cells #[.int .i64 t] 3)) (.slice (some ⟨wr.heap.size, 0, none⟩) 1 1) [t]) := ints_lit wr [t] (show 1 ≤ maxLen by decide) 1
          have HS0 : Hid (w.heap.size ≤ (wr.alloc (.cells #[.int .i64 t] 3)).heap.size) := Nat.le_trans HBB.out.size (by simp)
          have hz20 : z ≤ 1000000 := by omega
          go_wp2_with (at_builtin; refine wpList_append_lie rfl (.tmp 28) (.tmp 30) rfl w.heap.size u3 z zs rfl HO.out _ t rfl HY.out hz20 HS0.out ?q1)
          case q1 =>
            intro g2 c2 W1 h1 h2 _ h3
            have H1 : Hid _ := h1
            have H2 : Hid _ := h2
            have H3 : Hid _ := h3
            have HK : Hid _ := RsSt.keep (q := 0) ST.out h2
            clear h1 h2 h3
            go_wp2_with fail
            refine (without_any W1 _ ys t HK.out (by rw [← HM.out]; omega)).mono ?_
            rintro e W2 ⟨v0', rfl, h5, h6⟩
            have H5 : Hid _ := RsSt.step (q := 0) ST.out ltI_total HM.out HZL.out hmp HU.out HTT.out HBB.out.size hn H1.out H2.out H3.out h5 h6
            obtain ⟨a', c', rfl⟩ := own_form h5
            have HV : Hid ((ys.erase t).length < k) := by
              have h7 := nth_mem (show u < ys.length by rw [← HM.out, HU.out]; exact pickN_lt _ _ _ _ hmp (Nat.le_refl _))
              have h8 := List.length_erase_of_mem h7
              rw [← HTT.out, ← HM.out] at h8
              show (ys.erase t).length < k
              omega
            clear h5 h6
            go_wp2
            go_roundw
            case rel => exact ⟨_, _, _, H5.out⟩
            case measure => simp [slen]; exact HV.out

end Go.Proofs.YtckdknkgadhmjaaDoor
