/- This text proves what the document's own function Way (package platterholdref1) answers: the sides of the way up from a value, the lowest cut first, in new memory; the only condition is that the slice lies there and can be cut. -/
import Derived.Test.YtfokhdoeehdegaaDoorN1
import Derived.Test.YtfokhdoeehdegaaDoorM4
import Derived.Deep.RegionLaw
namespace Go.Proofs.YtfokhdoeehdegaaDoor
open Go.RowKit Go.Deep

theorem wrap_in {x : Int} (h0 : 0 ≤ x) (h1 : x ≤ 1000) : IntKind.i64.wrap x = x := by
  unfold IntKind.wrap
  simp [IntKind.bits, IntKind.signed]
  omega

theorem own_da {w : World} {base e z n : Nat} {v : Value} {xs : List Value} (h : w.ownsRow base e z v n xs) (q : Nat) (o : Obj) : ((w.drewN q).alloc o).ownsRow base e z v n xs :=
  World.ownsRow.alloc (w := w.drewN q) h o
theorem own_le {w w1 : World} {o : Obj} (h : Below w.drew.heap.size w.drew w1) (q : Nat) : w.heap.size ≤ ((w1.drewN q).alloc o).heap.size := by
  have h1 := h.size
  have h2 : w.drew.heap.size = w.heap.size := rfl
  have h3 : (w1.drewN q).heap.size = w1.heap.size := rfl
  simp
  omega
theorem below_grew {w w1 : World} (h : Below w.drew.heap.size w.drew w1) (q : Nat) : w.heap.size ≤ (w1.drewN q).heap.size := h.size

set_option maxHeartbeats 4000000 in
set_option maxRecDepth 100000 in
theorem rway_any : ∀ (d : Nat) (xs : List Int) (w : World) (a : Option Addr) (n c i : Nat), 1 ≤ n → n ≤ d → n ≤ 16 → n ≤ c → i < n → (∀ k, k < xs.length → isV (nth xs k)) → SliceIs w (.slice a n c) xs →
    Calls Tryd.prog 14 #[.slice a n c, .int .i64 (i : Int)] w fun x w' => ∃ v, x = .returned v ∧ w'.ownsRow w.heap.size 32 2 v (way d xs i).length (sdc (way d xs i)) ∧ Below w.heap.size w w' := by
  intro d
  induction d with
  | zero => intro xs w a n c i h1 h2; omega
  | succ d ih =>
    intro xs w a n c i h1 h2 h16 hc hi hv hx
    have HX : Hid (SliceIs w (.slice a n c) xs) := hx
    have HV : Hid (∀ k, k < xs.length → isV (nth xs k)) := hv
    have IH : Hid _ := ih
    obtain ⟨a', c', b, o, hv', _, ha, hc0⟩ := hx.where
    cases hv'
    have haa := ha h1
    subst haa
    clear hv hx ha hc0 ih
    obtain ⟨n, hn⟩ : ∃ n, n = xs.length := ⟨_, rfl⟩
    rw [← hn] at h1 h2 h16 hc hi HX ⊢
    by_cases hone : n = 1
    · have HR : Hid (way (d + 1) xs i = []) := way_one (by rw [← hn]; exact hone) i
      subst hone
      clear HV HX hn IH
      go_enter Tryd.func14, Tryd.ntmps14
      go_wp2
      go_ret
      exact ⟨_, rfl, by rw [HR.out]; exact World.ownsRow_nil _ _ _ _, Below.refl _ _⟩
    · have h1' : ((n : Int) == 1) = false := by simp; omega
      have hp1 := hf_pos n
      have hp2 := hf_lt (n := n) (by omega)
      have hfc : hf n ≤ c := by omega
      have hfn : hf n ≤ n := by omega
      have hne : ¬ c = hf n := by omega
      obtain ⟨ti, hti, hz0, hz1, hz2⟩ := info_parts Tryd.info32
      by_cases hlow : i < hf n
      · have HR : Hid (way (d + 1) xs i = _) := way_low (f := d) (by rw [← hn]; exact hone) (by rw [← hn]; exact hlow)
        rw [← hn] at HR
        have hlow' : (i : Int) < (hf n : Int) := by omega
        have B1 : Hid (∀ w', Below w.heap.size w w' → Calls _ _ _ _ _) := fun w' hb => IH.out (xs.take (hf n)) w' (some ⟨b, o, none⟩) (hf n) c i hp1 (by omega) (by omega) (by omega) hlow (isV_low HV.out _) ((HX.out.later hb).low (by omega))
        have B2 : Hid (∀ w', Below w.heap.size w w' → Calls _ _ _ _ _) := fun w' hb => rroot_any d (xs.drop (hf n)) w' (some ⟨b, o + hf n, none⟩) (n - hf n) (c - hf n) (by omega) (by omega) (by omega) (by omega) (isV_high HV.out _) ((HX.out.later hb).high hp2)
        have HLN : Hid ((way d (xs.take (hf n)) i).length ≤ 4) := by
          show (way d (xs.take (hf n)) i).length ≤ 4
          have e : (xs.take (hf n)).length = hf n := by rw [List.length_take]; omega
          exact Nat.le_trans (way_len d _ i (by omega) (by omega) (by omega)) (lg_le _)
        generalize root d (xs.drop (hf n)) = r at HR B2
        generalize way d (xs.take (hf n)) i = s at HR B1 HLN
        have hs4 := HLN.out
        clear HV HX hn IH HLN
        go_enter Tryd.func14, Tryd.ntmps14
        go_wp2_with (go_at_call 23; refine (half_any n _ h16).mono ?_; rintro e w' ⟨rfl, rfl⟩)
        go_region_law (first
          | (go_simp; go_at_call 14; refine Calls.mono (B1.out _ (below_d w)) ?_; rintro e w1 ⟨v1, rfl, hown1, hb1⟩)
          | (go_simp; go_at_call 12; refine Calls.mono (B2.out _ ((below_d w).trans hb1)) ?_; rintro e w2 ⟨rfl, q, rfl⟩)
          | (refine step_append_own rfl (.tmp 19) (.tmp 25) 23 rfl w.heap.size 32 ti (.agg #[.bool false, .int .i64 0]) 2 16 Tryd.underlying23 hti hz0 hz1 hz2 rfl (by decide) v1 s.length (sdc s) (by simp [Act.eval]) (own_da hown1 q _) ⟨w1.heap.size, 0, none⟩ 1 1 [.bool false, .int .i64 r] (by simp [Act.eval]) rfl (news_two (w1.drewN q) _ _ _) (ones_side _ _) (by unfold maxLen; omega) (by omega) (own_le hb1 q) ?_; intro v' w5 hown hgr))
        all_goals
          have HO : Hid (w5.ownsRow w.heap.size 32 2 v' (s ++ [(false, r)]).length (sdc (s ++ [(false, r)]))) := by
            show w5.ownsRow w.heap.size 32 2 v' (s ++ [(false, r)]).length (sdc (s ++ [(false, r)]))
            rw [List.length_append, List.length_singleton, ← sdc_snoc]; exact hown
          have HB : Hid (Below w.heap.size w w5) := (((((below_d w).trans hb1).trans (below_dn w1 _ q)).alloc (below_grew hb1 q) _).grown hgr (own_le hb1 q) (fun k e => (hown1.lt k e).1))
          clear hown hgr hown1 hb1
          go_wp2
          go_ret
          exact ⟨_, rfl, by rw [HR.out]; exact HO.out, HB.out⟩
      · have HR : Hid (way (d + 1) xs i = _) := way_high (f := d) (by rw [← hn]; exact hone) (by rw [← hn]; exact hlow)
        rw [← hn] at HR
        have hlow' : ¬ (i : Int) < (hf n : Int) := by omega
        have hwr : IntKind.i64.wrap ((i : Int) - (hf n : Int)) = (i : Int) - (hf n : Int) := wrap_in (by omega) (by omega)
        have B1 : Hid (∀ w', Below w.heap.size w w' → Calls _ _ _ _ _) := fun w' hb => IH.out (xs.drop (hf n)) w' (some ⟨b, o + hf n, none⟩) (n - hf n) (c - hf n) (i - hf n) (by omega) (by omega) (by omega) (by omega) (by omega) (isV_high HV.out _) ((HX.out.later hb).high hp2)
        have B2 : Hid (∀ w', Below w.heap.size w w' → Calls _ _ _ _ _) := fun w' hb => rroot_any d (xs.take (hf n)) w' (some ⟨b, o, none⟩) (hf n) c hp1 (by omega) (by omega) (by omega) (isV_low HV.out _) ((HX.out.later hb).low (by omega))
        rw [show ((i - hf n : Nat) : Int) = (i : Int) - (hf n : Int) by omega] at B1
        have HLN : Hid ((way d (xs.drop (hf n)) (i - hf n)).length ≤ 4) := by
          show (way d (xs.drop (hf n)) (i - hf n)).length ≤ 4
          have e : (xs.drop (hf n)).length = n - hf n := by rw [List.length_drop]; omega
          exact Nat.le_trans (way_len d _ _ (by omega) (by omega) (by omega)) (lg_le _)
        generalize root d (xs.take (hf n)) = r at HR B2
        generalize way d (xs.drop (hf n)) (i - hf n) = s at HR B1 HLN
        have hs4 := HLN.out
        clear HV HX hn IH HLN
        go_enter Tryd.func14, Tryd.ntmps14
        go_wp2_with (go_at_call 23; refine (half_any n _ h16).mono ?_; rintro e w' ⟨rfl, rfl⟩)
        go_region_law (first
          | (go_simp; go_at_call 14; refine Calls.mono (B1.out _ (below_d w)) ?_; rintro e w1 ⟨v1, rfl, hown1, hb1⟩)
          | (go_simp; go_at_call 12; refine Calls.mono (B2.out _ ((below_d w).trans hb1)) ?_; rintro e w2 ⟨rfl, q, rfl⟩)
          | (refine step_append_own rfl (.tmp 33) (.tmp 39) 23 rfl w.heap.size 32 ti (.agg #[.bool false, .int .i64 0]) 2 16 Tryd.underlying23 hti hz0 hz1 hz2 rfl (by decide) v1 s.length (sdc s) (by simp [Act.eval]) (own_da hown1 q _) ⟨w1.heap.size, 0, none⟩ 1 1 [.bool true, .int .i64 r] (by simp [Act.eval]) rfl (news_two (w1.drewN q) _ _ _) (ones_side _ _) (by unfold maxLen; omega) (by omega) (own_le hb1 q) ?_; intro v' w5 hown hgr))
        all_goals
          have HO : Hid (w5.ownsRow w.heap.size 32 2 v' (s ++ [(true, r)]).length (sdc (s ++ [(true, r)]))) := by
            show w5.ownsRow w.heap.size 32 2 v' (s ++ [(true, r)]).length (sdc (s ++ [(true, r)]))
            rw [List.length_append, List.length_singleton, ← sdc_snoc]; exact hown
          have HB : Hid (Below w.heap.size w w5) := (((((below_d w).trans hb1).trans (below_dn w1 _ q)).alloc (below_grew hb1 q) _).grown hgr (own_le hb1 q) (fun k e => (hown1.lt k e).1))
          clear hown hgr hown1 hb1
          go_wp2
          go_ret
          exact ⟨_, rfl, by rw [HR.out]; exact HO.out, HB.out⟩

end Go.Proofs.YtfokhdoeehdegaaDoor
