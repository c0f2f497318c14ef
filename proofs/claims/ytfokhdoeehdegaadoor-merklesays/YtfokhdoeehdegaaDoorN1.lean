/- This text proves what the document's own functions Leaf, Join, Values and Root (package platterholdref1) and merkle.Leaf answer: the sums of 6.1 and what is wrong with values; nothing is written; the only condition is that the slices lie there and can be cut. -/
import Derived.Test.YtfokhdoeehdegaaDoorM2
import Derived.Test.YtfokhdoeehdegaaDoorHf
import Derived.Test.YtfokhdoeehdegaaDoorRc
import Derived.Deep.RegionWith
namespace Go.Proofs.YtfokhdoeehdegaaDoor
open Go.RowKit Go.Deep

set_option maxHeartbeats 1000000 in
theorem rleaf_any (v : Int) (w : World) (hv : isV v) :
    Calls Tryd.prog 5 #[.int .i64 v] w fun e w' => e = .returned (.int .i64 (lf v)) ∧ w = w' := by
  obtain ⟨h0, h1⟩ := hv
  go_enter Tryd.func5, Tryd.ntmps5
  go_wp2
  go_ret
  exact ⟨rfl, rfl⟩

set_option maxHeartbeats 1000000 in
theorem rjoin_any (a b : Int) (w : World) (ha : 0 ≤ a ∧ a ≤ 9972) (hb : 0 ≤ b ∧ b ≤ 9972) :
    Calls Tryd.prog 8 #[.int .i64 a, .int .i64 b] w fun e w' => e = .returned (.int .i64 (jn a b)) ∧ w = w' := by
  obtain ⟨h0, h1⟩ := ha
  obtain ⟨h2, h3⟩ := hb
  go_enter Tryd.func8, Tryd.ntmps8
  go_wp2
  go_ret
  exact ⟨rfl, rfl⟩

/-- What merkle.Leaf answers. -/
def leafV (x : Int) : Value := if vB x then .tuple #[.int .i64 (lf x), .nilIface] else .tuple #[.int .i64 0, .iface 44 (.int .i64 1)]

set_option maxHeartbeats 1000000 in
theorem leaf_ok (x : Int) (w : World) (h : vB x = true) :
    Calls Tryd.prog 6 #[.int .i64 x] w fun e w' => e = .returned (.tuple #[.int .i64 (lf x), .nilIface]) ∧ w = w' := by
  have HV : Hid (vB x = true) := h
  clear h
  go_enter Tryd.func6, Tryd.ntmps6
  go_wp2_with (first | (go_at_call 17; refine (isValue_any _ _).mono ?_; rintro e w' ⟨rfl, rfl⟩; rw [HV.out]) | (go_at_call 18; refine (leafOf_any _ _ ((isV_iff _).1 HV.out)).mono ?_; rintro e w' ⟨rfl, rfl⟩))
  go_ret2
  exact ⟨rfl, rfl⟩

set_option maxHeartbeats 1000000 in
theorem leaf_no (x : Int) (w : World) (h : vB x = false) :
    Calls Tryd.prog 6 #[.int .i64 x] w fun e w' => e = .returned (.tuple #[.int .i64 0, .iface 44 (.int .i64 1)]) ∧ w = w' := by
  have HV : Hid (vB x = false) := h
  clear h
  go_enter Tryd.func6, Tryd.ntmps6
  go_wp2_with (go_at_call 17; refine (isValue_any _ _).mono ?_; rintro e w' ⟨rfl, rfl⟩; rw [HV.out])
  go_ret2
  exact ⟨rfl, rfl⟩

theorem allB_v (xs : List Int) : allB 0 1000 xs = xs.all vB := rfl

set_option maxHeartbeats 1000000 in
theorem rvalues_any (w : World) (v : Value) (xs : List Int) (hx : SliceIs w v xs) :
    Calls Tryd.prog 10 #[v] w fun e w' => e = .returned (.int .i64 (chkE xs : Int)) ∧ w = w' := by
  have HX : Hid (SliceIs w v xs) := hx
  obtain ⟨a, c, rfl, hl, hi⟩ := hx
  generalize hn : xs.length = n at *
  have HN : Hid (xs.length = n) := hn
  clear hi hn
  by_cases h0 : n = 0
  · have HE : Hid (chkE xs = 5) := chkE_none (by rw [HN.out]; exact h0)
    subst h0
    go_enter Tryd.func10, Tryd.ntmps10
    go_wp2
    go_ret
    exact ⟨by rw [HE.out]; rfl, rfl⟩
  have hn0 : ((n : Int) == 0) = false := by simp; omega
  by_cases h16 : 16 < n
  · have HE : Hid (chkE xs = 4) := chkE_full (by rw [HN.out]; exact h16)
    go_enter Tryd.func10, Tryd.ntmps10
    go_wp2
    go_ret
    exact ⟨by rw [HE.out]; rfl, rfl⟩
  · cases hb : allB 0 1000 xs with
    | true =>
      have HB : Hid (allB 0 1000 xs = true) := hb
      have HE : Hid (chkE xs = 0) := by show chkE xs = 0; unfold chkE; rw [if_neg (by rw [HN.out]; exact h0), if_neg (by rw [HN.out]; exact h16), ← allB_v, hb]; rfl
      clear hb
      go_enter Tryd.func10, Tryd.ntmps10
      go_wp2_with (go_at_call 22; refine (all_any _ _ _ _ _ HX.out).mono ?_; rintro e w' ⟨rfl, rfl⟩; rw [HB.out])
      go_ret
      exact ⟨by rw [HE.out]; rfl, rfl⟩
    | false =>
      have HB : Hid (allB 0 1000 xs = false) := hb
      have HE : Hid (chkE xs = 1) := by show chkE xs = 1; unfold chkE; rw [if_neg (by rw [HN.out]; exact h0), if_neg (by rw [HN.out]; exact h16), ← allB_v, hb]; rfl
      clear hb
      go_enter Tryd.func10, Tryd.ntmps10
      go_wp2_with (go_at_call 22; refine (all_any _ _ _ _ _ HX.out).mono ?_; rintro e w' ⟨rfl, rfl⟩; rw [HB.out])
      go_ret
      exact ⟨by rw [HE.out]; rfl, rfl⟩

theorem below_dn (w : World) (B q : Nat) : Below B w (w.drewN q) := ⟨rfl, rfl, rfl, Nat.le_refl _, fun _ _ => rfl⟩

set_option maxHeartbeats 2000000 in
set_option maxRecDepth 100000 in
theorem rroot_any : ∀ (d : Nat) (xs : List Int) (w : World) (a : Option Addr) (n c : Nat), 1 ≤ n → n ≤ d → n ≤ 16 → n ≤ c → (∀ k, k < xs.length → isV (nth xs k)) → SliceIs w (.slice a n c) xs →
    Calls Tryd.prog 12 #[.slice a n c] w fun x w' => x = .returned (.int .i64 (root d xs)) ∧ ∃ q, w' = w.drewN q := by
  intro d
  induction d with
  | zero => intro xs w a n c h1 h2; omega
  | succ d ih =>
    intro xs w a n c h1 h2 h16 hc hv hx
    have HX : Hid (SliceIs w (.slice a n c) xs) := hx
    have HV : Hid (∀ k, k < xs.length → isV (nth xs k)) := hv
    have IH : Hid _ := ih
    obtain ⟨a', c', b, o, hv', _, ha, hc0⟩ := hx.where
    cases hv'
    have haa := ha h1
    subst haa
    have HC : Hid (∀ i, i < xs.length → w.cell? ⟨b, o + i, none⟩ = some (.int .i64 (nth xs i))) := hc0
    clear hv hx ha hc0 ih
    obtain ⟨n, hn⟩ : ∃ n, n = xs.length := ⟨_, rfl⟩
    rw [← hn] at h1 h2 h16 hc HX ⊢
    by_cases hone : n = 1
    · have HR : Hid (root (d + 1) xs = lf (nth xs 0)) := root_one (by rw [← hn]; exact hone)
      have hck := HC.out 0 (by rw [← hn]; exact h1)
      rw [Nat.add_zero] at hck
      have HV0 : Hid (isV (nth xs 0)) := HV.out 0 (by rw [← hn]; exact h1)
      subst hone
      clear HV HX hn IH
      go_enter Tryd.func12, Tryd.ntmps12
      go_wp2_with (go_at_call 5; refine (rleaf_any _ _ HV0.out).mono ?_; rintro e w' ⟨rfl, rfl⟩)
      go_ret
      exact ⟨by rw [HR.out]; rfl, 0, rfl⟩
    · have h1' : ((n : Int) == 1) = false := by simp; omega
      have hp1 := hf_pos n
      have hp2 := hf_lt (n := n) (by omega)
      have HR : Hid (root (d + 1) xs = _) := root_cut (f := d) (by rw [← hn]; exact hone)
      rw [← hn] at HR
      have A1 : ∀ q, Calls Tryd.prog 12 #[.slice (some ⟨b, o, none⟩) (hf n) c] (w.drewN q) fun x w' => x = .returned (.int .i64 (root d (xs.take (hf n)))) ∧ ∃ m, w' = w.drewN m := fun q =>
        (IH.out (xs.take (hf n)) (w.drewN q) (some ⟨b, o, none⟩) (hf n) c hp1 (by omega) (by omega) (by omega) (isV_low HV.out _) ((HX.out.later (below_dn w _ q)).low (by omega))).mono fun e w' ⟨he, m, hm⟩ => ⟨he, q + m, by rw [hm, World.drewN_drewN]⟩
      have A2 : ∀ q, Calls Tryd.prog 12 #[.slice (some ⟨b, o + hf n, none⟩) (n - hf n) (c - hf n)] (w.drewN q) fun x w' => x = .returned (.int .i64 (root d (xs.drop (hf n)))) ∧ ∃ m, w' = w.drewN m := fun q =>
        (IH.out (xs.drop (hf n)) (w.drewN q) (some ⟨b, o + hf n, none⟩) (n - hf n) (c - hf n) (by omega) (by omega) (by omega) (by omega) (isV_high HV.out _) ((HX.out.later (below_dn w _ q)).high hp2)).mono fun e w' ⟨he, m, hm⟩ => ⟨he, q + m, by rw [hm, World.drewN_drewN]⟩
      have R1 := root_in d (xs.take (hf n))
      have R2 := root_in d (xs.drop (hf n))
      generalize root d (xs.take (hf n)) = r1 at R1 HR A1
      generalize root d (xs.drop (hf n)) = r2 at R2 HR A2
      have A3 : ∀ q, Calls Tryd.prog 8 #[.int .i64 r1, .int .i64 r2] (w.drewN q) fun x w' => x = .returned (.int .i64 (jn r1 r2)) ∧ ∃ m, w' = w.drewN m := fun q => (rjoin_any r1 r2 (w.drewN q) R1 R2).mono fun e w' ⟨he, hm⟩ => ⟨he, q, hm.symm⟩
      have B1 : Hid _ := A1
      have B2 : Hid _ := A2
      have B3 : Hid _ := A3
      clear HV HX hn IH A1 A2 A3
      go_enter Tryd.func12, Tryd.ntmps12
      go_wp2_with (go_at_call 23; refine (half_any n _ h16).mono ?_; rintro e w' ⟨rfl, rfl⟩)
      go_quiet (first
        | (go_at_call_of 12 (Value.slice (some ⟨b, o, none⟩) (hf n) c); exact B1.out _)
        | (go_at_call 12; exact B2.out _)
        | (go_at_call 8; exact B3.out _))
      go_wp2
      go_ret
      exact ⟨by rw [HR.out]; rfl, nq, rfl⟩

end Go.Proofs.YtfokhdoeehdegaaDoor
