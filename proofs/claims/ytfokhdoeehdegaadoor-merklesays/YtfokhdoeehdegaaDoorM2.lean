/- This text proves what merkle.walk returns, whatever it is walked for: the sum at the top, and what the cuts did, from the lowest one on; and what merkle.Root answers; the only condition is that the slice lies there and can be cut. -/
import Derived.Test.YtfokhdoeehdegaaDoorM1
import Derived.OwnWalk
namespace Go.Proofs.YtfokhdoeehdegaaDoor
open Go.RowKit Go.Deep

/-- A part of a slice of numbers. -/
theorem SliceIs.low {w : World} {a : Option Addr} {n c : Nat} {xs : List Int} (h : SliceIs w (.slice a n c) xs) {k : Nat} (hk : k ≤ n) : SliceIs w (.slice a k c) (xs.take k) := by
  obtain ⟨a', c', hv, hl, hi⟩ := h
  cases hv
  have e : (xs.take k).length = k := by rw [List.length_take]; omega
  refine ⟨a, c, by rw [e], by rw [e]; omega, fun hne => ?_⟩
  have hne' : xs ≠ [] := fun h0 => hne (by rw [h0]; simp)
  obtain ⟨b, o, h1, h2, h3⟩ := hi hne'
  refine ⟨b, o, h1, h2, fun i hi => ?_⟩
  rw [e] at hi
  rw [h3 i (by omega), nth_lt (by omega), nth_lt (by omega), List.getElem_take]
theorem SliceIs.high {w : World} {b o n c c' : Nat} {xs : List Int} (h : SliceIs w (.slice (some ⟨b, o, none⟩) n c) xs) {k : Nat} (hk : k < n) : SliceIs w (.slice (some ⟨b, o + k, none⟩) (n - k) c') (xs.drop k) := by
  obtain ⟨a', c', hv, hl, hi⟩ := h
  cases hv
  have e : (xs.drop k).length = xs.length - k := by rw [List.length_drop]
  refine ⟨_, _, by rw [e], by rw [e]; omega, fun _ => ?_⟩
  obtain ⟨b', o', h1, h2, h3⟩ := hi (fun h0 => by rw [h0] at hk; simp at hk)
  cases h1
  refine ⟨b, o + k, rfl, h2, fun i hi => ?_⟩
  rw [e] at hi
  rw [Nat.add_assoc, h3 (k + i) (by omega), nth_lt (by omega), nth_lt (by omega), List.getElem_drop]
theorem SliceIs.len {w : World} {a : Option Addr} {n c : Nat} {xs : List Int} (h : SliceIs w (.slice a n c) xs) : n = xs.length := by
  obtain ⟨a', c', hv, hl, hi⟩ := h
  cases hv
  rfl

/-- What the cuts do, from the lowest one on. -/
def runs {S : Type} (step : Nat → Nat → Nat → Int → Int → S → S) : Nat → List Int → Nat → S → S
  | 0, _, _, s => s
  | d + 1, xs, fr, s => if xs.length = 1 then s else
      step fr (fr + hf xs.length) (fr + xs.length) (root d (xs.take (hf xs.length))) (root d (xs.drop (hf xs.length)))
        (runs step d (xs.drop (hf xs.length)) (fr + hf xs.length) (runs step d (xs.take (hf xs.length)) fr s))

theorem runs_one {S : Type} (step : Nat → Nat → Nat → Int → Int → S → S) {d : Nat} {xs : List Int} (h : xs.length = 1) (fr : Nat) (s : S) : runs step (d + 1) xs fr s = s := by rw [runs, if_pos h]
theorem runs_cut {S : Type} (step : Nat → Nat → Nat → Int → Int → S → S) {d : Nat} {xs : List Int} (h : xs.length ≠ 1) (fr : Nat) (s : S) : runs step (d + 1) xs fr s = step fr (fr + hf xs.length) (fr + xs.length) (root d (xs.take (hf xs.length))) (root d (xs.drop (hf xs.length)))
        (runs step d (xs.drop (hf xs.length)) (fr + hf xs.length) (runs step d (xs.take (hf xs.length)) fr s)) := by rw [runs, if_neg h]

theorem runs_cnt {S : Type} (step : Nat → Nat → Nat → Int → Int → S → S) (cnt : S → Nat) (hc : ∀ f m e l r s, cnt (step f m e l r s) ≤ cnt s + 1) : ∀ (d : Nat) (xs : List Int) (fr : Nat) (s : S), 1 ≤ xs.length → xs.length ≤ d → cnt (runs step d xs fr s) + 1 ≤ cnt s + xs.length
  | 0, xs, _, _, h1, h2 => by omega
  | d + 1, xs, fr, s, h1, h2 => by
    by_cases h : xs.length = 1
    · rw [runs_one step h]; omega
    · obtain ⟨p1, p2, p3, p4, p5, p6⟩ := parts (f := d) h1 h h2
      rw [runs_cut step h]
      have q1 := runs_cnt step cnt hc d (xs.take (hf xs.length)) fr s p1 p2
      have q2 := runs_cnt step cnt hc d (xs.drop (hf xs.length)) (fr + hf xs.length) (runs step d (xs.take (hf xs.length)) fr s) p3 p4
      refine Nat.le_trans (Nat.add_le_add_right (hc _ _ _ _ _ _) 1) ?_
      have := hf_lt (n := xs.length) (by omega)
      rw [p5] at q1
      rw [p6] at q2
      omega

theorem isV_low {xs : List Int} (h : ∀ k, k < xs.length → isV (nth xs k)) (j : Nat) : ∀ k, k < (xs.take j).length → isV (nth (xs.take j) k) := by
  intro k hk
  have hk' : k < xs.length := by rw [List.length_take] at hk; omega
  have := h k hk'
  rw [nth_lt hk, List.getElem_take, ← nth_lt hk']
  exact this
theorem isV_high {xs : List Int} (h : ∀ k, k < xs.length → isV (nth xs k)) (j : Nat) : ∀ k, k < (xs.drop j).length → isV (nth (xs.drop j) k) := by
  intro k hk
  have hk' : j + k < xs.length := by rw [List.length_drop] at hk; omega
  have := h (j + k) hk'
  rw [nth_lt hk, List.getElem_drop, ← nth_lt hk']
  exact this

set_option maxHeartbeats 2000000 in
set_option maxRecDepth 100000 in
theorem walk_any {S : Type} (g : Nat) (caps : Array Value) (w0 : World) (St : World → S → Prop) (step : Nat → Nat → Nat → Int → Int → S → S) (cnt : S → Nat) (hcn : ∀ f m e l r s, cnt (step f m e l r s) ≤ cnt s + 1) (eg : ∀ args w, (callFunc g args).run Tryd.prog w = .ok (.enter g args) w)
    (hJ : ∀ (w : World) (s : S) (f m e : Nat) (l r : Int), 0 ≤ l ∧ l ≤ 9972 → 0 ≤ r ∧ r ≤ 9972 → f ≤ m ∧ m ≤ e ∧ e ≤ 16 → cnt s < 16 → St w s → Below w0.heap.size w0 w →
      Calls Tryd.prog g (#[.agg #[.int .i64 f, .int .i64 m, .int .i64 e, .int .i64 l, .int .i64 r]] ++ caps) w fun x w' => x = .returned (.int .i64 (jn l r)) ∧ St w' (step f m e l r s) ∧ Below w0.heap.size w w') :
    ∀ (d : Nat) (xs : List Int) (w : World) (a : Option Addr) (n c fr : Nat) (s : S), 1 ≤ n → n ≤ d → fr + n ≤ 16 → cnt s + n ≤ 17 → n ≤ c → (∀ k, k < xs.length → isV (nth xs k)) → SliceIs w0 (.slice a n c) xs → Below w0.heap.size w0 w → St w s →
    Calls Tryd.prog 24 #[.slice a n c, .int .i64 (fr : Int), .func (.func g) #[] caps] w fun x w' => x = .returned (.int .i64 (root d xs)) ∧ St w' (runs step d xs fr s) ∧ Below w0.heap.size w w' := by
  intro d
  induction d with
  | zero => intro xs w a n c fr s h1 h2; omega
  | succ d ih =>
    intro xs w a n c fr s h1 h2 h16 hcs hc hv hx hb hs
    have HL : Hid (n = xs.length) := hx.len
    have HX : Hid (SliceIs w0 (.slice a n c) xs) := hx
    have HV : Hid (∀ k, k < xs.length → isV (nth xs k)) := hv
    have HB : Hid (Below w0.heap.size w0 w) := hb
    have HS : Hid (St w s) := hs
    obtain ⟨a', c', b, o, hv', _, ha, hc0⟩ := (hx.later hb).where
    cases hv'
    have haa := ha h1
    subst haa
    have HC : Hid (∀ i, i < xs.length → w.cell? ⟨b, o + i, none⟩ = some (.int .i64 (nth xs i))) := hc0
    clear hv hx hb hs ha hc0
    have IH : Hid _ := ih
    clear ih
    obtain ⟨n, hn⟩ : ∃ n, n = xs.length := ⟨_, rfl⟩
    rw [← hn] at h1 h2 h16 hcs hc HL HX ⊢
    by_cases hone : n = 1
    · have HR : Hid (root (d + 1) xs = lf (nth xs 0)) := root_one (by rw [← hn]; exact hone)
      have HW : Hid _ := runs_one step (d := d) (xs := xs) (by rw [← hn]; exact hone) fr s
      have hck := HC.out 0 (by rw [← hn]; exact h1)
      rw [Nat.add_zero] at hck
      have HV0 : Hid (isV (nth xs 0)) := HV.out 0 (by rw [← hn]; exact h1)
      subst hone
      clear HV HL HX hn
      go_enter Tryd.func24, Tryd.ntmps24
      go_wp2_with (go_at_call 18; refine (leafOf_any _ _ HV0.out).mono ?_; rintro e w' ⟨rfl, rfl⟩)
      go_ret
      exact ⟨by rw [HR.out]; rfl, by rw [HW.out]; exact HS.out, Below.refl _ _⟩
    · have h1' : ((n : Int) == 1) = false := by simp; omega
      have hp1 := hf_pos n
      have hp2 := hf_lt (n := n) (by omega)
      have HN : Hid (n = xs.length) := hn
      have HR : Hid (root (d + 1) xs = _) := root_cut (f := d) (by rw [← hn]; exact hone)
      have HW : Hid _ := runs_cut step (d := d) (xs := xs) (by rw [← hn]; exact hone) fr s
      have h16' : n ≤ 16 := by omega
      rw [← hn] at HR HW
      have hq1 := runs_cnt step cnt hcn d (xs.take (hf n)) fr s (by rw [List.length_take, ← hn]; omega) (by rw [List.length_take, ← hn]; omega)
      rw [List.length_take, ← hn, Nat.min_eq_left (by omega)] at hq1
      have hq2 := runs_cnt step cnt hcn d (xs.drop (hf n)) (fr + hf n) (runs step d (xs.take (hf n)) fr s) (by rw [List.length_drop, ← hn]; omega) (by rw [List.length_drop, ← hn]; omega)
      rw [List.length_drop, ← hn] at hq2
      have HQ1 : Hid (cnt (runs step d (xs.take (hf n)) fr s) + (n - hf n) ≤ 17) := show _ from (by omega : cnt (runs step d (xs.take (hf n)) fr s) + (n - hf n) ≤ 17)
      have HQ2 : Hid (cnt (runs step d (xs.drop (hf n)) (fr + hf n) (runs step d (xs.take (hf n)) fr s)) < 16) := show _ from (by omega : cnt (runs step d (xs.drop (hf n)) (fr + hf n) (runs step d (xs.take (hf n)) fr s)) < 16)
      have I1 : Hid _ := IH.out (xs.take (hf n)) w (some ⟨b, o, none⟩) (hf n) c fr s hp1 (by omega) (by omega) (by omega) (by omega) (isV_low HV.out _) (HX.out.low (by omega)) HB.out HS.out
      have i2 := fun w1 s1 (hq : cnt s1 + (n - hf n) ≤ 17) (hs1 : St w1 s1) (hb1 : Below w0.heap.size w0 w1) => IH.out (xs.drop (hf n)) w1 (some ⟨b, o + hf n, none⟩) (n - hf n) (c - hf n) (fr + hf n) s1 (by omega) (by omega) (by omega) hq (by omega) (isV_high HV.out _) (HX.out.high hp2) hb1 hs1
      have I3 : Hid _ := fun w1 s1 l r hl hr (hq : cnt s1 < 16) (hs1 : St w1 s1) (hb1 : Below w0.heap.size w0 w1) => hJ w1 s1 fr (fr + hf n) (fr + n) l r hl hr ⟨by omega, by omega, h16⟩ hq hs1 hb1
      simp only [Int.natCast_add] at i2 I3
      have I2 : Hid _ := i2
      clear i2
      have R1 := root_in d (xs.take (hf n))
      have R2 := root_in d (xs.drop (hf n))
      obtain ⟨r1, hr1⟩ : ∃ r1, r1 = root d (xs.take (hf n)) := ⟨_, rfl⟩
      obtain ⟨r2, hr2⟩ : ∃ r2, r2 = root d (xs.drop (hf n)) := ⟨_, rfl⟩
      rw [← hr1] at R1 HR HW I1
      rw [← hr2] at R2 HR HW I2
      clear HV HL HX hn hr1 hr2 IH hq1 hq2 hcs
      go_enter Tryd.func24, Tryd.ntmps24
      go_wp2_with (go_at_call 31; refine (firstPart_any n _ h16').mono ?_; rintro e w' ⟨rfl, rfl⟩)
      refine Calls.mono I1.out ?_
      rintro e w1 ⟨rfl, hs1, hb1⟩
      have HS1 : Hid _ := hs1
      have HB1 : Hid (Below w0.heap.size w w1) := hb1
      have HC1 : Hid _ := I2.out w1 _ HQ1.out HS1.out (HB.out.trans HB1.out)
      clear hs1 hb1 I2
      go_wp2_with fail
      refine Calls.mono HC1.out ?_
      rintro e w2 ⟨rfl, hs2, hb2⟩
      have HS2 : Hid _ := hs2
      have HB2 : Hid (Below w0.heap.size w1 w2) := hb2
      clear hs2 hb2 HC1
      have HC2 : Hid _ := I3.out w2 _ _ _ R1 R2 HQ2.out HS2.out (HB.out.trans (HB1.out.trans HB2.out))
      go_wp2_with fail
      refine Calls.mono HC2.out ?_
      rintro e w3 ⟨rfl, hs3, hb3⟩
      have HS3 : Hid _ := hs3
      have HB3 : Hid (Below w0.heap.size w2 w3) := hb3
      clear hs3 hb3 HC2
      go_wp2
      go_ret
      exact ⟨by rw [HR.out]; rfl, by rw [HW.out]; exact HS3.out, HB1.out.trans (HB2.out.trans HB3.out)⟩

theorem Tryd.enter25 : ∀ args w, (callFunc 25 args).run Tryd.prog w = .ok (.enter 25 args) w := fun _ _ => by rfl

set_option maxHeartbeats 2000000 in
theorem rootJoin_any (w : World) (f m e l r : Int) (hl : 0 ≤ l ∧ l ≤ 9972) (hr : 0 ≤ r ∧ r ≤ 9972) :
    Calls Tryd.prog 25 #[.agg #[.int .i64 f, .int .i64 m, .int .i64 e, .int .i64 l, .int .i64 r]] w fun x w' => x = .returned (.int .i64 (jn l r)) ∧ Below w.heap.size w w' := by
  go_enter Tryd.func25, Tryd.ntmps25
  go_wp2_with (go_at_call 21; refine (sumOf_any _ _ _ hl hr).mono ?_; rintro e w' ⟨rfl, rfl⟩)
  go_ret
  exact ⟨rfl, (Below.refl _ _).alloc (Nat.le_refl _) _⟩

/-- The sum at the top of all values. -/
def rootL (xs : List Int) : Int := root 16 xs

theorem walk_root (w : World) (a : Option Addr) (n c : Nat) (xs : List Int) (h1 : 1 ≤ n) (h16 : n ≤ 16) (hc : n ≤ c) (hv : ∀ k, k < xs.length → isV (nth xs k)) (hx : SliceIs w (.slice a n c) xs) :
    Calls Tryd.prog 24 #[.slice a n c, .int .i64 0, .func (.func 25) #[] #[]] w fun x w' => x = .returned (.int .i64 (rootL xs)) ∧ Below w.heap.size w w' := by
  refine (walk_any (S := Unit) 25 #[] w (fun _ _ => True) (fun _ _ _ _ _ s => s) (fun _ => 0) (fun _ _ _ _ _ _ => by omega) Tryd.enter25 ?_ 16 xs w a n c 0 () h1 h16 (by omega) (by omega) hc hv hx (Below.refl _ _) trivial).mono ?_
  · intro w1 s f m e l r hl hr _ _ _ hb
    refine (rootJoin_any w1 f m e l r hl hr).mono ?_
    rintro x w' ⟨rfl, h⟩
    exact ⟨rfl, trivial, h.mono hb.size⟩
  · rintro x w' ⟨rfl, _, h⟩
    exact ⟨rfl, h⟩

set_option maxHeartbeats 2000000 in
theorem root_ok (w : World) (a : Option Addr) (n c : Nat) (xs : List Int) (hc : n ≤ c) (hx : SliceIs w (.slice a n c) xs) (he : chkE xs = 0) :
    Calls Tryd.prog 13 #[.slice a n c] w fun e w' => e = .returned (.tuple #[.int .i64 (rootL xs), .nilIface]) ∧ Below w.heap.size w w' := by
  have HE : Hid (errV (chkE xs) = .nilIface) := by show errV (chkE xs) = .nilIface; rw [he]; rfl
  obtain ⟨h1, h16, hv⟩ := chkE_zero he
  rw [← hx.len] at h1 h16
  have HX : Hid (SliceIs w (.slice a n c) xs) := hx
  have HW : Hid _ := walk_root w a n c xs h1 h16 hc hv hx
  clear hx hv he
  go_enter Tryd.func13, Tryd.ntmps13
  go_wp2_with fail
  refine (check_any w _ xs HX.out).mono ?_
  rintro e w' ⟨rfl, rfl⟩
  rw [HE.out]
  go_wp2_with fail
  refine Calls.mono HW.out ?_
  rintro e w' ⟨rfl, hb⟩
  have HB : Hid (Below w.heap.size w w') := hb
  clear hb
  go_wp2
  go_ret2
  exact ⟨rfl, HB.out⟩

set_option maxHeartbeats 2000000 in
theorem root_no (w : World) (v : Value) (xs : List Int) (hx : SliceIs w v xs) (he : chkE xs ≠ 0) :
    Calls Tryd.prog 13 #[v] w fun e w' => e = .returned (.tuple #[.int .i64 0, .iface 44 (.int .i64 (chkE xs : Int))]) ∧ w = w' := by
  have HE : Hid (errV (chkE xs) = .iface 44 (.int .i64 (chkE xs : Int))) := errV_pos he
  go_enter Tryd.func13, Tryd.ntmps13
  go_wp2_with fail
  refine (check_any w v xs hx).mono ?_
  rintro e w' ⟨rfl, rfl⟩
  rw [HE.out]
  go_wp2
  go_ret2
  exact ⟨rfl, rfl⟩

end Go.Proofs.YtfokhdoeehdegaaDoor
