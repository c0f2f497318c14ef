/- This text proves what merkle.Way answers: the sides of the way up from a value, the lowest cut first, in new memory, or the first error that the document names; the only condition is that the slice lies there and can be cut. -/
import Derived.Test.YtfokhdoeehdegaaDoorM3
namespace Go.Proofs.YtfokhdoeehdegaaDoor
open Go.RowKit Go.Deep

theorem wStep_cnt (i : Int) (f m e : Nat) (l r : Int) (s : List (Bool × Int)) : (wStep i f m e l r s).length ≤ s.length + 1 := by
  unfold wStep
  split
  · simp
  · omega

/-- What the cuts leave is the way of the value, if they have it. -/
theorem runs_way (i : Nat) : ∀ (d : Nat) (xs : List Int) (fr : Nat) (s : List (Bool × Int)), 1 ≤ xs.length → xs.length ≤ d →
    runs (wStep (i : Int)) d xs fr s = s ++ (if fr ≤ i ∧ i < fr + xs.length then way d xs (i - fr) else [])
  | 0, xs, _, _, h1, h2 => by omega
  | d + 1, xs, fr, s, h1, h2 => by
    by_cases h : xs.length = 1
    · rw [runs_one _ h, way_one h]; simp
    · obtain ⟨p1, p2, p3, p4, p5, p6⟩ := parts (f := d) h1 h h2
      have hk := hf_lt (n := xs.length) (by omega)
      rw [runs_cut _ h, runs_way i d _ _ _ p3 p4, runs_way i d _ _ _ p1 p2, p5, p6]
      by_cases hin : fr ≤ i ∧ i < fr + xs.length
      · by_cases hlow : i < fr + hf xs.length
        · rw [if_pos ⟨hin.1, hlow⟩, if_neg (by omega), if_pos hin, way_low h (by omega)]
          unfold wStep
          rw [if_pos (by omega)]
          unfold besideS
          rw [if_pos (by omega)]
          simp
        · rw [if_neg (by omega), if_pos (by omega), if_pos hin, way_high h (by omega), Nat.sub_sub]
          unfold wStep
          rw [if_pos (by omega)]
          unfold besideS
          rw [if_neg (by omega)]
          simp
      · rw [if_neg (by omega), if_neg (by omega), if_neg hin]
        unfold wStep
        rw [if_neg (by omega)]
        simp

theorem Tryd.enter26 : ∀ args w, (callFunc 26 args).run Tryd.prog w = .ok (.enter 26 args) w := fun _ _ => by rfl

/-- The way up from a value, of all values. -/
def wayL (xs : List Int) (i : Nat) : List (Bool × Int) := way 16 xs i

theorem wayL_len {xs : List Int} {i : Nat} (h1 : 1 ≤ xs.length) (h2 : xs.length ≤ 16) : (wayL xs i).length ≤ 4 := Nat.le_trans (way_len 16 xs i h1 h2 h2) (lg_le _)

theorem walk_way (w w1 : World) (a : Option Addr) (n c i : Nat) (xs : List Int) (h1 : 1 ≤ n) (h16 : n ≤ 16) (hc : n ≤ c) (hi : i < n) (hv : ∀ k, k < xs.length → isV (nth xs k)) (hx : SliceIs w (.slice a n c) xs) (hb : Below w.heap.size w w1)
    (Bi Bw : Nat) (hs : WSt w.heap.size Bi Bw (i : Int) w1 []) :
    Calls Tryd.prog 24 #[.slice a n c, .int .i64 0, .func (.func 26) #[] #[.pointer (some ⟨Bi, 0, none⟩), .pointer (some ⟨Bw, 0, none⟩)]] w1 fun x w' => x = .returned (.int .i64 (rootL xs)) ∧
      (∃ v, w'.cell? ⟨Bw, 0, none⟩ = some v ∧ w'.ownsRow w.heap.size 32 2 v (wayL xs i).length (sdc (wayL xs i))) ∧ Below w.heap.size w1 w' := by
  have hl := hx.len
  refine (walk_any (S := List (Bool × Int)) 26 #[.pointer (some ⟨Bi, 0, none⟩), .pointer (some ⟨Bw, 0, none⟩)] w (WSt w.heap.size Bi Bw (i : Int)) (wStep (i : Int)) List.length (fun _ _ _ _ _ _ => wStep_cnt _ _ _ _ _ _ _) Tryd.enter26 ?_ 16 xs w1 a n c 0 [] h1 h16 (by omega) (by simp; omega) hc hv hx hb hs).mono ?_
  · intro w2 s f m e l r h2 h3 _ h4 h5 h6
    exact wayJoin_any w.heap.size Bi Bw i w2 s f m e l r h2 h3 h4 h5 h6.size
  · rintro x w' ⟨rfl, ⟨_, _, _, v, h4, h5⟩, h⟩
    rw [runs_way i 16 xs 0 [] (by omega) (by omega), if_pos ⟨Nat.zero_le _, by omega⟩, Nat.sub_zero, List.nil_append] at h5
    exact ⟨rfl, ⟨v, cell_of1 h4, h5⟩, h⟩

theorem wst_start (w : World) (i : Int) : WSt w.heap.size w.heap.size (w.heap.size + 1) i ((w.alloc (.cells #[.int .i64 i] 3)).alloc (.cells #[.slice none 0 0] 23)) [] := by
  refine ⟨Nat.le_refl _, Nat.le_succ _, ?_, .slice none 0 0, ?_, World.ownsRow_nil _ _ _ _⟩
  · rw [((Below.refl (w.heap.size + 1) (w.alloc (.cells #[.int .i64 i] 3))).alloc (by simp) _).block _ (Nat.lt_succ_self _)]
    exact blk_alloc_new _ _
  · have := blk_alloc_new (w.alloc (.cells #[.int .i64 i] 3)) (.cells #[.slice none 0 0] 23)
    simpa using this

set_option maxHeartbeats 2000000 in
theorem way_no (w : World) (v : Value) (xs : List Int) (i : Int) (hx : SliceIs w v xs) (he : chkE xs ≠ 0) :
    Calls Tryd.prog 15 #[v, .int .i64 i] w fun e w' => e = .returned (.tuple #[.slice none 0 0, .iface 44 (.int .i64 (chkE xs : Int))]) ∧ Below w.heap.size w w' := by
  have HE : Hid (errV (chkE xs) = .iface 44 (.int .i64 (chkE xs : Int))) := errV_pos he
  have HB : Hid (Below w.heap.size w (w.alloc (.cells #[.int .i64 i] 3))) := (Below.refl _ _).alloc (Nat.le_refl _) _
  have HX : Hid (SliceIs (w.alloc (.cells #[.int .i64 i] 3)) v xs) := hx.later HB.out
  go_enter Tryd.func15, Tryd.ntmps15
  go_wp2_with fail
  refine (check_any _ v xs HX.out).mono ?_
  rintro e w' ⟨rfl, rfl⟩
  rw [HE.out]
  go_wp2
  go_ret2
  exact ⟨rfl, HB.out⟩

set_option maxHeartbeats 2000000 in
theorem way_range (w : World) (v : Value) (xs : List Int) (i : Int) (hx : SliceIs w v xs) (he : chkE xs = 0) (hi : ¬ (0 ≤ i ∧ i < (xs.length : Int))) :
    Calls Tryd.prog 15 #[v, .int .i64 i] w fun e w' => e = .returned (.tuple #[.slice none 0 0, .iface 44 (.int .i64 1)]) ∧ Below w.heap.size w w' := by
  have HE : Hid (errV (chkE xs) = .nilIface) := by show errV (chkE xs) = .nilIface; rw [he]; rfl
  have HB : Hid (Below w.heap.size w (w.alloc (.cells #[.int .i64 i] 3))) := (Below.refl _ _).alloc (Nat.le_refl _) _
  have HX : Hid (SliceIs (w.alloc (.cells #[.int .i64 i] 3)) v xs) := hx.later HB.out
  obtain ⟨a, c, rfl, _, _⟩ := hx
  generalize hn : xs.length = n at hi HX
  clear hn he
  by_cases h0 : i < 0
  · go_enter Tryd.func15, Tryd.ntmps15
    go_wp2_with fail
    refine (check_any _ _ xs HX.out).mono ?_
    rintro e w' ⟨rfl, rfl⟩
    rw [HE.out]
    go_wp2
    go_ret2
    exact ⟨rfl, HB.out⟩
  · have h1 : (n : Int) ≤ i := by omega
    go_enter Tryd.func15, Tryd.ntmps15
    go_wp2_with fail
    refine (check_any _ _ xs HX.out).mono ?_
    rintro e w' ⟨rfl, rfl⟩
    rw [HE.out]
    go_wp2
    go_ret2
    exact ⟨rfl, HB.out⟩

set_option maxHeartbeats 2000000 in
theorem way_ok (w : World) (a : Option Addr) (n c i : Nat) (xs : List Int) (hc : n ≤ c) (hx : SliceIs w (.slice a n c) xs) (he : chkE xs = 0) (hi : i < n) :
    Calls Tryd.prog 15 #[.slice a n c, .int .i64 (i : Int)] w fun e w' => ∃ v, e = .returned (.tuple #[v, .nilIface]) ∧ w'.ownsRow w.heap.size 32 2 v (wayL xs i).length (sdc (wayL xs i)) ∧ Below w.heap.size w w' := by
  have HE : Hid (errV (chkE xs) = .nilIface) := by show errV (chkE xs) = .nilIface; rw [he]; rfl
  obtain ⟨h1, h16, hv⟩ := chkE_zero he
  rw [← hx.len] at h1 h16
  have HB : Hid (Below w.heap.size w (w.alloc (.cells #[.int .i64 i] 3))) := (Below.refl _ _).alloc (Nat.le_refl _) _
  have HX : Hid (SliceIs (w.alloc (.cells #[.int .i64 i] 3)) (.slice a n c) xs) := hx.later HB.out
  have HB2 : Hid (Below w.heap.size w ((w.alloc (.cells #[.int .i64 i] 3)).alloc (.cells #[.slice none 0 0] 23))) := HB.out.alloc (by simp) _
  have HW : Hid _ := walk_way w _ a n c i xs h1 h16 hc hi hv hx HB2.out _ _ (wst_start w i)
  have hmf : ∀ (fn : Fn) (first cap : Array Value) (w : World), (Instr.makeFunc fn first cap).run Tryd.prog w = .ok (.func fn first cap) w := fun _ _ _ _ => rfl
  have hi' : (i : Int) < (n : Int) := by omega
  clear hx hv he
  go_enter Tryd.func15, Tryd.ntmps15
  go_wp2_with fail
  refine (check_any _ _ xs HX.out).mono ?_
  rintro e w' ⟨rfl, rfl⟩
  rw [HE.out]
  go_wp2_with fail
  refine Calls.mono HW.out ?_
  rintro e w' ⟨rfl, ⟨v, hcv, hov⟩, hb⟩
  have HO : Hid _ := hov
  have HB3 : Hid (Below w.heap.size _ w') := hb
  clear hb hov
  go_wp2
  go_ret2
  exact ⟨v, rfl, HO.out, HB2.out.trans HB3.out⟩

end Go.Proofs.YtfokhdoeehdegaaDoor
