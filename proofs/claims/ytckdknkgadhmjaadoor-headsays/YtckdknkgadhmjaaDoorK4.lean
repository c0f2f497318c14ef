/- This text proves in one form what head.First, Near and Sweep answer, right or wrong: how far, the order, the error; the order lies in memory of the call's own and all old memory is as it was; the only condition is that the slice lies there. -/
import Derived.Test.YtckdknkgadhmjaaDoorK3
namespace Go.Proofs.YtckdknkgadhmjaaDoor
open Go.RowKit Go.Deep

theorem own_mono {w : World} {B B' e n : Nat} {v : Value} {vs : List Value} (h : w.ownsRow B e 1 v n vs) (hB : B' ≤ B) : w.ownsRow B' e 1 v n vs := by
  refine ⟨h.1, ?_⟩
  rcases h.2 with h0 | ⟨g, cap, cur, h1, h2, h3⟩
  · exact .inl h0
  · exact .inr ⟨g, cap, cur, h1, Nat.le_trans hB h2, h3⟩

/-- The order that is told: none where something is wrong. -/
def hdL (S : Int → Int → Int → Bool) (s : Int) (xs : List Int) : List Int := if hdE s xs = 0 then ord S xs.length s xs else []

theorem hdL_ok {S : Int → Int → Int → Bool} {s : Int} {xs : List Int} (h : hdE s xs = 0) : hdL S s xs = ord S xs.length s xs := if_pos h
theorem hdL_no {S : Int → Int → Int → Bool} {s : Int} {xs : List Int} (h : hdE s xs ≠ 0) : hdL S s xs = [] := if_neg h
theorem hdL_len {S : Int → Int → Int → Bool} {s : Int} {xs : List Int} : (hdL S s xs).length ≤ 20 := by
  by_cases h : hdE s xs = 0
  · rw [hdL_ok h, ord_len _ _ _ _ rfl]; exact (hdE_zero h).1
  · rw [hdL_no h]; simp

/-- What each of the three answers. -/
def Told (S : Int → Int → Int → Bool) (s : Int) (xs : List Int) (w : World) (e : Ending) (w' : World) : Prop :=
  ∃ v', e = .returned (.tuple #[.int .i64 (farL s (hdL S s xs)), v', errV (hdE s xs)]) ∧ w'.ownsRow w.heap.size 3 1 v' (hdL S s xs).length (cellsOf (hdL S s xs)) ∧ Below w.heap.size w w'

set_option maxHeartbeats 1000000 in
theorem serve_no (f : Value) (w : World) (s : Int) (v : Value) (xs : List Int) (hx : SliceIs w v xs) (he : hdE s xs ≠ 0) :
    Calls Tryd.prog 21 #[.int .i64 s, v, f] w fun e w' => e = .returned (.tuple #[.int .i64 0, .slice none 0 0, errV (hdE s xs)]) ∧ w = w' := by
  have HE : Hid (errV (hdE s xs) = .iface 37 (.int .i64 (hdE s xs : Int))) := errV_pos he
  have HX : Hid (SliceIs w v xs) := hx
  clear hx he
  go_enter Tryd.func21, Tryd.ntmps21
  go_wp2_with fail
  refine (check_any w _ v xs HX.out).mono ?_
  rintro e w' ⟨rfl, rfl⟩
  rw [HE.out]
  go_wp2
  go_ret3
  exact ⟨by rw [HE.out]; rfl, rfl⟩

theorem serve_any (g : Nat) (caps : Array Value) (w0 : World) (S : Int → Int → Int → Bool) (eg : ∀ args w, (callFunc g args).run Tryd.prog w = .ok (.enter g args) w)
    (hJ : ∀ (w : World) (now a b : Int), 0 ≤ now ∧ now ≤ 99 → 0 ≤ a ∧ a ≤ 99 → 0 ≤ b ∧ b ≤ 99 → Below w0.heap.size w0 w →
      Calls Tryd.prog g (#[.int .i64 now, .int .i64 a, .int .i64 b] ++ caps) w fun x w' => x = .returned (.bool (S now a b)) ∧ ∃ q, w' = w.drewN q)
    (s : Int) (v : Value) (xs : List Int) (hx : SliceIs w0 v xs) :
    Calls Tryd.prog 21 #[.int .i64 s, v, .func (.func g) #[] caps] w0 fun e w' => Told S s xs w0 e w' := by
  by_cases h : hdE s xs = 0
  · unfold Told
    rw [hdL_ok h, h]
    exact serve_ok g caps w0 S eg hJ s v xs hx h
  · unfold Told
    rw [hdL_no h]
    refine (serve_no _ w0 s v xs hx h).mono ?_
    rintro e w' ⟨rfl, rfl⟩
    exact ⟨_, rfl, World.ownsRow_nil _ _ _ _, Below.refl _ _⟩

theorem Tryd.enter22 : ∀ args w, (callFunc 22 args).run Tryd.prog w = .ok (.enter 22 args) w := fun _ _ => by rfl
theorem Tryd.enter23 : ∀ args w, (callFunc 23 args).run Tryd.prog w = .ok (.enter 23 args) w := fun _ _ => by rfl
theorem Tryd.enter25 : ∀ args w, (callFunc 25 args).run Tryd.prog w = .ok (.enter 25 args) w := fun _ _ => by rfl

set_option maxHeartbeats 1000000 in
theorem firstH_any (w : World) (s : Int) (v : Value) (xs : List Int) (hx : SliceIs w v xs) :
    Calls Tryd.prog 10 #[.int .i64 s, v] w fun e w' => Told ltF s xs w e w' := by
  have HC : Hid _ := serve_any 22 #[] w ltF Tryd.enter22 (fun w1 now a b _ _ _ _ => (first_any now a b w1).mono fun _ _ ⟨h1, h2⟩ => ⟨h1, 0, h2.symm⟩) s v xs hx
  clear hx
  go_enter Tryd.func10, Tryd.ntmps10
  go_wp2_with fail
  refine Calls.mono HC.out ?_
  rintro e w' ⟨v', rfl, h1, h2⟩
  have H1 : Hid _ := h1
  have H2 : Hid _ := h2
  clear h1 h2
  go_wp2
  go_ret3
  exact ⟨_, rfl, H1.out, H2.out⟩

set_option maxHeartbeats 1000000 in
theorem nearH_any (w : World) (s : Int) (v : Value) (xs : List Int) (hx : SliceIs w v xs) :
    Calls Tryd.prog 13 #[.int .i64 s, v] w fun e w' => Told ltN s xs w e w' := by
  have HC : Hid _ := serve_any 23 #[] w ltN Tryd.enter23 (fun w1 now a b hn ha hb _ => (near_any now a b w1 hn ha hb).mono fun _ _ ⟨h1, h2⟩ => ⟨h1, 0, h2.symm⟩) s v xs hx
  clear hx
  go_enter Tryd.func13, Tryd.ntmps13
  go_wp2_with fail
  refine Calls.mono HC.out ?_
  rintro e w' ⟨v', rfl, h1, h2⟩
  have H1 : Hid _ := h1
  have H2 : Hid _ := h2
  clear h1 h2
  go_wp2
  go_ret3
  exact ⟨_, rfl, H1.out, H2.out⟩

/-- The world with Sweep's two variables. -/
def boxed (w : World) (s : Int) (up : Bool) : World := (w.alloc (.cells #[.int .i64 s] 3)).alloc (.cells #[.bool up] 4)

theorem boxed_size (w : World) (s : Int) (up : Bool) : (boxed w s up).heap.size = w.heap.size + 2 := by simp [boxed]
theorem boxed_below (w : World) (s : Int) (up : Bool) : Below w.heap.size w (boxed w s up) := Below.next (below_alloc w _) (below_alloc _ _)
theorem boxed_s (w : World) (s : Int) (up : Bool) : (boxed w s up).cell? ⟨w.heap.size, 0, none⟩ = some (.int .i64 s) := by
  unfold boxed
  rw [(below_alloc (w.alloc (.cells #[.int .i64 s] 3)) _).cell (p := ⟨w.heap.size, 0, none⟩) (by simp), cell_new]
  rfl
theorem boxed_up (w : World) (s : Int) (up : Bool) : (boxed w s up).cell? ⟨w.heap.size + 1, 0, none⟩ = some (.bool up) := by
  have := cell_new (w.alloc (.cells #[.int .i64 s] 3)) #[.bool up] 4 0
  rw [show (w.alloc (.cells #[.int .i64 s] 3)).heap.size = w.heap.size + 1 by simp] at this
  unfold boxed
  rw [this]
  rfl

set_option maxHeartbeats 1000000 in
theorem sweepH_any (w : World) (s : Int) (up : Bool) (v : Value) (xs : List Int) (hx : SliceIs w v xs) :
    Calls Tryd.prog 14 #[.int .i64 s, .bool up, v] w fun e w' => Told (fun _ => ltS s up) s xs w e w' := by
  have HC : Hid _ := serve_any 25 #[.pointer (some ⟨w.heap.size, 0, none⟩), .pointer (some ⟨w.heap.size + 1, 0, none⟩)] (boxed w s up) (fun _ => ltS s up) Tryd.enter25 (fun w1 now a b _ _ _ hb =>
    sweep1_any s up w.heap.size (w.heap.size + 1) now a b w1 (by rw [hb.cell (p := ⟨w.heap.size, 0, none⟩) (by rw [boxed_size]; simp)]; exact boxed_s w s up) (by rw [hb.cell (p := ⟨w.heap.size + 1, 0, none⟩) (by rw [boxed_size]; simp)]; exact boxed_up w s up)) s v xs (hx.later (boxed_below w s up))
  clear hx
  go_enter Tryd.func14, Tryd.ntmps14
  go_wp2_with fail
  refine Calls.mono HC.out ?_
  rintro e w' ⟨v', rfl, h1, h2⟩
  have H1 : Hid _ := h1
  have H2 : Hid _ := h2
  clear h1 h2 HC
  go_wp2
  go_ret3
  exact ⟨_, rfl, own_mono H1.out (boxed_below w s up).size, Below.next (boxed_below w s up) H2.out⟩

end Go.Proofs.YtckdknkgadhmjaaDoor
