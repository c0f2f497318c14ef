/- This text proves what the order that head.Sweep hands to serve answers: whether one request comes ahead of another; nothing is written; the condition is that the two variables that it reads lie there. -/
import Derived.Test.YtckdknkgadhmjaaDoorK1
namespace Go.Proofs.YtckdknkgadhmjaaDoor
open Go.RowKit Go.Deep

theorem quiet0 {P : Program} {f : FuncId} {args : Array Value} {w : World} {n : Nat} {v : Value}
    (h : Calls P f args (w.drewN n) fun e w' => e = .returned v ∧ w.drewN n = w') : Calls P f args (w.drewN n) fun e w'' => e = .returned v ∧ ∃ m, w'' = w.drewN m :=
  h.mono fun _ _ ⟨he, hm⟩ => ⟨he, n, hm.symm⟩

theorem ltS_ne {f : Int} {up p q : Bool} {a b : Int} (hp : out f up a = p) (hq : out f up b = q) (h : p ≠ q) : ltS f up a b = p := by
  unfold ltS; rw [hp, hq, if_pos h]
theorem ltS_rise {f : Int} {up p : Bool} {a b : Int} (hp : out f up a = p) (hq : out f up b = p) (h : p = up) : ltS f up a b = decide (a < b) := by
  unfold ltS; rw [hp, hq, if_neg (by simp), if_pos h]
theorem ltS_fall {f : Int} {up p : Bool} {a b : Int} (hp : out f up a = p) (hq : out f up b = p) (h : p ≠ up) : ltS f up a b = decide (b < a) := by
  unfold ltS; rw [hp, hq, if_neg (by simp), if_neg h]

set_option maxHeartbeats 2000000 in
theorem sweepOut (f : Int) (up p q : Bool) (Bf Bu : Nat) (now a b : Int) (w : World) (hf : w.cell? ⟨Bf, 0, none⟩ = some (.int .i64 f)) (hu : w.cell? ⟨Bu, 0, none⟩ = some (.bool up)) (hp : out f up a = p) (hq : out f up b = q) (h : p ≠ q) :
    Calls Tryd.prog 25 #[.int .i64 now, .int .i64 a, .int .i64 b, .pointer (some ⟨Bf, 0, none⟩), .pointer (some ⟨Bu, 0, none⟩)] w fun e w' => e = .returned (.bool (ltS f up a b)) ∧ ∃ n, w' = w.drewN n := by
  have HE : Hid (ltS f up a b = p) := ltS_ne hp hq h
  have HP : Hid (out f up a = p) := hp
  have HQ : Hid (out f up b = q) := hq
  clear hp hq
  go_enter Tryd.func25, Tryd.ntmps25
  go_wp2_with fail
  go_quiet (first | (go_at_call 26; exact quiet0 (onWay_any _ _ _ _)))
  rw [HP.out, HQ.out]
  cases p <;> cases q
  · exact absurd rfl h
  · go_wp2
    go_ret
    exact ⟨by rw [HE.out]; rfl, _, rfl⟩
  · go_wp2
    go_ret
    exact ⟨by rw [HE.out]; rfl, _, rfl⟩
  · exact absurd rfl h

set_option maxHeartbeats 2000000 in
theorem sweepRise (f : Int) (up : Bool) (Bf Bu : Nat) (now a b : Int) (w : World) (hf : w.cell? ⟨Bf, 0, none⟩ = some (.int .i64 f)) (hu : w.cell? ⟨Bu, 0, none⟩ = some (.bool up)) (hp : out f up a = up) (hq : out f up b = up) :
    Calls Tryd.prog 25 #[.int .i64 now, .int .i64 a, .int .i64 b, .pointer (some ⟨Bf, 0, none⟩), .pointer (some ⟨Bu, 0, none⟩)] w fun e w' => e = .returned (.bool (ltS f up a b)) ∧ ∃ n, w' = w.drewN n := by
  have HE : Hid (ltS f up a b = decide (a < b)) := ltS_rise hp hq rfl
  have HP : Hid (out f up a = up) := hp
  have HQ : Hid (out f up b = up) := hq
  clear hp hq
  by_cases h1 : a < b
  · have HG : Hid (decide (a < b) = true) := decide_eq_true h1
    go_enter Tryd.func25, Tryd.ntmps25
    go_wp2_with fail
    go_quiet (first | (go_at_call 26; exact quiet0 (onWay_any _ _ _ _)))
    rw [HP.out, HQ.out]
    cases up
    · go_wp2
      go_ret
      exact ⟨by rw [HE.out, HG.out]; rfl, _, rfl⟩
    · go_wp2
      go_ret
      exact ⟨by rw [HE.out, HG.out]; rfl, _, rfl⟩
  · have HG : Hid (decide (a < b) = false) := decide_eq_false h1
    go_enter Tryd.func25, Tryd.ntmps25
    go_wp2_with fail
    go_quiet (first | (go_at_call 26; exact quiet0 (onWay_any _ _ _ _)))
    rw [HP.out, HQ.out]
    cases up
    · go_wp2
      go_ret
      exact ⟨by rw [HE.out, HG.out]; rfl, _, rfl⟩
    · go_wp2
      go_ret
      exact ⟨by rw [HE.out, HG.out]; rfl, _, rfl⟩

set_option maxHeartbeats 2000000 in
theorem sweepFall (f : Int) (up p : Bool) (Bf Bu : Nat) (now a b : Int) (w : World) (hf : w.cell? ⟨Bf, 0, none⟩ = some (.int .i64 f)) (hu : w.cell? ⟨Bu, 0, none⟩ = some (.bool up)) (hp : out f up a = p) (hq : out f up b = p) (h : p ≠ up) :
    Calls Tryd.prog 25 #[.int .i64 now, .int .i64 a, .int .i64 b, .pointer (some ⟨Bf, 0, none⟩), .pointer (some ⟨Bu, 0, none⟩)] w fun e w' => e = .returned (.bool (ltS f up a b)) ∧ ∃ n, w' = w.drewN n := by
  have HE : Hid (ltS f up a b = decide (b < a)) := ltS_fall hp hq h
  have HP : Hid (out f up a = p) := hp
  have HQ : Hid (out f up b = p) := hq
  clear hp hq
  by_cases h1 : b < a
  · have HG : Hid (decide (b < a) = true) := decide_eq_true h1
    go_enter Tryd.func25, Tryd.ntmps25
    go_wp2_with fail
    go_quiet (first | (go_at_call 26; exact quiet0 (onWay_any _ _ _ _)))
    rw [HP.out, HQ.out]
    cases p <;> cases up
    · exact absurd rfl h
    · go_wp2
      go_ret
      exact ⟨by rw [HE.out, HG.out]; rfl, _, rfl⟩
    · go_wp2
      go_ret
      exact ⟨by rw [HE.out, HG.out]; rfl, _, rfl⟩
    · exact absurd rfl h
  · have HG : Hid (decide (b < a) = false) := decide_eq_false h1
    go_enter Tryd.func25, Tryd.ntmps25
    go_wp2_with fail
    go_quiet (first | (go_at_call 26; exact quiet0 (onWay_any _ _ _ _)))
    rw [HP.out, HQ.out]
    cases p <;> cases up
    · exact absurd rfl h
    · go_wp2
      go_ret
      exact ⟨by rw [HE.out, HG.out]; rfl, _, rfl⟩
    · go_wp2
      go_ret
      exact ⟨by rw [HE.out, HG.out]; rfl, _, rfl⟩
    · exact absurd rfl h

theorem sweep1_any (f : Int) (up : Bool) (Bf Bu : Nat) (now a b : Int) (w : World) (hf : w.cell? ⟨Bf, 0, none⟩ = some (.int .i64 f)) (hu : w.cell? ⟨Bu, 0, none⟩ = some (.bool up)) :
    Calls Tryd.prog 25 #[.int .i64 now, .int .i64 a, .int .i64 b, .pointer (some ⟨Bf, 0, none⟩), .pointer (some ⟨Bu, 0, none⟩)] w fun e w' => e = .returned (.bool (ltS f up a b)) ∧ ∃ n, w' = w.drewN n := by
  by_cases h : out f up a = out f up b
  · by_cases h2 : out f up a = up
    · exact sweepRise f up Bf Bu now a b w hf hu h2 (h.symm.trans h2)
    · exact sweepFall f up _ Bf Bu now a b w hf hu rfl h.symm h2
  · exact sweepOut f up _ _ Bf Bu now a b w hf hu rfl rfl h

end Go.Proofs.YtckdknkgadhmjaaDoor
