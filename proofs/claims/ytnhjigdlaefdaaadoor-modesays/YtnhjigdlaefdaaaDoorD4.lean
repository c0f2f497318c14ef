/- This text proves what mode.Show answers of any number: its letters, and what is wrong; no memory that was there is written; no condition. -/
import Derived.Test.YtnhjigdlaefdaaaDoorD1
import Derived.Test.YtnhjigdlaefdaaaDoorLo
import Derived.Lib.SlBytesConst
namespace Go.Proofs.YtnhjigdlaefdaaaDoor
open Go.RowKit Go.Deep

/-- Nine bytes of the call's own. -/
structure Bt (w : World) (g : Nat) (f : Nat → UInt8) : Prop where
  cell : ∀ i, i < 9 → w.cell? ⟨g, i, none⟩ = some (.int .u8 ((f i).toNat : Int))
  loose : ∀ i, i < 9 → w.frozen? ⟨g, i, none⟩ = false

theorem Bt.set {w : World} {g k : Nat} {f : Nat → UInt8} (h : Bt w g f) (hk : k < 9) : Bt (w.setCell ⟨g, k, none⟩ (.int .u8 45)) g (fun i => if i = k then 45 else f i) := by
  constructor
  · intro i hi
    by_cases e : i = k
    · subst e
      rw [World.cell?_setCell_same' _ _ _ (by rw [h.cell i hi]; rfl), if_pos rfl]
      rfl
    · rw [World.cell?_setCell_other _ _ _ _ (by simp), if_neg e]
      exact h.cell i hi
  · intro i hi
    rw [World.frozen?_setCell]
    exact h.loose i hi

def bts : Array Value := #[.int .u8 114, .int .u8 119, .int .u8 120, .int .u8 114, .int .u8 119, .int .u8 120, .int .u8 114, .int .u8 119, .int .u8 120]

theorem bt_new (w : World) (t : TypeId) : Bt (w.alloc (.cells bts t (9, 10))) w.heap.size lt := by
  constructor
  · intro i hi
    rw [World.cell?_alloc_mark]
    rcases i with _ | _ | _ | _ | _ | _ | _ | _ | _ | i
    all_goals first | omega | rfl
  · intro i hi
    rw [World.frozen?_alloc_mark]
    simp
    omega

/-- What stands there while letters are struck. -/
def shf (m k i : Nat) : UInt8 := if i < k then ltr m i else lt i
theorem shf_skip {m k : Nat} (h : m.testBit (8 - k) = true) : shf m (k + 1) = shf m k := by
  funext i
  unfold shf
  by_cases e : i = k
  · subst e; simp [ltr, h]
  · by_cases h2 : i < k
    · rw [if_pos h2, if_pos (by omega)]
    · rw [if_neg h2, if_neg (by omega)]
theorem shf_put {m k : Nat} (h : m.testBit (8 - k) = false) : shf m (k + 1) = fun i => if i = k then 45 else shf m k i := by
  funext i
  unfold shf
  by_cases e : i = k
  · subst e; simp [ltr, h]
  · rw [if_neg e]
    by_cases h2 : i < k
    · rw [if_pos h2, if_pos (by omega)]
    · rw [if_neg h2, if_neg (by omega)]

theorem lets_get (m j : Nat) (hj : j < (lets m).length) : (lets m)[j] = ltr m j := by simp [lets]

theorem and_bit (m i : Nat) : m &&& 2 ^ i = 0 ↔ m.testBit i = false := by
  constructor
  · intro h
    have := congrArg (fun x => x.testBit i) h
    simpa only [Nat.testBit_and, Nat.testBit_two_pow_self, Bool.and_true, Nat.zero_testBit] using this
  · intro h
    refine Nat.eq_of_testBit_eq fun j => ?_
    rw [Nat.testBit_and, Nat.zero_testBit, Nat.testBit_two_pow]
    by_cases e : i = j
    · subst e; rw [h]; rfl
    · rw [decide_eq_false e, Bool.and_false]

theorem bt_text {w : World} {g m : Nat} (h : Bt w g (shf m 9)) (c : Nat) : (convert 45 9 (.slice (some ⟨g, 0, none⟩) 9 c)).run Tryd.prog w = .ok (.string ⟨(lets m).toArray⟩) w := by
  have := run_convert_bytes_back (P := Tryd.prog) w 45 9 5 ⟨g, 0, none⟩ c (lets m) Tryd.underlying45 Tryd.underlying5 Tryd.underlying9 (fun j hj => by
    have h9 : j < 9 := by rw [lets_len] at hj; exact hj
    rw [addr_at, h.cell j h9, lets_get m j hj]
    simp only [shf, if_pos h9])
  rw [lets_len] at this
  exact this

set_option maxHeartbeats 4000000 in
theorem show_any (m : Int) (w : World) :
    Calls Tryd.prog 11 #[.int .i64 m] w fun e w' => e = .returned (.tuple #[.string (shT m), errV (shE m)]) ∧ Below w.heap.size w w' := by
  have HM : Hid (∀ w, Calls Tryd.prog 14 #[.int .i64 m] w fun e w' => e = .returned (.bool (okM m)) ∧ w = w') := fun w => isMode_any m w
  cases hm : okM m
  · have e1 : shE m = 1 := by simp [shE, hm]
    have e2 : shT m = ⟨#[]⟩ := by simp [shT, e1]
    rw [e1, e2]
    rw [hm] at HM
    clear hm e1 e2
    go_enter Tryd.func11, Tryd.ntmps11
    go_wp2_with fail
    refine (HM.out _).mono ?_
    rintro e w' ⟨rfl, rfl⟩
    go_wp2
    go_ret2
    exact ⟨rfl, Below.refl _ _⟩
  · have e1 : shE m = 0 := by simp [shE, hm]
    have e2 : shT m = ⟨(lets m.toNat).toArray⟩ := by simp [shT, e1]
    rw [e1, e2]
    rw [hm] at HM
    simp only [okM, decide_eq_true_iff] at hm
    obtain ⟨M, rfl⟩ : ∃ M : Nat, m = M := ⟨m.toNat, by omega⟩
    have hM : M < 512 := by omega
    simp only [Int.toNat_natCast]
    clear e1 e2 hm
    have kc := fun (w : World) (C : Array Value) (n c : Nat) => Lib.run_convert_bytes_const (P := Tryd.prog) w 45 5 C n c Tryd.underlying45 Tryd.underlying5
    have HB0 : Hid (Bt (w.alloc (.cells bts 5 (9, 10))) w.heap.size (shf M 0)) := bt_new w 5
    have HB1 : Hid (Below w.heap.size w (w.alloc (.cells bts 5 (9, 10)))) := below_alloc _ _
    go_enter Tryd.func11, Tryd.ntmps11
    go_wp2_with fail
    refine (HM.out _).mono ?_
    rintro e w' ⟨rfl, rfl⟩
    go_wp2
    go_loopw [5, 14] (fun _ i wr => ∃ k : Nat, k ≤ 9 ∧ i = .int .i64 k ∧ Bt wr w.heap.size (shf M k) ∧ Below w.heap.size w wr) (fun _ i _ => 9 - (intOf i).toNat)
    case atStart => exact ⟨0, Nat.zero_le _, rfl, HB0.out, HB1.out⟩
    case round =>
      obtain ⟨k, hk, rfl, hb, hw⟩ := hrel
      have HB : Hid (Bt wr w.heap.size (shf M k)) := hb
      have HW : Hid (Below w.heap.size w wr) := hw
      clear hb hw HB0 HB1 kc
      by_cases hlt : k < 9
      · have hp : 2 ^ (8 - k) ≤ 2 ^ 8 := Nat.pow_le_pow_right (by decide) (by omega)
        have hx := and_nat (p := M) (q := 2 ^ (8 - k)) (by omega) (by omega)
        have HA : Hid (∀ w, Calls Tryd.prog 21 #[.int .i64 (k : Int)] w fun e w' => e = .returned (.int .i64 ((2 ^ (8 - k) : Nat) : Int)) ∧ w = w') := fun w => bitAt_one k w hlt
        have HX : Hid (M &&& 2 ^ (8 - k) = 0 ↔ M.testBit (8 - k) = false) := and_bit M (8 - k)
        have j1 := HB.out.cell k hlt
        have j2 := HB.out.loose k hlt
        generalize 2 ^ (8 - k) = P at hp hx HA HX
        generalize M &&& P = Q at hx HX
        generalize (shf M k k).toNat = B at j1
        by_cases hq : Q = 0
        · have HN : Hid (Bt (wr.setCell ⟨w.heap.size, k, none⟩ (.int .u8 45)) w.heap.size (shf M (k + 1))) := by
            have := HB.out.set hlt
            rw [← shf_put (HX.out.1 hq)] at this
            exact this
          have hqb : ((Q : Int) == 0) = true := by simp [hq]
          clear hq
          go_wp2_with fail
          refine (HA.out _).mono ?_
          rintro e w' ⟨rfl, rfl⟩
          go_wp2
          go_roundw
          case rel => exact ⟨k + 1, by omega, by go_num, HN.out, HW.out.setCell (p := ⟨w.heap.size, k, none⟩) (Nat.le_refl _) _⟩
          case measure => simp [intOf]; omega
        · have HN : Hid (Bt wr w.heap.size (shf M (k + 1))) := by
            have := HB.out
            rw [← shf_skip (by cases h : M.testBit (8 - k); exact absurd (HX.out.2 h) hq; rfl)] at this
            exact this
          have hqb : ((Q : Int) == 0) = false := by simp [hq]
          clear hq
          go_wp2_with fail
          refine (HA.out _).mono ?_
          rintro e w' ⟨rfl, rfl⟩
          go_wp2
          go_roundw
          case rel => exact ⟨k + 1, by omega, by go_num, HN.out, HW.out⟩
          case measure => simp [intOf]; omega
      · obtain rfl : k = 9 := by omega
        have kt := bt_text HB.out 9
        go_wp2
        go_ret2
        exact ⟨rfl, HW.out⟩

end Go.Proofs.YtnhjigdlaefdaaaDoor
