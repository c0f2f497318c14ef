/- This text proves what place.Block answers, right or wrong: the block at a way, and what is told; nothing is written; the only condition is that the slice lies there and has room. -/
import Derived.Test.YtepnbkonhaongaaDoorP2r
namespace Go.Proofs.YtepnbkonhaongaaDoor
open Go.RowKit Go.Deep

set_option maxHeartbeats 2000000 in
theorem block_any (w : World) (v : Value) (xs : List Int) (hx : SliceC w v xs) :
    Calls Tryd.prog 18 #[v] w fun e w' => e = .returned (.tuple #[.int .i64 (wayN xs), errV (wayE xs)]) ∧ ∃ q, w' = w.drewN q := by
  have HK : Hid _ := fun (_ : Nat) => check_any w v xs hx
  by_cases he : wayE xs = 0
  · rw [he, errV_zero] at HK ⊢
    rcases way_kinds he with ⟨x, rfl, h1, h2⟩ | ⟨y, rfl, h1, h2⟩ | ⟨y, z, rfl, h1, h2, h3, h4⟩
    · rw [(way_one ⟨h1, h2⟩).2]
      obtain ⟨b, o, c, rfl, hc, hl, hcell, _⟩ := hx.first
      have c0 := hcell 0 (by simp)
      rw [nth_0, Nat.add_zero] at c0
      have b1 : (x == 4) = false := by simp; omega
      have b2 : (x == 5) = false := by simp; omega
      clear hx hcell he hc hl
      simp only [List.length_nil, Nat.zero_add] at HK ⊢
      go_enter Tryd.func18, Tryd.ntmps18
      go_wp2_with (go_at_call 33; refine (HK.out 0).mono ?_; rintro e w' ⟨rfl, rfl⟩)
      go_ret2
      exact ⟨rfl, 0, rfl⟩
    · rw [(way_two ⟨h1, h2⟩).2]
      obtain ⟨b, o, c, rfl, hc, hl, hcell, _⟩ := hx.first
      have c0 := hcell 0 (by simp)
      have c1 := hcell 1 (by simp)
      rw [nth_0, Nat.add_zero] at c0
      rw [nth_1] at c1
      clear hx hcell he hc hl
      simp only [List.length_nil, List.length_cons, Nat.zero_add] at HK ⊢
      go_enter Tryd.func18, Tryd.ntmps18
      go_wp2_with (go_at_call 33; refine (HK.out 0).mono ?_; rintro e w' ⟨rfl, rfl⟩)
      go_ret2
      exact ⟨rfl, 0, rfl⟩
    · rw [(way_three ⟨h1, h2⟩ ⟨h3, h4⟩).2]
      obtain ⟨b, o, c, rfl, hc, hl, hcell, _⟩ := hx.first
      have c0 := hcell 0 (by simp)
      have c1 := hcell 1 (by simp)
      have c2 := hcell 2 (by simp)
      rw [nth_0, Nat.add_zero] at c0
      rw [nth_1] at c1
      rw [nth_2] at c2
      clear hx hcell he hc hl
      simp only [List.length_nil, List.length_cons, Nat.zero_add] at HK ⊢
      go_enter Tryd.func18, Tryd.ntmps18
      go_wp2_with (go_at_call 33; refine (HK.out 0).mono ?_; rintro e w' ⟨rfl, rfl⟩)
      go_quiet (fail)
      go_wp2
      go_ret2
      exact ⟨rfl, nq, rfl⟩
  · rw [wayN_no he]
    rw [errV_pos he] at HK ⊢
    obtain ⟨a, c, rfl, _, _⟩ := hx
    clear he
    generalize ((wayE xs : Nat) : Int) = z at HK ⊢
    go_enter Tryd.func18, Tryd.ntmps18
    go_wp2_with (go_at_call 33; refine (HK.out 0).mono ?_; rintro e w' ⟨rfl, rfl⟩)
    go_ret2
    exact ⟨rfl, 0, rfl⟩

end Go.Proofs.YtepnbkonhaongaaDoor
