/- This text proves nothing of the program: it is the plain mathematics of tracks the other way round: a sweep in a mirror is a sweep, and goes as far; no condition. -/
import Derived.Test.YtckdknkgadhmjaaK1
namespace Go.Proofs.Ytckdknkgadhmjaa

/-- All tracks the other way round. -/
def mir (xs : List Int) : List Int := xs.map fun x => 99 - x

theorem mir_len (xs : List Int) : (mir xs).length = xs.length := by simp [mir]
theorem mir_nth {xs : List Int} {i : Nat} (h : i < xs.length) : nth (mir xs) i = 99 - nth xs i := by
  rw [nth_lt (by rw [mir_len]; exact h), nth_lt h]; simp [mir]
theorem mir_erase (xs : List Int) (k : Nat) : (mir xs).eraseIdx k = mir (xs.eraseIdx k) := by simp [mir, List.eraseIdx_eq_take_drop_succ]
theorem mir_take {xs : List Int} {k : Nat} (h : k < xs.length) : mir (xs.take k) ++ [99 - nth xs k] = mir (xs.take (k + 1)) := by
  rw [nth_lt h, List.take_succ_eq_append_getElem h]; simp only [mir, List.map_append, List.map_cons, List.map_nil]

theorem ltS_mir (f : Int) (up : Bool) (a b : Int) : ltS (99 - f) (!up) (99 - a) (99 - b) = ltS f up a b := by
  rw [Bool.eq_iff_iff]
  cases up
  · rw [show (!false) = true from rfl, ltS_up, ltS_down]; omega
  · rw [show (!true) = false from rfl, ltS_up, ltS_down]; omega

theorem pickN_mir (f : Int) (up : Bool) (xs : List Int) : ∀ k, k ≤ xs.length → pickN (ltS (99 - f) (!up)) (mir xs) k = pickN (ltS f up) xs k
  | 0, _ => rfl
  | k + 1, h => by
    rw [pickN, pickN, pickN_mir f up xs k (by omega), mir_nth (show k < xs.length by omega), mir_nth (pickN_lt (ltS f up) xs k xs.length (by omega) (by omega)), ltS_mir]

theorem ord_mir (f : Int) (up : Bool) : ∀ (n : Nat) (p p' : Int) (xs : List Int), xs.length = n → ord (fun _ => ltS (99 - f) (!up)) n p' (mir xs) = mir (ord (fun _ => ltS f up) n p xs)
  | 0, _, _, _, _ => rfl
  | n + 1, p, p', xs, h => by
    have hk := pickN_lt (ltS f up) xs xs.length xs.length (by omega) (Nat.le_refl _)
    rw [ord, ord, mir_len, pickN_mir f up xs xs.length (Nat.le_refl _), mir_nth hk, mir_erase, ord_mir f up n (nth xs (pickN (ltS f up) xs xs.length)) _ _ (erase_len hk h)]
    rfl

theorem dst_mir (a b : Int) : dst (99 - a) (99 - b) = dst a b := by unfold dst; split <;> split <;> omega
theorem farL_mir : ∀ (L : List Int) (s : Int), farL (99 - s) (mir L) = farL s L
  | [], _ => rfl
  | x :: L, s => by
    show dst (99 - s) (99 - x) + farL (99 - x) (mir L) = _
    rw [dst_mir, farL_mir L x, farL]

theorem hdE_mir {s : Int} {xs : List Int} (h : hdE s xs = 0) : hdE (99 - s) (mir xs) = 0 := by
  obtain ⟨h1, h2, h3⟩ := hdE_zero h
  refine hdE_ok (by rw [mir_len]; exact h1) (by simp [trk]; omega) fun k hk => ?_
  rw [mir_len] at hk
  have := h3 _ (nth_mem hk)
  rw [mir_nth hk]
  simp [trk]; omega

end Go.Proofs.Ytckdknkgadhmjaa
