/- This text proves plain mathematics of trees of sums: where values are cut, the sum at the top, the way up from a value, and that it leads to the top; it speaks of no call; no condition. -/
import Derived.Test.YtfokhdoeehdegaaDoorGen
namespace Go.Proofs.YtfokhdoeehdegaaDoor

/-- The sum of a value, and the sum of two sums. -/
def lf (v : Int) : Int := (7 * v + 3) % 9973
def jn (a b : Int) : Int := (31 * a + 57 * b + 11) % 9973

theorem lf_in (v : Int) : 0 ≤ lf v ∧ lf v ≤ 9972 := by unfold lf; omega
theorem jn_in (a b : Int) : 0 ≤ jn a b ∧ jn a b ≤ 9972 := by unfold jn; omega

/-- Where so many values are cut, as long as there are at most 16. -/
def hf (n : Nat) : Nat := if n ≤ 2 then 1 else if n ≤ 4 then 2 else if n ≤ 8 then 4 else 8

theorem hf_pos (n : Nat) : 1 ≤ hf n := by unfold hf; (repeat' split) <;> omega
theorem hf_lt {n : Nat} (h : 2 ≤ n) : hf n < n := by unfold hf; (repeat' split) <;> omega
theorem hf_le8 (n : Nat) : hf n ≤ 8 := by unfold hf; (repeat' split) <;> omega

/-- How often so many can be halved. -/
def lg (n : Nat) : Nat := if n ≤ 1 then 0 else if n ≤ 2 then 1 else if n ≤ 4 then 2 else if n ≤ 8 then 3 else 4

theorem lg_cut {n : Nat} (h : 2 ≤ n) (h16 : n ≤ 16) : lg (hf n) + 1 ≤ lg n ∧ lg (n - hf n) + 1 ≤ lg n := by
  have : ∀ m, m ≤ 16 → 2 ≤ m → lg (hf m) + 1 ≤ lg m ∧ lg (m - hf m) + 1 ≤ lg m := by decide
  exact this n h16 h

/-- The sum at the top. -/
def root : Nat → List Int → Int
  | 0, _ => 0
  | f + 1, xs => if xs.length = 1 then lf (nth xs 0) else jn (root f (xs.take (hf xs.length))) (root f (xs.drop (hf xs.length)))

/-- The way up from a value: at each cut the other part's sum, and whether that stands on the left. -/
def way : Nat → List Int → Nat → List (Bool × Int)
  | 0, _, _ => []
  | f + 1, xs, i => if xs.length = 1 then [] else
      if i < hf xs.length then way f (xs.take (hf xs.length)) i ++ [(false, root f (xs.drop (hf xs.length)))]
      else way f (xs.drop (hf xs.length)) (i - hf xs.length) ++ [(true, root f (xs.take (hf xs.length)))]

/-- One side up, and all of them. -/
def oneUp (s : Int) (x : Bool × Int) : Int := if x.1 then jn x.2 s else jn s x.2
def goUp (s : Int) (l : List (Bool × Int)) : Int := l.foldl oneUp s

theorem goUp_snoc (s : Int) (l : List (Bool × Int)) (x : Bool × Int) : goUp s (l ++ [x]) = oneUp (goUp s l) x := by simp [goUp]

theorem root_one {f : Nat} {xs : List Int} (h : xs.length = 1) : root (f + 1) xs = lf (nth xs 0) := by simp [root, h]
theorem root_cut {f : Nat} {xs : List Int} (h : xs.length ≠ 1) : root (f + 1) xs = jn (root f (xs.take (hf xs.length))) (root f (xs.drop (hf xs.length))) := by simp [root, h]
theorem way_one {f : Nat} {xs : List Int} (h : xs.length = 1) (i : Nat) : way (f + 1) xs i = [] := by simp [way, h]
theorem way_low {f : Nat} {xs : List Int} {i : Nat} (h : xs.length ≠ 1) (hi : i < hf xs.length) : way (f + 1) xs i = way f (xs.take (hf xs.length)) i ++ [(false, root f (xs.drop (hf xs.length)))] := by simp [way, h, hi]
theorem way_high {f : Nat} {xs : List Int} {i : Nat} (h : xs.length ≠ 1) (hi : ¬ i < hf xs.length) : way (f + 1) xs i = way f (xs.drop (hf xs.length)) (i - hf xs.length) ++ [(true, root f (xs.take (hf xs.length)))] := by simp [way, h, hi]

theorem root_in (f : Nat) (xs : List Int) : 0 ≤ root f xs ∧ root f xs ≤ 9972 := by
  cases f with
  | zero => simp [root]
  | succ f =>
    unfold root
    split
    · exact lf_in _
    · exact jn_in _ _

/-- Where a list is cut, both parts have values, and fewer. -/
theorem parts {xs : List Int} {f : Nat} (h1 : 1 ≤ xs.length) (h2 : xs.length ≠ 1) (hf' : xs.length ≤ f + 1) :
    1 ≤ (xs.take (hf xs.length)).length ∧ (xs.take (hf xs.length)).length ≤ f ∧ 1 ≤ (xs.drop (hf xs.length)).length ∧ (xs.drop (hf xs.length)).length ≤ f ∧ (xs.take (hf xs.length)).length = hf xs.length ∧ (xs.drop (hf xs.length)).length = xs.length - hf xs.length := by
  have a := hf_pos xs.length
  have b := hf_lt (n := xs.length) (by omega)
  simp only [List.length_take, List.length_drop]
  refine ⟨?_, ?_, ?_, ?_, ?_, ?_⟩ <;> first | trivial | omega

theorem root_more : ∀ (f g : Nat) (xs : List Int), 1 ≤ xs.length → xs.length ≤ f → xs.length ≤ g → root f xs = root g xs
  | 0, _, xs, h1, h2, _ => by omega
  | _ + 1, 0, xs, h1, _, h3 => by omega
  | f + 1, g + 1, xs, h1, h2, h3 => by
    by_cases h : xs.length = 1
    · rw [root_one h, root_one h]
    · obtain ⟨p1, p2, p3, p4, _⟩ := parts h1 h h2
      obtain ⟨_, q2, _, q4, _⟩ := parts h1 h h3
      rw [root_cut h, root_cut h, root_more f g _ p1 p2 q2, root_more f g _ p3 p4 q4]

theorem way_more : ∀ (f g : Nat) (xs : List Int) (i : Nat), 1 ≤ xs.length → xs.length ≤ f → xs.length ≤ g → way f xs i = way g xs i
  | 0, _, xs, _, h1, h2, _ => by omega
  | _ + 1, 0, xs, _, h1, _, h3 => by omega
  | f + 1, g + 1, xs, i, h1, h2, h3 => by
    by_cases h : xs.length = 1
    · rw [way_one h, way_one h]
    · obtain ⟨p1, p2, p3, p4, _⟩ := parts h1 h h2
      obtain ⟨_, q2, _, q4, _⟩ := parts h1 h h3
      by_cases hi : i < hf xs.length
      · rw [way_low h hi, way_low h hi, way_more f g _ i p1 p2 q2, root_more f g _ p3 p4 q4]
      · rw [way_high h hi, way_high h hi, way_more f g _ _ p3 p4 q4, root_more f g _ p1 p2 q2]

/-- The way of a value leads, from another value on, to the top of the values with that one in its place. -/
theorem up_way : ∀ (f : Nat) (xs : List Int) (i : Nat) (v : Int), i < xs.length → xs.length ≤ f → goUp (lf v) (way f xs i) = root f (xs.set i v)
  | 0, xs, i, v, h1, h2 => by omega
  | f + 1, xs, i, v, h1, h2 => by
    by_cases h : xs.length = 1
    · rw [way_one h, root_one (by simpa using h)]
      obtain rfl : i = 0 := by omega
      rw [nth_lt (by simpa using h1)]
      simp [goUp]
    · obtain ⟨p1, p2, p3, p4, p5, p6⟩ := parts (f := f) (by omega) h h2
      rw [root_cut (by simpa using h)]
      rw [List.length_set]
      by_cases hi : i < hf xs.length
      · rw [way_low h hi, goUp_snoc, up_way f _ i v (by omega) p2]
        simp only [oneUp]
        rw [List.take_set, List.drop_set_of_lt hi]
        simp
      · rw [way_high h hi, goUp_snoc, up_way f _ (i - hf xs.length) v (by omega) p4]
        simp only [oneUp, if_true]
        rw [List.drop_set, if_neg hi, List.take_set_of_le (by omega)]

theorem way_root {xs : List Int} {i f : Nat} (h1 : i < xs.length) (h2 : xs.length ≤ f) : goUp (lf (nth xs i)) (way f xs i) = root f xs := by
  rw [up_way f xs i _ h1 h2, nth_lt h1, List.set_getElem_self]

theorem way_in : ∀ (f : Nat) (xs : List Int) (i : Nat), ∀ x ∈ way f xs i, 0 ≤ x.2 ∧ x.2 ≤ 9972
  | 0, xs, i, x, h => by simp [way] at h
  | f + 1, xs, i, x, h => by
    by_cases h1 : xs.length = 1
    · rw [way_one h1] at h; simp at h
    · by_cases hi : i < hf xs.length
      · rw [way_low h1 hi, List.mem_append] at h
        rcases h with h | h
        · exact way_in f _ _ x h
        · rw [List.mem_singleton] at h; subst h; exact root_in _ _
      · rw [way_high h1 hi, List.mem_append] at h
        rcases h with h | h
        · exact way_in f _ _ x h
        · rw [List.mem_singleton] at h; subst h; exact root_in _ _

/-- A way is no longer than values can be halved. -/
theorem way_len : ∀ (f : Nat) (xs : List Int) (i : Nat), 1 ≤ xs.length → xs.length ≤ f → xs.length ≤ 16 → (way f xs i).length ≤ lg xs.length
  | 0, xs, i, h1, h2, _ => by omega
  | f + 1, xs, i, h1, h2, h3 => by
    by_cases h : xs.length = 1
    · rw [way_one h]; simp
    · obtain ⟨p1, p2, p3, p4, p5, p6⟩ := parts (f := f) (by omega) h h2
      have := lg_cut (n := xs.length) (by omega) h3
      by_cases hi : i < hf xs.length
      · rw [way_low h hi, List.length_append]
        have := way_len f (xs.take (hf xs.length)) i p1 p2 (by omega)
        rw [p5] at this
        simp only [List.length_singleton]
        omega
      · rw [way_high h hi, List.length_append]
        have := way_len f (xs.drop (hf xs.length)) (i - hf xs.length) p3 p4 (by omega)
        rw [p6] at this
        simp only [List.length_singleton]
        omega

theorem lg_le (n : Nat) : lg n ≤ 4 := by unfold lg; (repeat' split) <;> omega

/-- What is wrong with values. -/
def isV (v : Int) : Prop := 0 ≤ v ∧ v ≤ 1000
def vB (v : Int) : Bool := decide (0 ≤ v ∧ v ≤ 1000)
def chkE (xs : List Int) : Nat := if xs.length = 0 then 5 else if 16 < xs.length then 4 else if xs.all vB then 0 else 1

theorem chkE_none {xs : List Int} (h : xs.length = 0) : chkE xs = 5 := by simp [chkE, h]
theorem chkE_full {xs : List Int} (h : 16 < xs.length) : chkE xs = 4 := by unfold chkE; rw [if_neg (by omega), if_pos h]
theorem chkE_ok {xs : List Int} (h1 : xs.length ≠ 0) (h2 : xs.length ≤ 16) (h : ∀ k, k < xs.length → isV (nth xs k)) : chkE xs = 0 := by
  unfold chkE
  rw [if_neg h1, if_neg (by omega), if_pos]
  rw [List.all_eq_true]
  intro x hx
  obtain ⟨i, hi, rfl⟩ := List.getElem_of_mem hx
  rw [vB, decide_eq_true_iff, ← nth_lt hi]
  exact h i hi
theorem chkE_range {xs : List Int} {k : Nat} (h1 : xs.length ≠ 0) (h2 : xs.length ≤ 16) (hk : k < xs.length) (h : ¬ isV (nth xs k)) : chkE xs = 1 := by
  unfold chkE
  rw [if_neg h1, if_neg (by omega), if_neg]
  intro ha
  rw [List.all_eq_true] at ha
  have := ha _ (nth_mem hk)
  rw [vB, decide_eq_true_iff] at this
  exact h this
theorem chkE_zero {xs : List Int} (h : chkE xs = 0) : 1 ≤ xs.length ∧ xs.length ≤ 16 ∧ ∀ k, k < xs.length → isV (nth xs k) := by
  unfold chkE at h
  split at h
  · omega
  · split at h
    · omega
    · split at h
      · rename_i h1 h2 h3
        refine ⟨by omega, by omega, fun k hk => ?_⟩
        rw [List.all_eq_true] at h3
        have := h3 _ (nth_mem hk)
        rwa [vB, decide_eq_true_iff] at this
      · omega

/-- What is wrong with a value and a way up from it. -/
def sB (x : Bool × Int) : Bool := decide (0 ≤ x.2 ∧ x.2 ≤ 9972)
def upE (v : Int) (l : List (Bool × Int)) : Nat := if 16 < l.length then 4 else if vB v then (if l.all sB then 0 else 1) else 1

end Go.Proofs.YtfokhdoeehdegaaDoor
