/- This text proves what reed.Make answers in one form for all arguments, and that two rows of factors that are others come to others at more numbers than there are beside the data; the only condition is that the slices lie there. -/
import Derived.Test.YtebjefgdjfjndaaDoorRe6
import Derived.Test.YtebjefgdjfjndaaDoorIn
namespace Go.Proofs.YtebjefgdjfjndaaDoor
open Go.RowKit Go.Deep

theorem slice_nil (w : World) : SliceIs w (.slice none 0 0) [] := ⟨none, 0, rfl, Nat.zero_le _, fun h => absurd rfl h⟩

/-- The shards of data, by factors. -/
def Code (xs : List Int) (more : Int) (f : Nat → Nat) (ys : List Int) : Prop := Thru xs.length (fun i => i) (fun i => (nth xs i).toNat) f ∧ ys = fl (xs.length + more.toNat) (fun i => evF f i xs.length)

theorem make_any (w : World) (v : Value) (xs : List Int) (more : Int) (hx : SliceIs w v xs) :
    Calls Tryd.prog 6 #[v, .int .i64 more] w fun e w' => ∃ v' ys, e = .returned (.tuple #[v', errV (makeE xs more)]) ∧ SliceIs w' v' ys ∧ Below w.heap.size w w' ∧ (makeE xs more = 0 → ∃ f, Code xs more f ys) ∧ (makeE xs more ≠ 0 → v' = .slice none 0 0 ∧ ys = []) := by
  by_cases h : makeE xs more = 0
  · refine (make_ok w v xs more hx h).mono ?_
    rintro e w' ⟨v', f, ht, rfl, hs, hb⟩
    exact ⟨v', _, by rw [h]; rfl, hs, hb, fun _ => ⟨f, ht, rfl⟩, fun h' => absurd h h'⟩
  · refine (make_err w v xs more hx h).mono ?_
    rintro e w' ⟨rfl, rfl⟩
    exact ⟨_, [], rfl, slice_nil _, Below.refl _ _, fun h' => absurd h' h, fun _ => ⟨rfl, rfl⟩⟩

/-- Do two rows of factors part at a number? -/
def partB (f g : Nat → Nat) (n : Nat) (i : Nat) : Bool := !decide (evF f i n = evF g i n)

theorem roots_cnt {f g : Nat → Nat} {n : Nat} (hf : BytesF f) (hg : BytesF g) : ∀ m, m ≤ 256 → roots (lst (fun i => f i ^^^ g i) n) m + cnt1 (partB f g n) m = m
  | 0, _ => rfl
  | m + 1, hm => by
    have ih := roots_cnt hf hg (n := n) m (by omega)
    have hb : BytesF (fun i => f i ^^^ g i) := fun i => xor_byte (hf i) (hg i)
    rw [roots_succ, cnt1, ev_lst hb (by omega), evF_xor]
    by_cases e : evF f m n = evF g m n
    · rw [if_pos (by rw [e, Nat.xor_self]), if_neg (by simp [partB, e])]; omega
    · rw [if_neg (xor_ne e), if_pos (by simp [partB, e])]; omega

theorem part_many {f g : Nat → Nat} {n m : Nat} (hf : BytesF f) (hg : BytesF g) (hm : n + m ≤ 256) {i : Nat} (hne : evF f i n ≠ evF g i n) : m < cnt1 (partB f g n) (n + m) := by
  have h1 := roots_cnt hf hg (n := n) (n + m) hm
  have hb : BytesF (fun i => f i ^^^ g i) := fun i => xor_byte (hf i) (hg i)
  obtain ⟨j, hj, hnj⟩ : ∃ j, j < n ∧ f j ≠ g j := by
    by_cases h : ∀ j, j < n → f j = g j
    · exact absurd (evF_congr h) hne
    · simp only [Classical.not_forall] at h
      obtain ⟨j, hj, h⟩ := h
      exact ⟨j, hj, h⟩
  have h2 := lagrange n (lst (fun i => f i ^^^ g i) n) (by rw [lst_len]; exact Nat.le_refl _) (lst_bytes hb n) ⟨f j ^^^ g j, List.mem_map.2 ⟨j, by simpa using hj, rfl⟩, xor_ne hnj⟩
  rw [lst_len] at h2
  have h3 := roots_mono (lst (fun i => f i ^^^ g i) n) hm
  omega

theorem part_none {f g : Nat → Nat} {n : Nat} (h : ∀ i, evF f i n = evF g i n) : ∀ m, cnt1 (partB f g n) m = 0
  | 0 => rfl
  | m + 1 => by rw [cnt1, part_none h m, if_neg (by simp [partB, h m])]

theorem code_nth {xs : List Int} {more : Int} {f : Nat → Nat} {ys : List Int} (h : Code xs more f ys) {i : Nat} (hi : i < xs.length + more.toNat) : nth ys i = (evF f i xs.length : Int) := by
  rw [h.2, fl_nth hi]
theorem code_len {xs : List Int} {more : Int} {f : Nat → Nat} {ys : List Int} (h : Code xs more f ys) : ys.length = xs.length + more.toNat := by rw [h.2, fl_len]
theorem code_data {xs : List Int} {more : Int} {f : Nat → Nat} {ys : List Int} (h : Code xs more f ys) (hb : ∀ i, i < xs.length → isByte (nth xs i)) {i : Nat} (hi : i < xs.length) : nth xs i = (evF f i xs.length : Int) := by
  have h1 := h.1.2 i hi
  have h2 := (hb i hi).1
  have h3 : evF f i xs.length = (nth xs i).toNat := h1
  omega

theorem eqB_ext {xs ys : List Int} (hl : xs.length = ys.length) (h : eqB xs ys = false) : ∃ i, i < xs.length ∧ nth xs i ≠ nth ys i := by
  by_cases c : ∀ i, i < xs.length → nth xs i = nth ys i
  · rw [eqB_all hl c] at h; cases h
  · simp only [Classical.not_forall] at c
    obtain ⟨i, hi, c⟩ := c
    exact ⟨i, hi, c⟩

theorem eqB_iff {xs ys : List Int} : eqB xs ys = true ↔ xs = ys := by unfold eqB; rw [decide_eq_true_iff]

end Go.Proofs.YtebjefgdjfjndaaDoor
