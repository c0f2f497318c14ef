/- This text proves nothing of the program: factors as a function of the place, what they come to at a byte, rows added and multiplied, and that factors through so many points are just one; no condition. -/
import Derived.Test.YtebjefgdjfjndaaDoorPol
namespace Go.Proofs.YtebjefgdjfjndaaDoor

/-- What the first n factors come to at x. -/
def evF (f : Nat → Nat) (x : Nat) (n : Nat) : Nat := Nat.rec 0 (fun k r => r ^^^ gm (f k) (gpow x k)) n

theorem evF_zero (f : Nat → Nat) (x : Nat) : evF f x 0 = 0 := rfl
theorem evF_succ (f : Nat → Nat) (x n : Nat) : evF f x (n + 1) = evF f x n ^^^ gm (f n) (gpow x n) := rfl

theorem evN_evF (fs : List Nat) (x n : Nat) : evN fs x n = evF (fun i => fs.getD i 0) x n := rfl

theorem evF_congr {f g : Nat → Nat} {x : Nat} : ∀ {n : Nat}, (∀ i, i < n → f i = g i) → evF f x n = evF g x n
  | 0, _ => rfl
  | n + 1, h => by rw [evF_succ, evF_succ, evF_congr (fun i hi => h i (by omega)), h n (by omega)]

def BytesF (f : Nat → Nat) : Prop := ∀ i, f i < 256

theorem xor_byte {a b : Nat} (ha : a < 256) (hb : b < 256) : a ^^^ b < 256 := Nat.xor_lt_two_pow (n := 8) ha hb

theorem evF_byte {f : Nat → Nat} {x : Nat} (hf : BytesF f) (hx : x < 256) : ∀ n, evF f x n < 256
  | 0 => by rw [evF_zero]; decide
  | n + 1 => by rw [evF_succ]; exact xor_byte (evF_byte hf hx n) (gm_byte (hf n) (gpow_byte hx))

theorem evF_xor (f g : Nat → Nat) (x : Nat) : ∀ n, evF (fun i => f i ^^^ g i) x n = evF f x n ^^^ evF g x n
  | 0 => by rw [evF_zero, evF_zero, evF_zero, Nat.xor_self]
  | n + 1 => by rw [evF_succ, evF_succ, evF_succ, evF_xor f g x n, gm_left, xor4]

theorem evF_mul {g : Nat → Nat} {s x : Nat} (hs : s < 256) (hg : BytesF g) (hx : x < 256) : ∀ n, evF (fun i => gm s (g i)) x n = gm s (evF g x n)
  | 0 => by rw [evF_zero, evF_zero, gm_zero]
  | n + 1 => by rw [evF_succ, evF_succ, evF_mul hs hg hx n, gm_right, gm_assoc hs (hg n) (gpow_byte hx)]

theorem evF_add {f g : Nat → Nat} {s x : Nat} (hs : s < 256) (hg : BytesF g) (hx : x < 256) (n : Nat) : evF (fun i => f i ^^^ gm s (g i)) x n = evF f x n ^^^ gm s (evF g x n) := by
  rw [evF_xor f (fun i => gm s (g i)) x n, evF_mul hs hg hx n]

theorem evF_long {f : Nat → Nat} {x m : Nat} (h : ∀ i, m ≤ i → f i = 0) : ∀ n, m ≤ n → evF f x n = evF f x m
  | 0, hn => by rw [show m = 0 by omega]
  | n + 1, hn => by
    by_cases e : m = n + 1
    · rw [e]
    · rw [evF_succ, evF_long h n (by omega), h n (by omega), zero_gm, Nat.xor_zero]

/-- The row times the sum of the byte and r. -/
def nx (f : Nat → Nat) (r : Nat) : Nat → Nat := fun i => gm (f i) r ^^^ (if i = 0 then 0 else f (i - 1))

theorem nx_byte {f : Nat → Nat} {r : Nat} (hf : BytesF f) (hr : r < 256) : BytesF (nx f r) := by
  intro i
  unfold nx
  refine xor_byte (gm_byte (hf i) hr) ?_
  split
  · decide
  · exact hf _

theorem nx_long {f : Nat → Nat} {r m : Nat} (h : ∀ i, m ≤ i → f i = 0) : ∀ i, m + 1 ≤ i → nx f r i = 0 := by
  intro i hi
  unfold nx
  rw [if_neg (by omega), h i (by omega), h (i - 1) (by omega), zero_gm, Nat.xor_self]

theorem nx_ev {f : Nat → Nat} {r x : Nat} (hf : BytesF f) (hr : r < 256) (hx : x < 256) : ∀ n, evF (nx f r) x (n + 1) = gm (evF f x (n + 1)) r ^^^ gm (evF f x n) x
  | 0 => by
    rw [evF_succ, evF_zero, evF_succ, evF_zero, zero_gm, Nat.xor_zero, Nat.zero_xor, Nat.zero_xor, gpow_zero, gm_one (hf 0)]
    unfold nx
    rw [if_pos rfl, Nat.xor_zero, gm_one (gm_byte (hf 0) hr)]
  | n + 1 => by
    rw [evF_succ, nx_ev hf hr hx n, evF_succ f x (n + 1), gm_left]
    have e : gm (nx f r (n + 1)) (gpow x (n + 1)) = gm (gm (f (n + 1)) (gpow x (n + 1))) r ^^^ gm (gm (f n) (gpow x n)) x := by
      unfold nx
      rw [if_neg (by omega), Nat.add_sub_cancel, gm_left]
      congr 1
      · rw [gm_assoc (hf _) hr (gpow_byte hx), gm_comm hr (gpow_byte hx), gm_assoc (hf _) (gpow_byte hx) hr]
      · rw [gpow_succ, gm_assoc (hf _) (gpow_byte hx) hx]
    rw [e, xor4]
    congr 1
    rw [evF_succ f x n, gm_left (evF f x n)]

theorem nx_at {f : Nat → Nat} {r x n : Nat} (hf : BytesF f) (hr : r < 256) (hx : x < 256) (h : ∀ i, n ≤ i → f i = 0) : evF (nx f r) x (n + 1) = gm (evF f x n) (x ^^^ r) := by
  rw [nx_ev hf hr hx n, evF_long h (n + 1) (by omega), gm_right, Nat.xor_comm]

/-- Places that grow. -/
def Grows (n : Nat) (X : Nat → Nat) : Prop := ∀ i j, i < j → j < n → X i < X j

/-- The factors come to Y at X. -/
def Thru (n : Nat) (X Y f : Nat → Nat) : Prop := BytesF f ∧ ∀ i, i < n → evF f (X i) n = Y i

theorem roots_mono (fs : List Nat) : ∀ {m n : Nat}, m ≤ n → roots fs m ≤ roots fs n
  | m, 0, h => by rw [show m = 0 by omega]; exact Nat.le_refl _
  | m, n + 1, h => by
    by_cases e : m = n + 1
    · rw [e]; exact Nat.le_refl _
    · rw [roots_succ]; exact Nat.le_trans (roots_mono fs (by omega)) (Nat.le_add_right _ _)

theorem roots_grow {fs : List Nat} {n : Nat} {X : Nat → Nat} (hX : Grows n X) (h : ∀ i, i < n → ev fs (X i) = 0) : ∀ i, i < n → i + 1 ≤ roots fs (X i + 1)
  | 0, hi => by rw [roots_succ, if_pos (h 0 hi)]; omega
  | i + 1, hi => by
    have h1 := roots_grow hX h i (by omega)
    have h2 := hX i (i + 1) (by omega) hi
    have h3 := roots_mono fs (show X i + 1 ≤ X (i + 1) by omega)
    rw [roots_succ, if_pos (h (i + 1) hi)]
    omega

def lst (f : Nat → Nat) (n : Nat) : List Nat := (List.range n).map f

theorem lst_len (f : Nat → Nat) (n : Nat) : (lst f n).length = n := by simp [lst]
theorem lst_get {f : Nat → Nat} {n i : Nat} (h : i < n) : (lst f n).getD i 0 = f i := by simp [lst, h]
theorem lst_bytes {f : Nat → Nat} (hf : BytesF f) (n : Nat) : Bytes (lst f n) := by
  intro x hx
  obtain ⟨i, _, rfl⟩ := List.mem_map.1 hx
  exact hf i
theorem ev_lst {f : Nat → Nat} (hf : BytesF f) {x : Nat} (hx : x < 256) (n : Nat) : ev (lst f n) x = evF f x n := by
  rw [← evN_all (lst_bytes hf n) hx, lst_len, evN_evF]
  exact evF_congr fun i hi => lst_get hi

/-- Factors that come to nothing at so many places are nothing. -/
theorem null_of {n : Nat} {X f : Nat → Nat} (hX : Grows n X) (hb : ∀ i, i < n → X i < 256) (hf : BytesF f) (h : ∀ i, i < n → evF f (X i) n = 0) : ∀ i, i < n → f i = 0 := by
  intro i hi
  by_cases e : f i = 0
  · exact e
  · exfalso
    have h1 := lagrange n (lst f n) (by rw [lst_len]; exact Nat.le_refl _) (lst_bytes hf n) ⟨f i, List.mem_map.2 ⟨i, by simpa using hi, rfl⟩, e⟩
    rw [lst_len] at h1
    have h2 := roots_grow (fs := lst f n) hX (fun j hj => by rw [ev_lst hf (hb j hj)]; exact h j hj) (n - 1) (by omega)
    have h3 := roots_mono (lst f n) (show X (n - 1) + 1 ≤ 256 from hb (n - 1) (by omega))
    omega

theorem xor_null {a b : Nat} (h : a ^^^ b = 0) : a = b := by rw [← Nat.xor_zero a, ← Nat.xor_self b, ← Nat.xor_assoc, h, Nat.zero_xor]

/-- Factors through so many points are just one. -/
theorem Thru.one {n : Nat} {X Y f g : Nat → Nat} (hX : Grows n X) (hb : ∀ i, i < n → X i < 256) (hf : Thru n X Y f) (hg : Thru n X Y g) : ∀ i, i < n → f i = g i := by
  intro i hi
  refine xor_null (null_of (f := fun i => f i ^^^ g i) hX hb (fun i => xor_byte (hf.1 i) (hg.1 i)) (fun j hj => ?_) i hi)
  rw [evF_xor, hf.2 j hj, hg.2 j hj, Nat.xor_self]

theorem Thru.same {n : Nat} {X Y f g : Nat → Nat} (hX : Grows n X) (hb : ∀ i, i < n → X i < 256) (hf : Thru n X Y f) (hg : Thru n X Y g) (x : Nat) : evF f x n = evF g x n :=
  evF_congr (hf.one hX hb hg)

/-- The places of the first so many. -/
def fst (p : Nat → Bool) (many : Nat) : Nat → List Nat
  | 0 => []
  | k + 1 => if p k && decide ((fst p many k).length < many) then fst p many k ++ [k] else fst p many k

def cnt1 (p : Nat → Bool) : Nat → Nat
  | 0 => 0
  | k + 1 => cnt1 p k + (if p k then 1 else 0)

theorem fst_yes {p : Nat → Bool} {many k : Nat} (h1 : p k = true) (h2 : (fst p many k).length < many) : fst p many (k + 1) = fst p many k ++ [k] := by rw [fst, if_pos (by simp [h1, h2])]
theorem fst_no {p : Nat → Bool} {many k : Nat} (h : p k = false ∨ ¬ (fst p many k).length < many) : fst p many (k + 1) = fst p many k := by
  rw [fst, if_neg]
  rcases h with h | h
  · simp [h]
  · simp [h]

theorem fst_len (p : Nat → Bool) (many : Nat) : ∀ k, (fst p many k).length = min many (cnt1 p k)
  | 0 => by simp [fst, cnt1]
  | k + 1 => by
    have ih := fst_len p many k
    rw [cnt1]
    cases h : p k with
    | false => rw [fst_no (.inl h), ih]; simp
    | true =>
      by_cases h2 : (fst p many k).length < many
      · rw [fst_yes h h2, List.length_append, ih, List.length_singleton, if_pos rfl]; omega
      · rw [fst_no (.inr h2), ih, if_pos rfl]; omega

theorem fst_mem {p : Nat → Bool} {many : Nat} : ∀ {k x : Nat}, x ∈ fst p many k → x < k ∧ p x = true
  | 0, x, h => by simp [fst] at h
  | k + 1, x, h => by
    by_cases c : p k = true ∧ (fst p many k).length < many
    · rw [fst_yes c.1 c.2] at h
      rcases List.mem_append.1 h with h | h
      · have := fst_mem h; exact ⟨by omega, this.2⟩
      · obtain rfl := List.mem_singleton.1 h
        exact ⟨by omega, c.1⟩
    · rw [fst_no (by by_cases e : p k = true; exact .inr fun e2 => c ⟨e, e2⟩; exact .inl (by simpa using e))] at h
      have := fst_mem h
      exact ⟨by omega, this.2⟩

theorem fst_sorted (p : Nat → Bool) (many : Nat) : ∀ k, (fst p many k).Pairwise (· < ·)
  | 0 => by simp [fst]
  | k + 1 => by
    by_cases c : p k = true ∧ (fst p many k).length < many
    · rw [fst_yes c.1 c.2, List.pairwise_append]
      exact ⟨fst_sorted p many k, by simp, fun a ha b hb => by obtain rfl := List.mem_singleton.1 hb; exact (fst_mem ha).1⟩
    · rw [fst_no (by by_cases e : p k = true; exact .inr fun e2 => c ⟨e, e2⟩; exact .inl (by simpa using e))]
      exact fst_sorted p many k

theorem sorted_grows {l : List Nat} (h : l.Pairwise (· < ·)) : Grows l.length (fun i => l.getD i 0) := by
  intro i j hij hj
  have h1 := List.pairwise_iff_getElem.1 h i j (by omega) hj hij
  simp [show i < l.length by omega, hj]
  exact h1

theorem getD_mem {l : List Nat} {i : Nat} (h : i < l.length) : l.getD i 0 ∈ l := by
  simp [h]

theorem fst_grows (p : Nat → Bool) (many k : Nat) : Grows (fst p many k).length (fun i => (fst p many k).getD i 0) := sorted_grows (fst_sorted p many k)
theorem fst_at {p : Nat → Bool} {many k i : Nat} (h : i < (fst p many k).length) : (fst p many k).getD i 0 < k ∧ p ((fst p many k).getD i 0) = true := fst_mem (getD_mem h)

theorem cnt1_le (p : Nat → Bool) : ∀ k, cnt1 p k ≤ k
  | 0 => Nat.le_refl _
  | k + 1 => by have := cnt1_le p k; rw [cnt1]; split <;> omega

theorem cnt1_all {p : Nat → Bool} : ∀ {k : Nat}, (∀ i, i < k → p i = true) → cnt1 p k = k
  | 0, _ => rfl
  | k + 1, h => by rw [cnt1, cnt1_all (fun i hi => h i (by omega)), h k (by omega), if_pos rfl]

/-- Where all are there the first ones are the first numbers. -/
theorem fst_all {p : Nat → Bool} {many : Nat} : ∀ {k : Nat}, (∀ i, i < k → p i = true) → fst p many k = List.range (min many k)
  | 0, _ => by simp [fst]
  | k + 1, h => by
    have ih := fst_all (many := many) (k := k) (fun i hi => h i (by omega))
    by_cases h2 : k < many
    · rw [fst_yes (h k (by omega)) (by rw [ih, List.length_range]; omega), ih, show min many k = k by omega, show min many (k + 1) = k + 1 by omega, List.range_succ]
    · rw [fst_no (.inr (by rw [ih, List.length_range]; omega)), ih, show min many k = min many (k + 1) by omega]

end Go.Proofs.YtebjefgdjfjndaaDoor
