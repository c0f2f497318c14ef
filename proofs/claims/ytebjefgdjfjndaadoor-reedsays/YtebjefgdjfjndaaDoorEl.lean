/- This text proves nothing of the program: taking one unknown after the other away leaves the factors that come to so many bytes at so many others; no condition. -/
import Derived.Test.YtebjefgdjfjndaaDoorItp
namespace Go.Proofs.YtebjefgdjfjndaaDoor

/-- The sum of products. -/
def dot (f v : Nat → Nat) (m : Nat) : Nat := Nat.rec 0 (fun j r => r ^^^ gm (f j) (v j)) m

theorem dot_zero (f v : Nat → Nat) : dot f v 0 = 0 := rfl
theorem dot_succ (f v : Nat → Nat) (m : Nat) : dot f v (m + 1) = dot f v m ^^^ gm (f m) (v m) := rfl

theorem dot_byte {f v : Nat → Nat} (hf : BytesF f) (hv : BytesF v) : ∀ m, dot f v m < 256
  | 0 => by rw [dot_zero]; decide
  | m + 1 => by rw [dot_succ]; exact xor_byte (dot_byte hf hv m) (gm_byte (hf m) (hv m))

theorem dot_congr {f g v : Nat → Nat} : ∀ {m : Nat}, (∀ j, j < m → f j = g j) → dot f v m = dot g v m
  | 0, _ => rfl
  | m + 1, h => by rw [dot_succ, dot_succ, dot_congr (fun j hj => h j (by omega)), h m (by omega)]

theorem dot_scale {f v : Nat → Nat} {s : Nat} (hf : BytesF f) (hv : BytesF v) (hs : s < 256) : ∀ m, dot (fun j => gm (f j) s) v m = gm (dot f v m) s
  | 0 => by rw [dot_zero, dot_zero, zero_gm]
  | m + 1 => by rw [dot_succ, dot_succ, dot_scale hf hv hs m, gm_left, gm_assoc (hf m) hs (hv m), gm_comm hs (hv m), gm_assoc (hf m) (hv m) hs]

theorem dot_add {f g v : Nat → Nat} {s : Nat} (hg : BytesF g) (hv : BytesF v) (hs : s < 256) : ∀ m, dot (fun j => f j ^^^ gm (g j) s) v m = dot f v m ^^^ gm (dot g v m) s
  | 0 => by rw [dot_zero, dot_zero, dot_zero, zero_gm, Nat.xor_self]
  | m + 1 => by rw [dot_succ, dot_succ, dot_succ, dot_add hg hv hs m, gm_left (f m), gm_left (dot g v m), gm_assoc (hg m) hs (hv m), gm_comm hs (hv m), gm_assoc (hg m) (hv m) hs, xor4]

theorem dot_long {f v : Nat → Nat} {k : Nat} (h : ∀ j, k ≤ j → v j = 0) : ∀ m, k ≤ m → dot f v m = dot f v k
  | 0, hm => by rw [show k = 0 by omega]
  | m + 1, hm => by
    by_cases e : k = m + 1
    · rw [e]
    · rw [dot_succ, dot_long h m (by omega), h m (by omega), gm_zero, Nat.xor_zero]

/-- A row that has 1 at one place, and 0 at all others. -/
theorem dot_unit {f v : Nat → Nat} {i : Nat} (hv : BytesF v) : ∀ m, (∀ j, j < m → f j = if i = j then 1 else 0) → dot f v m = if i < m then v i else 0
  | 0, _ => by rw [dot_zero, if_neg (by omega)]
  | m + 1, h => by
    rw [dot_succ, dot_unit hv m (fun j hj => h j (by omega)), h m (by omega)]
    by_cases e : i = m
    · subst e
      rw [if_neg (by omega), if_pos rfl, if_pos (by omega), one_gm (hv i), Nat.zero_xor]
    · rw [if_neg e, zero_gm, Nat.xor_zero]
      by_cases hlt : i < m
      · rw [if_pos hlt, if_pos (by omega)]
      · rw [if_neg hlt, if_neg (by omega)]

/-- The rows at the start: powers of the byte, and what the factors come to behind them. -/
def M0 (X Y : Nat → Nat) (n : Nat) (i j : Nat) : Nat := if j < n then gpow (X i) j else Y i

theorem dot_start {X Y v : Nat → Nat} {n i : Nat} (hX : ∀ i, X i < 256) (hv : BytesF v) : dot (M0 X Y n i) v (n + 1) = evF v (X i) n ^^^ gm (Y i) (v n) := by
  have h : ∀ m, m ≤ n → dot (M0 X Y n i) v m = evF v (X i) m := by
    intro m
    induction m with
    | zero => intro _; rfl
    | succ m ih =>
      intro hm
      rw [dot_succ, ih (by omega), evF_succ]
      unfold M0
      rw [if_pos (by omega), gm_comm (gpow_byte (hX i)) (hv m)]
  rw [dot_succ, h n (Nat.le_refl _)]
  congr 1
  unfold M0
  rw [if_neg (by omega)]

/-- What is kept while one unknown after the other is taken away. -/
structure Elim (n k : Nat) (X Y : Nat → Nat) (M : Nat → Nat → Nat) : Prop where
  bytes : ∀ i, BytesF (M i)
  unit : ∀ i j, i < n → j < k → M i j = if i = j then 1 else 0
  sols : ∀ v, BytesF v → (∀ i, i < n → dot (M i) v (n + 1) = 0) → ∀ i, i < n → dot (M0 X Y n i) v (n + 1) = 0

theorem elim_start {n : Nat} {X Y : Nat → Nat} (hX : ∀ i, X i < 256) (hY : ∀ i, Y i < 256) : Elim n 0 X Y (M0 X Y n) := by
  refine ⟨fun i j => ?_, fun i j _ h => by omega, fun v _ h => h⟩
  unfold M0
  split
  · exact gpow_byte (hX i)
  · exact hY i

def upd {α : Type} (V : Nat → α) (k : Nat) (v : α) : Nat → α := fun i => if i = k then v else V i

theorem upd_at {α : Type} (V : Nat → α) (k : Nat) (v : α) : upd V k v k = v := if_pos rfl
theorem upd_else {α : Type} (V : Nat → α) {k i : Nat} (v : α) (h : i ≠ k) : upd V k v i = V i := if_neg h

/-- The row of the pivot, divided. -/
def oneOf (M : Nat → Nat → Nat) (a k : Nat) : Nat → Nat := fun j => gm (M a j) (gpow (M a k) 254)
/-- The rows behind the exchange. -/
def M2 (M : Nat → Nat → Nat) (a k : Nat) : Nat → Nat → Nat := upd (upd M a (M k)) k (oneOf M a k)
/-- The rows behind one turn, the first r of them done. -/
def M3 (M : Nat → Nat → Nat) (a k r : Nat) : Nat → Nat → Nat := fun i => if i < r ∧ i ≠ k then (fun j => M2 M a k i j ^^^ gm (oneOf M a k j) (M2 M a k i k)) else M2 M a k i

theorem one_byte {n k a : Nat} {X Y : Nat → Nat} {M : Nat → Nat → Nat} (h : Elim n k X Y M) : BytesF (oneOf M a k) := fun j => gm_byte (h.bytes a j) (gpow_byte (h.bytes a k))
theorem M2_byte {n k a : Nat} {X Y : Nat → Nat} {M : Nat → Nat → Nat} (h : Elim n k X Y M) (i : Nat) : BytesF (M2 M a k i) := by
  unfold M2 upd
  split
  · exact one_byte h
  · split
    · exact h.bytes k
    · exact h.bytes i
theorem M3_byte {n k a r : Nat} {X Y : Nat → Nat} {M : Nat → Nat → Nat} (h : Elim n k X Y M) (i : Nat) : BytesF (M3 M a k r i) := by
  unfold M3
  split
  · exact fun j => xor_byte (M2_byte h i j) (gm_byte (one_byte h j) (M2_byte h i k))
  · exact M2_byte h i

theorem one_one {p : Nat} (hp : p < 256) (h0 : p ≠ 0) : gm p (gpow p 254) = 1 := by
  rw [gm_comm hp (gpow_byte hp), ← gpow_succ, fermat hp h0]

theorem elim_step {n k a : Nat} {X Y : Nat → Nat} {M : Nat → Nat → Nat} (h : Elim n k X Y M) (hk : k < n) (hka : k ≤ a) (han : a < n) (hne : M a k ≠ 0) : Elim n (k + 1) X Y (M3 M a k n) := by
  have hp : M a k < 256 := h.bytes a k
  have hone : ∀ j, j < k → oneOf M a k j = 0 := fun j hj => by
    unfold oneOf
    rw [h.unit a j han hj, if_neg (by omega), zero_gm]
  have honek : oneOf M a k k = 1 := one_one hp hne
  have hM3k : M3 M a k n k = oneOf M a k := by
    unfold M3
    rw [if_neg (by simp)]
    unfold M2
    rw [upd_at]
  have hM3 : ∀ i, i < n → i ≠ k → M3 M a k n i = fun j => M2 M a k i j ^^^ gm (oneOf M a k j) (M2 M a k i k) := fun i hi hik => by
    unfold M3
    rw [if_pos ⟨hi, hik⟩]
  refine ⟨M3_byte h, fun i j hi hj => ?_, fun v hv hall => ?_⟩
  · by_cases hik : i = k
    · subst hik
      rw [hM3k]
      by_cases e : j = i
      · subst e; rw [honek, if_pos rfl]
      · rw [hone j (by omega), if_neg (fun e' => e e'.symm)]
    · rw [hM3 i hi hik]
      show M2 M a k i j ^^^ gm (oneOf M a k j) (M2 M a k i k) = _
      by_cases e : j = k
      · subst e
        rw [honek, one_gm (M2_byte h i j), Nat.xor_self, if_neg hik]
      · rw [hone j (by omega), zero_gm, Nat.xor_zero]
        unfold M2
        rw [upd_else _ _ hik]
        by_cases ea : i = a
        · subst ea
          rw [upd_at, h.unit k j hk (by omega), if_neg (by omega), if_neg (by omega)]
        · rw [upd_else _ _ ea, h.unit i j hi (by omega)]
  · have d1 : dot (oneOf M a k) v (n + 1) = 0 := by have := hall k hk; rwa [hM3k] at this
    have d2 : ∀ i, i < n → i ≠ k → dot (M2 M a k i) v (n + 1) = 0 := fun i hi hik => by
      have := hall i hi
      rw [hM3 i hi hik, dot_add (one_byte h) hv (M2_byte h i k), d1, zero_gm, Nat.xor_zero] at this
      exact this
    have d3 : dot (M a) v (n + 1) = 0 := by
      have e : dot (oneOf M a k) v (n + 1) = gm (dot (M a) v (n + 1)) (gpow (M a k) 254) := dot_scale (h.bytes a) hv (gpow_byte hp) (n + 1)
      rw [d1] at e
      rcases gm_null (dot_byte (h.bytes a) hv _) (gpow_byte hp) e.symm with e | e
      · exact e
      · exfalso
        have := one_one hp hne
        rw [e, gm_zero] at this
        omega
    refine h.sols v hv fun i hi => ?_
    by_cases ea : i = a
    · rw [ea]; exact d3
    · by_cases hik : i = k
      · have := d2 a han (fun e => ea (hik.trans e.symm))
        unfold M2 at this
        rw [upd_else _ _ (fun e => ea (hik.trans e.symm)), upd_at] at this
        rw [hik]; exact this
      · have := d2 i hi hik
        unfold M2 at this
        rw [upd_else _ _ hik, upd_else _ _ ea] at this
        exact this

theorem M3_here (M : Nat → Nat → Nat) (a k r : Nat) : M3 M a k r r = M2 M a k r := by unfold M3; rw [if_neg (by omega)]
theorem M3_pivot (M : Nat → Nat → Nat) (a k r : Nat) : M3 M a k r k = oneOf M a k := by unfold M3; rw [if_neg (by simp)]; unfold M2; rw [upd_at]

/-- The row that is taken away from, behind it. -/
def nextOf (M : Nat → Nat → Nat) (a k r : Nat) : Nat → Nat := fun j => M2 M a k r j ^^^ gm (oneOf M a k j) (M2 M a k r k)

theorem M3_same {M : Nat → Nat → Nat} {a k r : Nat} (h : r = k ∨ M2 M a k r k = 0) (i q : Nat) : M3 M a k r i q = M3 M a k (r + 1) i q := by
  unfold M3
  by_cases e : i = r
  · subst e
    rw [if_neg (by omega)]
    rcases h with h | h
    · rw [if_neg (by omega)]
    · by_cases e2 : i = k
      · rw [if_neg (by omega)]
      · rw [if_pos ⟨by omega, e2⟩]
        show M2 M a k i q = M2 M a k i q ^^^ gm (oneOf M a k q) (M2 M a k i k)
        rw [h, gm_zero, Nat.xor_zero]
  · by_cases c : i < r ∧ i ≠ k
    · rw [if_pos c, if_pos ⟨by omega, c.2⟩]
    · rw [if_neg c, if_neg (fun d => c ⟨by omega, d.2⟩)]

theorem M3_upd {M : Nat → Nat → Nat} {a k r : Nat} (h : r ≠ k) (i q : Nat) : upd (M3 M a k r) r (nextOf M a k r) i q = M3 M a k (r + 1) i q := by
  by_cases e : i = r
  · subst e
    rw [upd_at]
    unfold M3 nextOf
    rw [if_pos ⟨by omega, h⟩]
  · rw [upd_else _ _ e]
    unfold M3
    by_cases c : i < r ∧ i ≠ k
    · rw [if_pos c, if_pos ⟨by omega, c.2⟩]
    · rw [if_neg c, if_neg (fun d => c ⟨by omega, d.2⟩)]

/-- There is always a row that has the unknown. -/
theorem elim_pivot {n k : Nat} {X Y : Nat → Nat} {M : Nat → Nat → Nat} (h : Elim n k X Y M) (hk : k < n) (hX : ∀ i, X i < 256) (hg : Grows n X) : ∃ i, k ≤ i ∧ i < n ∧ M i k ≠ 0 := by
  by_cases hall : ∀ i, k ≤ i → i < n → M i k = 0
  · exfalso
    have hvb : BytesF (fun j => if j < k then M j k else if j = k then 1 else 0) := fun j => by
      show (if j < k then M j k else if j = k then 1 else 0) < 256
      split
      · exact h.bytes j k
      · split <;> decide
    have hz : ∀ j, k + 1 ≤ j → (fun j => if j < k then M j k else if j = k then 1 else 0) j = 0 := fun j hj => by
      show (if j < k then M j k else if j = k then 1 else 0) = 0
      rw [if_neg (by omega), if_neg (by omega)]
    have h0 := h.sols (fun j => if j < k then M j k else if j = k then 1 else 0) hvb (fun i hi => by
      rw [dot_long hz (n + 1) (by omega), dot_succ, dot_unit hvb k (fun j hj => h.unit i j hi hj)]
      show (if i < k then (if i < k then M i k else if i = k then 1 else 0) else 0) ^^^ gm (M i k) (if k < k then M k k else if k = k then 1 else 0) = 0
      rw [if_neg (Nat.lt_irrefl k), if_pos rfl, gm_one (h.bytes i k)]
      by_cases hik : i < k
      · rw [if_pos hik, if_pos hik, Nat.xor_self]
      · rw [if_neg hik, hall i (by omega) hi, Nat.xor_self])
    have h1 := null_of hg (fun i _ => hX i) hvb (fun i hi => by
      have := h0 i hi
      rw [dot_start hX hvb, if_neg (show ¬ n < k by omega), if_neg (show ¬ n = k by omega), gm_zero, Nat.xor_zero] at this
      exact this) k hk
    have h2 : (if k < k then M k k else if k = k then 1 else 0) = 0 := h1
    rw [if_neg (Nat.lt_irrefl k), if_pos rfl] at h2
    omega
  · simp only [Classical.not_forall] at hall
    obtain ⟨i, h1, h2, h3⟩ := hall
    exact ⟨i, h1, h2, h3⟩

/-- What is left behind the rows are the factors. -/
theorem elim_end {n : Nat} {X Y : Nat → Nat} {M : Nat → Nat → Nat} (h : Elim n n X Y M) (hX : ∀ i, X i < 256) (hY : ∀ i, Y i < 256) : Thru n X Y (fun i => if i < n then M i n else 0) := by
  have hvb : BytesF (fun j => if j < n then M j n else 1) := fun j => by
    show (if j < n then M j n else 1) < 256
    split
    · exact h.bytes j n
    · decide
  refine ⟨fun i => ?_, fun i hi => ?_⟩
  · show (if i < n then M i n else 0) < 256
    split
    · exact h.bytes i n
    · decide
  · have h0 := h.sols (fun j => if j < n then M j n else 1) hvb (fun i hi => by
      rw [dot_succ, dot_unit hvb n (fun j hj => h.unit i j hi hj), if_pos hi]
      show (if i < n then M i n else 1) ^^^ gm (M i n) (if n < n then M n n else 1) = 0
      rw [if_pos hi, if_neg (Nat.lt_irrefl n), gm_one (h.bytes i n), Nat.xor_self]) i hi
    rw [dot_start hX hvb] at h0
    rw [if_neg (Nat.lt_irrefl n), gm_one (hY i)] at h0
    rw [← xor_null h0]
    exact evF_congr fun j hj => by show (if j < n then M j n else 0) = (if j < n then M j n else 1); rw [if_pos hj, if_pos hj]

end Go.Proofs.YtebjefgdjfjndaaDoor
