/- This text says in plain words of numbers what locks are: of each place what its owner has, whether a lock may be, who stands against it, what Set and Free leave, and the locks that List tells; and proves plain facts on them; it speaks of no call; no condition. -/
namespace Go.Proofs.YtigoacnbbichoaaDoor

/-- A lock as it is kept: where it begins (owners by 64), how many places, alone or not. -/
structure Lk where
  p : Nat
  z : Nat
  a : Bool

/-- Places from the first on up to the second one are so; all others as they were. -/
def upS (S : Nat → Nat) (a b s : Nat) : Nat → Nat := fun p => if a ≤ p ∧ p < b then s else S p
def nS : Nat → Nat := fun _ => 0

/-- May it be? -/
def okK (o f z : Int) : Bool := decide (0 ≤ o ∧ o < 4 ∧ 0 ≤ f ∧ 1 ≤ z ∧ z ≤ 64 - f)
theorem okK_iff {o f z : Int} : okK o f z = true ↔ 0 ≤ o ∧ o < 4 ∧ 0 ≤ f ∧ 1 ≤ z ∧ z ≤ 64 - f := by unfold okK; simp

/-- Does a place stand against a lock? -/
def bad (s : Nat) (a : Bool) : Bool := s == 2 || (s == 1 && a)
/-- Does an owner, of whose places the first is given, stand against the n places from the f-th on? -/
def ag (R : Nat → Nat) (a : Bool) (f : Nat) : Nat → Bool
  | 0 => false
  | n + 1 => ag R a f n || bad (R (f + n)) a
def row (S : Nat → Nat) (k : Nat) : Nat → Nat := fun i => S (k * 64 + i)
/-- The least of the owners from the k-th on, but for o, who stands against it; n: how many are left. -/
def tsF (S : Nat → Nat) (o f z : Nat) (a : Bool) (k : Nat) : Nat → Int
  | 0 => -1
  | n + 1 => if k ≠ o ∧ ag (row S k) a f z = true then (k : Int) else tsF S o f z a (k + 1) n
def tsN (S : Nat → Nat) (o f z : Int) (a : Bool) : Int := if okK o f z = true then tsF S o.toNat f.toNat z.toNat a 0 4 else 0
def tsE (o f z : Int) : Nat := if okK o f z = true then 0 else 1

/-- What is there ahead of a place of the same owner. -/
def ahd (S : Nat → Nat) (p : Nat) : Nat := if p % 64 = 0 then 0 else S (p - 1)
/-- The last lock has one place more. -/
def bump (l : List Lk) : List Lk :=
  match l.reverse with
  | [] => []
  | x :: r => (⟨x.p, x.z + 1, x.a⟩ :: r).reverse
/-- The locks of the first places. -/
def lsN (S : Nat → Nat) : Nat → List Lk
  | 0 => []
  | p + 1 => if S p = 0 then lsN S p else if S p = ahd S p then bump (lsN S p) else lsN S p ++ [⟨p, 1, S p == 2⟩]

def sOf (a : Bool) : Nat := if a then 2 else 1
/-- What is left when a run of an owner's is so. -/
def puS (S : Nat → Nat) (o f z : Int) (s : Nat) : Nat → Nat := upS S (o.toNat * 64 + f.toNat) (o.toNat * 64 + f.toNat + z.toNat) s
def puE (S : Nat → Nat) : Nat := if (lsN S 256).length > 24 then 4 else 0
def puR (S S' : Nat → Nat) : Nat → Nat := if puE S' = 0 then S' else S

def stE (S : Nat → Nat) (o f z : Int) (a : Bool) : Nat := if okK o f z = true then (if tsN S o f z a = -1 then puE (puS S o f z (sOf a)) else 6) else 1
def stS (S : Nat → Nat) (o f z : Int) (a : Bool) : Nat → Nat := if stE S o f z a = 0 then puS S o f z (sOf a) else S
def frE (S : Nat → Nat) (o f z : Int) : Nat := if okK o f z = true then puE (puS S o f z 0) else 1
def frS (S : Nat → Nat) (o f z : Int) : Nat → Nat := if frE S o f z = 0 then puS S o f z 0 else S

/-! what stands against -/
theorem ag_false {R : Nat → Nat} {a : Bool} {f : Nat} : ∀ {n}, ag R a f n = false ↔ ∀ i, i < n → bad (R (f + i)) a = false
  | 0 => by simp [ag]
  | n + 1 => by
    unfold ag
    rw [Bool.or_eq_false_iff, ag_false (n := n)]
    constructor
    · intro h i hi
      by_cases e : i = n
      · rw [e]; exact h.2
      · exact h.1 i (by omega)
    · exact fun h => ⟨fun i hi => h i (by omega), h n (by omega)⟩
theorem ag_step {R : Nat → Nat} {a : Bool} {f n : Nat} (h : ag R a f n = false) (hb : bad (R (f + n)) a = false) : ag R a f (n + 1) = false := by
  unfold ag; rw [h, hb]; rfl
theorem ag_up {R : Nat → Nat} {a : Bool} {f n m : Nat} (h : ag R a f n = true) (hm : n ≤ m) : ag R a f m = true := by
  cases hx : ag R a f m with
  | true => rfl
  | false =>
    have h1 := ag_false.1 hx
    have h2 : ag R a f n = false := ag_false.2 fun i hi => h1 i (by omega)
    rw [h] at h2; cases h2
theorem ag_found {R : Nat → Nat} {a : Bool} {f n m : Nat} (hn : n < m) (hb : bad (R (f + n)) a = true) : ag R a f m = true := by
  refine ag_up (n := n + 1) ?_ hn
  unfold ag; rw [hb]; simp

theorem tsF_none {S : Nat → Nat} {o f z : Nat} {a : Bool} : ∀ {n k}, tsF S o f z a k n = -1 ↔ ∀ j, k ≤ j → j < k + n → j ≠ o → ag (row S j) a f z = false
  | 0, k => by
    constructor
    · intro _ j h1 h2; omega
    · intro _; rfl
  | n + 1, k => by
    unfold tsF
    by_cases h : k ≠ o ∧ ag (row S k) a f z = true
    · rw [if_pos h]
      constructor
      · intro e; omega
      · intro e
        have := e k (Nat.le_refl _) (by omega) h.1
        rw [h.2] at this; cases this
    · rw [if_neg h, tsF_none (n := n) (k := k + 1)]
      constructor
      · intro e j h1 h2 h3
        by_cases ej : j = k
        · subst ej
          cases hx : ag (row S j) a f z with
          | false => rfl
          | true => exact absurd ⟨h3, hx⟩ h
        · exact e j (by omega) (by omega) h3
      · exact fun e j h1 h2 h3 => e j (by omega) (by omega) h3
theorem tsF_some {S : Nat → Nat} {o f z : Nat} {a : Bool} : ∀ {n k}, tsF S o f z a k n ≠ -1 → ∃ j : Nat, tsF S o f z a k n = (j : Int) ∧ k ≤ j ∧ j < k + n ∧ j ≠ o ∧ ag (row S j) a f z = true
  | 0, k, h => absurd rfl h
  | n + 1, k, h => by
    unfold tsF at h ⊢
    by_cases hc : k ≠ o ∧ ag (row S k) a f z = true
    · rw [if_pos hc]; exact ⟨k, rfl, Nat.le_refl _, by omega, hc.1, hc.2⟩
    · rw [if_neg hc] at h ⊢
      obtain ⟨j, h1, h2, h3, h4⟩ := tsF_some (n := n) (k := k + 1) h
      exact ⟨j, h1, by omega, by omega, h4⟩

/-! the list of locks -/
theorem bump_snoc (l : List Lk) (x : Lk) : bump (l ++ [x]) = l ++ [⟨x.p, x.z + 1, x.a⟩] := by
  unfold bump; simp
theorem bump_len (l : List Lk) : (bump l).length = l.length := by
  rcases List.eq_nil_or_concat l with rfl | ⟨a, x, rfl⟩
  · rfl
  · rw [List.concat_eq_append, bump_snoc]; simp

theorem lsN_free {S : Nat → Nat} {p : Nat} (h : S p = 0) : lsN S (p + 1) = lsN S p := by
  show (if S p = 0 then _ else _) = _; rw [if_pos h]
theorem lsN_same {S : Nat → Nat} {p : Nat} (h : ¬ S p = 0) (h2 : S p = ahd S p) : lsN S (p + 1) = bump (lsN S p) := by
  show (if S p = 0 then _ else _) = _; rw [if_neg h, if_pos h2]
theorem lsN_new {S : Nat → Nat} {p : Nat} (h : ¬ S p = 0) (h2 : ¬ S p = ahd S p) : lsN S (p + 1) = lsN S p ++ [⟨p, 1, S p == 2⟩] := by
  show (if S p = 0 then _ else _) = _; rw [if_neg h, if_neg h2]

theorem lsN_le (S : Nat → Nat) : ∀ n, (lsN S n).length ≤ n
  | 0 => Nat.le_refl _
  | n + 1 => by
    have := lsN_le S n
    by_cases h : S n = 0
    · rw [lsN_free h]; omega
    · by_cases h2 : S n = ahd S n
      · rw [lsN_same h h2, bump_len]; omega
      · rw [lsN_new h h2]; simp; omega

/-- No places are kept but as free, shared, or alone. -/
def Bd (S : Nat → Nat) : Prop := ∀ p, S p ≤ 2
theorem bd_n : Bd nS := fun _ => Nat.zero_le _
theorem bd_up {S : Nat → Nat} (h : Bd S) (a b : Nat) {s : Nat} (hs : s ≤ 2) : Bd (upS S a b s) := fun p => by
  unfold upS; split
  · exact hs
  · exact h p

/-- What is true of the locks of the first n places. -/
structure Lod (S : Nat → Nat) (n : Nat) (l : List Lk) : Prop where
  one : ∀ x ∈ l, 1 ≤ x.z ∧ x.p + x.z ≤ n ∧ x.p % 64 + x.z ≤ 64 ∧ ∀ i, x.p ≤ i → i < x.p + x.z → S i = sOf x.a
  two : l.Pairwise fun x y => x.p + x.z ≤ y.p ∧ (x.p + x.z = y.p → y.p % 64 ≠ 0 → x.a ≠ y.a)
  last : ∀ q, n = q + 1 → S q ≠ 0 → ∃ a x, l = a ++ [x] ∧ x.p + x.z = n

theorem sOf_ne (a : Bool) : sOf a ≠ 0 := by cases a <;> decide
theorem sOf_beq {s : Nat} (h : s ≤ 2) (h0 : ¬ s = 0) : sOf (s == 2) = s := by
  rcases (show s = 1 ∨ s = 2 by omega) with rfl | rfl <;> rfl

theorem lod (S : Nat → Nat) (hS : Bd S) : ∀ n, Lod S n (lsN S n)
  | 0 => ⟨fun x hx => by simp [lsN] at hx, by simp [lsN], fun q h => by omega⟩
  | n + 1 => by
    have H := lod S hS n
    by_cases h : S n = 0
    · rw [lsN_free h]
      exact ⟨fun x hx => by obtain ⟨h1, h2, h3⟩ := H.one x hx; exact ⟨h1, by omega, h3⟩, H.two, fun q hq h0 => by rw [show q = n by omega] at h0; exact absurd h h0⟩
    · by_cases h2 : S n = ahd S n
      · rw [lsN_same h h2]
        have hm : ¬ n % 64 = 0 := fun e => by unfold ahd at h2; rw [if_pos e] at h2; exact h h2
        obtain ⟨m, rfl⟩ : ∃ m, n = m + 1 := ⟨n - 1, by omega⟩
        have hp : S (m + 1) = S m := by unfold ahd at h2; rw [if_neg hm] at h2; simpa using h2
        obtain ⟨a, x, ha, hx⟩ := H.last m rfl (by omega)
        rw [ha, bump_snoc]
        rw [ha] at H
        obtain ⟨x1, x2, x3, x4⟩ := H.one x (by simp)
        refine ⟨fun y hy => ?_, ?_, fun q hq _ => ⟨a, _, rfl, by show x.p + (x.z + 1) = _; omega⟩⟩
        · rcases List.mem_append.1 hy with hy | hy
          · obtain ⟨h1, h2, h3⟩ := H.one y (List.mem_append.2 (.inl hy)); exact ⟨h1, by omega, h3⟩
          · obtain rfl := List.mem_singleton.1 hy
            refine ⟨by show 1 ≤ x.z + 1; omega, by show x.p + (x.z + 1) ≤ _; omega, by show x.p % 64 + (x.z + 1) ≤ 64; omega, fun i hi1 hi2 => ?_⟩
            by_cases e : i = m + 1
            · subst e
              rw [hp]
              exact x4 m (by have : x.p ≤ m + 1 := hi1; omega) (by omega)
            · exact x4 i hi1 (by have : i < x.p + (x.z + 1) := hi2; omega)
        · obtain ⟨t1, t2, t3⟩ := List.pairwise_append.1 H.two
          refine List.pairwise_append.2 ⟨t1, List.pairwise_singleton _ _, fun y hy u hu => ?_⟩
          obtain rfl := List.mem_singleton.1 hu
          exact t3 y hy x (by simp)
      · rw [lsN_new h h2]
        refine ⟨fun y hy => ?_, ?_, fun q hq _ => ⟨_, _, rfl, rfl⟩⟩
        · rcases List.mem_append.1 hy with hy | hy
          · obtain ⟨h1, h2, h3⟩ := H.one y hy; exact ⟨h1, by omega, h3⟩
          · obtain rfl := List.mem_singleton.1 hy
            refine ⟨Nat.le_refl _, Nat.le_refl _, by show n % 64 + 1 ≤ 64; omega, fun i hi1 hi2 => ?_⟩
            obtain rfl : i = n := by have h1 : n ≤ i := hi1; have h2 : i < n + 1 := hi2; omega
            show S i = sOf (S i == 2)
            rw [sOf_beq (hS i) h]
        · refine List.pairwise_append.2 ⟨H.two, List.pairwise_singleton _ _, fun y hy u hu => ?_⟩
          obtain rfl := List.mem_singleton.1 hu
          obtain ⟨y1, y2, y3, y4⟩ := H.one y hy
          refine ⟨y2, fun he hm hya => h2 ?_⟩
          have he : y.p + y.z = n := he
          have hm : n % 64 ≠ 0 := hm
          have hya : y.a = (S n == 2) := hya
          have := y4 (n - 1) (by omega) (by omega)
          rw [hya, sOf_beq (hS n) h] at this
          unfold ahd
          rw [if_neg hm, this]

/-! how many locks -/
/-- Does a lock begin here? -/
def beg (S : Nat → Nat) (p : Nat) : Nat := if S p = 0 then 0 else if S p = ahd S p then 0 else 1
theorem len_step (S : Nat → Nat) (n : Nat) : (lsN S (n + 1)).length = (lsN S n).length + beg S n := by
  unfold beg
  by_cases h : S n = 0
  · rw [lsN_free h, if_pos h]; omega
  · by_cases h2 : S n = ahd S n
    · rw [lsN_same h h2, bump_len, if_neg h, if_pos h2]; omega
    · rw [lsN_new h h2, if_neg h, if_neg h2]; simp
theorem len_le {S T : Nat → Nat} (h : ∀ n, beg S n ≤ beg T n) : ∀ n, (lsN S n).length ≤ (lsN T n).length
  | 0 => Nat.le_refl _
  | n + 1 => by rw [len_step, len_step]; have := len_le h n; have := h n; omega
/-- All of an owner's places are free: no more locks. -/
theorem len_clear (S : Nat → Nat) (o n : Nat) : (lsN (upS S (o * 64) (o * 64 + 64) 0) n).length ≤ (lsN S n).length := by
  refine len_le (fun p => ?_) n
  by_cases hp : o * 64 ≤ p ∧ p < o * 64 + 64
  · have : upS S (o * 64) (o * 64 + 64) 0 p = 0 := if_pos hp
    unfold beg; rw [if_pos this]; omega
  · have h1 : upS S (o * 64) (o * 64 + 64) 0 p = S p := if_neg hp
    have h2 : ahd (upS S (o * 64) (o * 64 + 64) 0) p = ahd S p := by
      unfold ahd
      by_cases hm : p % 64 = 0
      · rw [if_pos hm, if_pos hm]
      · rw [if_neg hm, if_neg hm]; exact if_neg (by omega)
    unfold beg; rw [h1, h2]; omega
/-- One run of an owner's alone: one lock at most. -/
theorem len_one {k f z s : Nat} (hz : f + z ≤ 64) : ∀ n, (lsN (upS nS (k * 64 + f) (k * 64 + f + z) s) n).length ≤ if k * 64 + f < n then 1 else 0
  | 0 => by simp [lsN]
  | n + 1 => by
    rw [len_step]
    have H := len_one (k := k) (f := f) (z := z) (s := s) hz n
    by_cases hp : k * 64 + f ≤ n ∧ n < k * 64 + f + z
    · by_cases hf : n = k * 64 + f
      · rw [if_neg (by omega)] at H
        rw [if_pos (by omega)]
        unfold beg; split
        · omega
        · split <;> omega
      · have h1 : upS nS (k * 64 + f) (k * 64 + f + z) s n = s := if_pos hp
        have h2 : ahd (upS nS (k * 64 + f) (k * 64 + f + z) s) n = s := by
          unfold ahd; rw [if_neg (by omega)]; exact if_pos (by omega)
        have hb : beg (upS nS (k * 64 + f) (k * 64 + f + z) s) n = 0 := by unfold beg; rw [h1, h2]; simp
        rw [hb, if_pos (by omega)]
        rw [if_pos (by omega)] at H
        omega
    · have h1 : upS nS (k * 64 + f) (k * 64 + f + z) s n = 0 := if_neg hp
      have hb : beg (upS nS (k * 64 + f) (k * 64 + f + z) s) n = 0 := if_pos h1
      rw [hb]
      by_cases hl : k * 64 + f < n
      · rw [if_pos hl] at H; rw [if_pos (by omega)]; omega
      · rw [if_neg hl] at H; split <;> omega

theorem lsN_congr {S T : Nat → Nat} (h : ∀ p, S p = T p) : S = T := funext h

end Go.Proofs.YtigoacnbbichoaaDoor
