/- This text proves plain facts on files with holes: what a write, a cut and a read do to a file's bytes and blocks; it speaks of no call; no condition. -/
import Derived.Test.YtepnbkonhaongaaDoorGen
namespace Go.Proofs.YtepnbkonhaongaaDoor

/-- A file: its size, its bytes, its blocks. -/
structure Fil where
  s : Nat
  c : Nat → Int
  h : Nat → Bool

/-- What is true of each file. -/
structure Wel (f : Fil) : Prop where
  big : f.s ≤ 64
  out : ∀ p, f.s ≤ p → f.c p = 0
  hole : ∀ p, f.h (p / 4) = false → f.c p = 0
  low : ∀ k, f.h k = true → 4 * k < f.s

def fil0 : Fil := ⟨0, fun _ => 0, fun _ => false⟩
theorem wel0 : Wel fil0 := ⟨by decide, fun _ _ => rfl, fun _ _ => rfl, fun _ h => by cases h⟩

/-- One byte more. -/
def put1 (f : Fil) (p : Nat) (b : Int) : Fil := ⟨f.s, fun q => if q = p then b else f.c q, fun k => if k = p / 4 then true else f.h k⟩
/-- Behind the first bytes of a list, at a place. -/
def putN (f : Fil) (a : Nat) (xs : List Int) : Nat → Fil
  | 0 => f
  | n + 1 => put1 (putN f a xs n) (a + n) (nth xs n)
theorem putN_s (f : Fil) (a : Nat) (xs : List Int) : ∀ n, (putN f a xs n).s = f.s
  | 0 => rfl
  | n + 1 => putN_s f a xs n
theorem putN_c (f : Fil) (a : Nat) (xs : List Int) : ∀ n p, (putN f a xs n).c p = if a ≤ p ∧ p < a + n then nth xs (p - a) else f.c p
  | 0, p => by
    rw [if_neg (by omega)]; rfl
  | n + 1, p => by
    show (if p = a + n then nth xs n else (putN f a xs n).c p) = _
    rw [putN_c f a xs n p]
    by_cases e : p = a + n
    · rw [if_pos e, if_pos (by omega), e, Nat.add_sub_cancel_left]
    · rw [if_neg e]
      by_cases e2 : a ≤ p ∧ p < a + n
      · rw [if_pos e2, if_pos (by omega)]
      · rw [if_neg e2, if_neg (by omega)]
theorem putN_h (f : Fil) (a : Nat) (xs : List Int) : ∀ n k, (putN f a xs n).h k = true ↔ f.h k = true ∨ ∃ i, i < n ∧ k = (a + i) / 4
  | 0, k => ⟨fun h => .inl h, fun h => by
      rcases h with h | ⟨i, hi, _⟩
      · exact h
      · omega⟩
  | n + 1, k => by
    show (if k = (a + n) / 4 then true else (putN f a xs n).h k) = true ↔ _
    by_cases e : k = (a + n) / 4
    · rw [if_pos e]
      exact ⟨fun _ => .inr ⟨n, by omega, e⟩, fun _ => rfl⟩
    · rw [if_neg e, putN_h f a xs n k]
      constructor
      · rintro (h | ⟨i, hi, h⟩)
        · exact .inl h
        · exact .inr ⟨i, by omega, h⟩
      · rintro (h | ⟨i, hi, h⟩)
        · exact .inl h
        · by_cases ei : i = n
          · subst ei; exact absurd h e
          · exact .inr ⟨i, by omega, h⟩

/-- What is wrong with bytes that are to be written at a place. -/
def isS (n : Int) : Bool := decide (0 ≤ n) && decide (n ≤ 64)
def badB (b : Int) : Bool := decide (b < 0) || decide (255 < b)
def wrE (a : Int) (xs : List Int) : Nat := if 64 < xs.length then 4 else if isS a = false ∨ xs.any badB = true then 1 else if 64 < a + xs.length then 4 else 0
theorem isS_iff {n : Int} : isS n = true ↔ 0 ≤ n ∧ n ≤ 64 := by unfold isS; simp
theorem isS_not {n : Int} : isS n = false ↔ n < 0 ∨ 64 < n := by
  unfold isS
  rw [Bool.and_eq_false_iff, decide_eq_false_iff_not, decide_eq_false_iff_not]
  omega
theorem wrE_zero {a : Int} {xs : List Int} (h : wrE a xs = 0) : ∃ m : Nat, a = (m : Int) ∧ m + xs.length ≤ 64 ∧ xs.any badB = false := by
  unfold wrE at h
  split at h
  · cases h
  · split at h
    · cases h
    · rename_i h1 h2
      split at h
      · cases h
      · rename_i h3
        have h4 : isS a = true := by
          cases e : isS a
          · exact absurd (.inl e) h2
          · rfl
        obtain ⟨g1, g2⟩ := isS_iff.1 h4
        refine ⟨a.toNat, by omega, by omega, ?_⟩
        cases e : xs.any badB
        · rfl
        · exact absurd (.inr e) h2

/-- A file behind a write. -/
def wrF (f : Fil) (a : Nat) (xs : List Int) : Fil := ⟨if 0 < xs.length then max f.s (a + xs.length) else f.s, (putN f a xs xs.length).c, (putN f a xs xs.length).h⟩
theorem wrF_nil (f : Fil) (a : Nat) {xs : List Int} (h : xs.length = 0) : wrF f a xs = f := by
  obtain rfl := List.length_eq_zero_iff.1 h
  cases f; rfl
theorem wrF_c (f : Fil) (a : Nat) (xs : List Int) (p : Nat) : (wrF f a xs).c p = if a ≤ p ∧ p < a + xs.length then nth xs (p - a) else f.c p := putN_c f a xs _ p
theorem wrF_h (f : Fil) (a : Nat) (xs : List Int) (k : Nat) : (wrF f a xs).h k = true ↔ f.h k = true ∨ ∃ i, i < xs.length ∧ k = (a + i) / 4 := putN_h f a xs _ k
theorem wrF_wel {f : Fil} (w : Wel f) {a : Nat} {xs : List Int} (h : a + xs.length ≤ 64) : Wel (wrF f a xs) := by
  have hs : f.s ≤ (wrF f a xs).s ∧ (wrF f a xs).s ≤ 64 ∧ (0 < xs.length → a + xs.length ≤ (wrF f a xs).s) := by
    have := w.big
    unfold wrF
    dsimp only
    split <;> omega
  refine ⟨hs.2.1, fun p hp => ?_, fun p hp => ?_, fun k hk => ?_⟩
  · rw [wrF_c, if_neg (fun e => by have := hs.2.2 (by omega); omega)]
    exact w.out p (by omega)
  · have hn : ¬ ((wrF f a xs).h (p / 4) = true) := by rw [hp]; decide
    rw [wrF_h] at hn
    rw [wrF_c, if_neg (fun e => hn (.inr ⟨p - a, by omega, by congr 1; omega⟩))]
    refine w.hole p ?_
    cases e : f.h (p / 4)
    · rfl
    · exact absurd (.inl e) hn
  · rcases (wrF_h f a xs k).1 hk with h1 | ⟨i, hi, rfl⟩
    · have := w.low k h1; omega
    · have := hs.2.2 (by omega); omega

/-- A file behind a cut. -/
def ctF (f : Fil) (m : Nat) : Fil := ⟨m, fun p => if p < m then f.c p else 0, fun k => f.h k && decide (4 * k < m)⟩
theorem ctF_wel {f : Fil} (w : Wel f) {m : Nat} (h : m ≤ 64) : Wel (ctF f m) := by
  refine ⟨h, fun p hp => if_neg (by have : m ≤ p := hp; omega), fun p hp => ?_, fun k hk => ?_⟩
  · show (if p < m then f.c p else 0) = 0
    split
    · rename_i hlt
      have hp2 : (f.h (p / 4) && decide (4 * (p / 4) < m)) = false := hp
      rw [show decide (4 * (p / 4) < m) = true from decide_eq_true (by omega), Bool.and_true] at hp2
      exact w.hole p hp2
    · rfl
  · have hk2 : (f.h k && decide (4 * k < m)) = true := hk
    rw [Bool.and_eq_true, decide_eq_true_eq] at hk2
    exact hk2.2

/-- The bytes from a place on. -/
def rdL (f : Fil) (a n : Nat) : List Int := (List.range (min (a + n) f.s - a)).map fun i => f.c (a + i)
theorem rdL_len (f : Fil) (a n : Nat) : (rdL f a n).length = min (a + n) f.s - a := by unfold rdL; simp
theorem rdL_nth {f : Fil} {a n i : Nat} (h : i < min (a + n) f.s - a) : nth (rdL f a n) i = f.c (a + i) := by
  rw [nth_lt (by rw [rdL_len]; exact h)]
  simp [rdL]
/-- All bytes. -/
theorem rdL_all {f : Fil} (w : Wel f) : (rdL f 0 64).length = f.s := by rw [rdL_len]; have := w.big; omega
theorem rdL_at {f : Fil} (w : Wel f) {i : Nat} (h : i < f.s) : nth (rdL f 0 64) i = f.c i := by
  rw [rdL_nth (by have := w.big; omega), Nat.zero_add]

theorem pw_of {α : Type} {R S : α → α → Prop} (H : ∀ {a b : α}, R a b → S a b) : ∀ {l : List α}, l.Pairwise R → l.Pairwise S
  | [], _ => List.Pairwise.nil
  | a :: l, h => by
    rw [List.pairwise_cons] at h ⊢
    exact ⟨fun b hb => H (h.1 b hb), pw_of H h.2⟩
/-- Which blocks it has, rising. -/
def blN (f : Fil) : List Nat := (List.range 16).filter f.h
def blL (f : Fil) : List Int := (blN f).map fun (k : Nat) => (k : Int)
theorem blN_mem {f : Fil} (w : Wel f) (k : Nat) : k ∈ blN f ↔ f.h k = true := by
  unfold blN
  rw [List.mem_filter, List.mem_range]
  exact ⟨fun h => h.2, fun h => ⟨by have := w.low k h; have := w.big; omega, h⟩⟩
theorem blN_up (f : Fil) : (blN f).Pairwise (fun a b => a < b) := List.Pairwise.filter _ List.pairwise_lt_range
theorem blN_le (f : Fil) : (blN f).length ≤ 16 := by
  unfold blN
  exact Nat.le_trans (List.length_filter_le _ _) (by simp)
theorem blL_len (f : Fil) : (blL f).length = (blN f).length := by simp [blL]
theorem blL_up (f : Fil) : (blL f).Pairwise (fun a b => a ≤ b) := by
  unfold blL
  rw [List.pairwise_map]
  exact pw_of (fun h => by omega) (blN_up f)
theorem blL_nodup (f : Fil) : (blL f).Nodup := by
  unfold blL
  exact List.pairwise_map.2 (pw_of (fun h => by omega) (blN_up f))

end Go.Proofs.YtepnbkonhaongaaDoor
