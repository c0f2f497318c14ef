/- This text proves nothing of the program: it is the plain mathematics of a head that goes from one request to the next: which one is next, in which order they come, how far it goes, and that a sorted order is the only one; no condition. -/
import Derived.Test.YtckdknkgadhmjaaDoorWh
namespace Go.Proofs.YtckdknkgadhmjaaDoor

/-- How far two numbers are from each other. -/
def dst (a b : Int) : Int := if a > b then a - b else b - a

/-- The place of the next one, among the first k. -/
def pickN (lt : Int → Int → Bool) (xs : List Int) : Nat → Nat
  | 0 => 0
  | i + 1 => if lt (nth xs i) (nth xs (pickN lt xs i)) = true then i else pickN lt xs i

theorem pickN_lt (lt : Int → Int → Bool) (xs : List Int) : ∀ (k n : Nat), 0 < n → k ≤ n → pickN lt xs k < n
  | 0, n, h, _ => h
  | k + 1, n, h, hk => by
    rw [pickN]
    split
    · omega
    · exact pickN_lt lt xs k n h (by omega)

/-- A strict total order. -/
structure Total (lt : Int → Int → Bool) : Prop where
  irr : ∀ a, lt a a = false
  tr : ∀ a b c, lt a b = true → lt b c = true → lt a c = true
  tri : ∀ a b, lt a b = true ∨ a = b ∨ lt b a = true

theorem Total.asym {lt : Int → Int → Bool} (h : Total lt) {a b : Int} (h1 : lt a b = true) : lt b a = false := by
  cases h2 : lt b a with
  | false => rfl
  | true => have := h.tr _ _ _ h1 h2; rw [h.irr] at this; cases this
theorem Total.anti {lt : Int → Int → Bool} (h : Total lt) {a b : Int} (h1 : lt b a = false) (h2 : lt a b = false) : a = b := by
  rcases h.tri a b with h3 | h3 | h3
  · rw [h2] at h3; cases h3
  · exact h3
  · rw [h1] at h3; cases h3
theorem Total.le_tr {lt : Int → Int → Bool} (h : Total lt) {a b c : Int} (h1 : lt b a = false) (h2 : lt c b = false) : lt c a = false := by
  rcases h.tri a b with h3 | h3 | h3
  · rcases h.tri b c with h4 | h4 | h4
    · exact h.asym (h.tr _ _ _ h3 h4)
    · subst h4; exact h1
    · rw [h2] at h4; cases h4
  · subst h3; exact h2
  · rw [h1] at h3; cases h3

/-- None of the first k goes ahead of the next one. -/
theorem pickN_min {lt : Int → Int → Bool} (h : Total lt) (xs : List Int) : ∀ (k j : Nat), j < k → lt (nth xs j) (nth xs (pickN lt xs k)) = false
  | 0, j, hj => by omega
  | k + 1, j, hj => by
    rw [pickN]
    split
    · rename_i h1
      by_cases e : j = k
      · subst e; exact h.irr _
      · have h2 := pickN_min h xs k j (by omega)
        exact h.le_tr (h.asym h1) h2
    · rename_i h1
      by_cases e : j = k
      · subst e; simpa using h1
      · exact pickN_min h xs k j (by omega)

/-- The next one is the first of its kind. -/
theorem pickN_first {lt : Int → Int → Bool} (h : Total lt) (xs : List Int) : ∀ (k j : Nat), j < pickN lt xs k → nth xs j ≠ nth xs (pickN lt xs k)
  | 0, j, hj => by rw [pickN] at hj; omega
  | k + 1, j, hj => by
    rw [pickN] at hj ⊢
    split at hj
    · rename_i h1
      rw [if_pos h1]
      intro e
      have h2 := pickN_min h xs k j hj
      rw [e, h1] at h2
      cases h2
    · rename_i h1
      rw [if_neg h1]
      exact pickN_first h xs k j hj

/-- The order in which the requests are served. -/
def ord (S : Int → Int → Int → Bool) : Nat → Int → List Int → List Int
  | 0, _, _ => []
  | n + 1, now, xs => nth xs (pickN (S now) xs xs.length) :: ord S n (nth xs (pickN (S now) xs xs.length)) (xs.eraseIdx (pickN (S now) xs xs.length))

/-- How far the head goes. -/
def farL : Int → List Int → Int
  | _, [] => 0
  | a, x :: xs => dst a x + farL x xs

theorem perm_at : ∀ (xs : List Int) (k : Nat) (h : k < xs.length), (xs[k] :: xs.eraseIdx k).Perm xs
  | [], k, h => by simp at h
  | x :: xs, 0, h => List.Perm.refl _
  | x :: xs, k + 1, h => by
    have h' : k < xs.length := by simpa using h
    show (xs[k] :: x :: xs.eraseIdx k).Perm (x :: xs)
    exact (List.Perm.swap _ _ _).trans ((perm_at xs k h').cons x)
theorem perm_pick {xs : List Int} {k : Nat} (h : k < xs.length) : (nth xs k :: xs.eraseIdx k).Perm xs := by
  rw [nth_lt h]
  exact perm_at xs k h

theorem erase_len {xs : List Int} {k n : Nat} (h : k < xs.length) (hn : xs.length = n + 1) : (xs.eraseIdx k).length = n := by
  rw [List.length_eraseIdx, if_pos h]; omega

theorem ord_perm (S : Int → Int → Int → Bool) : ∀ (n : Nat) (now : Int) (xs : List Int), xs.length = n → (ord S n now xs).Perm xs
  | 0, _, xs, h => by
    have := List.length_eq_zero_iff.1 h
    subst this
    exact List.Perm.refl _
  | n + 1, now, xs, h => by
    have hk := pickN_lt (S now) xs xs.length xs.length (by omega) (Nat.le_refl _)
    rw [ord]
    exact ((ord_perm S n _ _ (erase_len hk h)).cons _).trans (perm_pick hk)

theorem ord_len (S : Int → Int → Int → Bool) (n : Nat) (now : Int) (xs : List Int) (h : xs.length = n) : (ord S n now xs).length = n := (ord_perm S n now xs h).length_eq.trans h

/-- One order for all places: the requests come sorted. -/
theorem ord_sorted {lt : Int → Int → Bool} (h : Total lt) : ∀ (n : Nat) (now : Int) (xs : List Int), xs.length = n → (ord (fun _ => lt) n now xs).Pairwise fun a b => lt b a = false
  | 0, _, _, _ => List.Pairwise.nil
  | n + 1, now, xs, hn => by
    have hk := pickN_lt lt xs xs.length xs.length (by omega) (Nat.le_refl _)
    rw [ord]
    refine List.Pairwise.cons (fun b hb => ?_) (ord_sorted h n _ _ (erase_len hk hn))
    have h1 := (ord_perm (fun _ => lt) n (nth xs (pickN lt xs xs.length)) _ (erase_len hk hn)).mem_iff.1 hb
    have h2 := (perm_pick hk).mem_iff.1 (List.mem_cons_of_mem _ h1)
    obtain ⟨j, hj, rfl⟩ := List.getElem_of_mem h2
    rw [← nth_lt hj]
    exact pickN_min h xs xs.length j hj

/-- Two sorted lists of the same numbers are the same. -/
theorem sorted_one {lt : Int → Int → Bool} (h : Total lt) : ∀ {l l' : List Int}, (l.Pairwise fun a b => lt b a = false) → (l'.Pairwise fun a b => lt b a = false) → l.Perm l' → l = l'
  | [], l', _, _, hp => (List.Perm.nil_eq hp)
  | a :: l, [], _, _, hp => by have := hp.length_eq; simp at this
  | a :: l, b :: l', h1, h2, hp => by
    have e : a = b := by
      rcases List.mem_cons.1 (hp.mem_iff.1 (List.mem_cons_self ..)) with e | ha
      · exact e
      · rcases List.mem_cons.1 (hp.mem_iff.2 (List.mem_cons_self ..)) with e | hb
        · exact e.symm
        · exact h.anti (List.rel_of_pairwise_cons h1 hb) (List.rel_of_pairwise_cons h2 ha)
    subst e
    rw [sorted_one h (List.pairwise_cons.1 h1).2 (List.pairwise_cons.1 h2).2 hp.cons_inv]

/-- Rising. -/
def ltI (a b : Int) : Bool := decide (a < b)
theorem ltI_total : Total ltI := ⟨fun a => by simp [ltI], fun a b c => by simp only [ltI, decide_eq_true_eq]; omega, fun a b => by simp only [ltI, decide_eq_true_eq]; omega⟩
def rise (xs : List Int) : List Int := ord (fun _ => ltI) xs.length 0 xs
theorem rise_perm (xs : List Int) : (rise xs).Perm xs := ord_perm _ _ _ _ rfl
theorem rise_sorted (xs : List Int) : (rise xs).Pairwise fun a b => ltI b a = false := ord_sorted ltI_total _ _ _ rfl
theorem rise_same {xs ys : List Int} (h : xs.Perm ys) : rise xs = rise ys := sorted_one ltI_total (rise_sorted xs) (rise_sorted ys) (((rise_perm xs).trans h).trans (rise_perm ys).symm)

/-- Nearer to where it is; of two as near the lower one. -/
def ltN (now a b : Int) : Bool := decide (dst now a < dst now b ∨ (dst now a = dst now b ∧ a < b))
theorem ltN_total (now : Int) : Total (ltN now) :=
  ⟨fun a => by simp [ltN], fun a b c => by simp only [ltN, decide_eq_true_eq]; omega, fun a b => by simp only [ltN, decide_eq_true_eq]; omega⟩

/-- On the way out. -/
def out (from_ : Int) (up : Bool) (x : Int) : Bool := if up = true then decide (from_ ≤ x) else decide (x ≤ from_)
/-- One way, then the other. -/
def ltS (from_ : Int) (up : Bool) (a b : Int) : Bool :=
  if out from_ up a ≠ out from_ up b then out from_ up a
  else if out from_ up a = up then decide (a < b) else decide (b < a)

theorem ltS_up (f a b : Int) : ltS f true a b = true ↔ (f ≤ a ∧ b < f) ∨ (f ≤ a ∧ f ≤ b ∧ a < b) ∨ (a < f ∧ b < f ∧ b < a) := by
  unfold ltS out
  by_cases h1 : f ≤ a <;> by_cases h2 : f ≤ b <;> simp [h1, h2] <;> omega
theorem ltS_down (f a b : Int) : ltS f false a b = true ↔ (a ≤ f ∧ f < b) ∨ (a ≤ f ∧ b ≤ f ∧ b < a) ∨ (f < a ∧ f < b ∧ a < b) := by
  unfold ltS out
  by_cases h1 : a ≤ f <;> by_cases h2 : b ≤ f <;> simp [h1, h2] <;> omega
theorem ltS_total (f : Int) (up : Bool) : Total (ltS f up) := by
  cases up
  · refine ⟨fun a => ?_, fun a b c => ?_, fun a b => ?_⟩
    · rw [← Bool.not_eq_true, ltS_down]; omega
    · rw [ltS_down, ltS_down, ltS_down]; omega
    · rw [ltS_down, ltS_down]; omega
  · refine ⟨fun a => ?_, fun a b c => ?_, fun a b => ?_⟩
    · rw [← Bool.not_eq_true, ltS_up]; omega
    · rw [ltS_up, ltS_up, ltS_up]; omega
    · rw [ltS_up, ltS_up]; omega

/-- Never sooner: as they are. -/
def ltF (_ _ _ : Int) : Bool := false
theorem pickF (xs : List Int) (now : Int) : ∀ k, pickN (ltF now) xs k = 0
  | 0 => rfl
  | k + 1 => by rw [pickN, if_neg (by simp [ltF]), pickF xs now k]
theorem ordF : ∀ (n : Nat) (now : Int) (xs : List Int), xs.length = n → ord ltF n now xs = xs
  | 0, _, xs, h => (List.length_eq_zero_iff.1 h).symm
  | n + 1, now, [], h => by simp at h
  | n + 1, now, x :: xs, h => by
    rw [ord, pickF]
    show x :: ord ltF n x xs = x :: xs
    rw [ordF n x xs (by simpa using h)]

/-- What is wrong: too many, or one that is no track. -/
def trk (x : Int) : Bool := decide (0 ≤ x ∧ x ≤ 99)
def hdE (a : Int) (xs : List Int) : Nat := if xs.length > 20 then 4 else if trk a = true ∧ (∀ x ∈ xs, trk x = true) then 0 else 1
theorem hdE_zero {a : Int} {xs : List Int} (h : hdE a xs = 0) : xs.length ≤ 20 ∧ (0 ≤ a ∧ a ≤ 99) ∧ ∀ x ∈ xs, 0 ≤ x ∧ x ≤ 99 := by
  unfold hdE at h
  split at h
  · omega
  · split at h
    · rename_i h1 h2
      exact ⟨by omega, by simpa [trk] using h2.1, fun x hx => by simpa [trk] using h2.2 x hx⟩
    · omega

end Go.Proofs.YtckdknkgadhmjaaDoor
