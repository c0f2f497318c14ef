/- This text proves plain facts on factors: what they come to at a byte, and that they come to 0 at fewer bytes than there are factors unless all are 0; it speaks of no program; no condition. -/
import Derived.Test.YtebjefgdjfjndaaDoorFld
namespace Go.Proofs.YtebjefgdjfjndaaDoor

/-- What factors come to at a byte, from the highest power down. -/
def ev (fs : List Nat) (x : Nat) : Nat := fs.foldr (fun f r => gm r x ^^^ f) 0

theorem ev_nil (x : Nat) : ev [] x = 0 := rfl
theorem ev_cons (f : Nat) (fs : List Nat) (x : Nat) : ev (f :: fs) x = gm (ev fs x) x ^^^ f := rfl

def Bytes (fs : List Nat) : Prop := ∀ f, f ∈ fs → f < 256

theorem Bytes.tail {f : Nat} {fs : List Nat} (h : Bytes (f :: fs)) : Bytes fs := fun g hg => h g (List.mem_cons_of_mem _ hg)
theorem Bytes.head {f : Nat} {fs : List Nat} (h : Bytes (f :: fs)) : f < 256 := h f List.mem_cons_self

theorem ev_byte {fs : List Nat} {x : Nat} (h : Bytes fs) (hx : x < 256) : ev fs x < 256 := by
  induction fs with
  | nil => rw [ev_nil]; decide
  | cons f fs ih => exact Nat.xor_lt_two_pow (n := 8) (gm_byte (ih h.tail) hx) h.head

/-- The sum of products with powers, so far. -/
def evN (fs : List Nat) (x : Nat) (n : Nat) : Nat := Nat.rec 0 (fun k r => r ^^^ gm (fs.getD k 0) (gpow x k)) n

theorem evN_zero (fs : List Nat) (x : Nat) : evN fs x 0 = 0 := rfl
theorem evN_succ (fs : List Nat) (x n : Nat) : evN fs x (n + 1) = evN fs x n ^^^ gm (fs.getD n 0) (gpow x n) := rfl

theorem getD_byte {fs : List Nat} (h : Bytes fs) (k : Nat) : fs.getD k 0 < 256 := by
  rw [List.getD_eq_getElem?_getD]
  cases e : fs[k]? with
  | none => decide
  | some f => exact h f (List.mem_of_getElem? e)

theorem evN_byte {fs : List Nat} {x : Nat} (h : Bytes fs) (hx : x < 256) (n : Nat) : evN fs x n < 256 := by
  induction n with
  | zero => rw [evN_zero]; decide
  | succ n ih => exact Nat.xor_lt_two_pow (n := 8) ih (gm_byte (getD_byte h n) (gpow_byte hx))

theorem evN_cons {f : Nat} {fs : List Nat} {x : Nat} (h : Bytes (f :: fs)) (hx : x < 256) (n : Nat) :
    evN (f :: fs) x (n + 1) = gm (evN fs x n) x ^^^ f := by
  induction n with
  | zero => rw [evN_succ, evN_zero, evN_zero, zero_gm]; simp [gpow_zero, gm_one h.head]
  | succ n ih =>
    rw [evN_succ, ih, evN_succ fs, gm_left, gpow_succ]
    have : gm ((f :: fs).getD (n + 1) 0) (gm (gpow x n) x) = gm (gm (fs.getD n 0) (gpow x n)) x := by
      rw [gm_assoc (getD_byte h.tail n) (gpow_byte hx) hx]; simp
    rw [this, Nat.xor_assoc, Nat.xor_assoc, Nat.xor_comm f]

theorem evN_all {fs : List Nat} {x : Nat} (h : Bytes fs) (hx : x < 256) : evN fs x fs.length = ev fs x := by
  induction fs with
  | nil => rfl
  | cons f fs ih => rw [List.length_cons, evN_cons h hx, ih h.tail, ev_cons]

/-- What is left of factors when the sign less a byte is divided out: the factors of what remains. -/
def quo : List Nat → Nat → List Nat
  | [], _ => []
  | [_], _ => []
  | _ :: g :: fs, r => ev (g :: fs) r :: quo (g :: fs) r

theorem quo_len : ∀ (fs : List Nat) (r : Nat), (quo fs r).length = fs.length - 1
  | [], _ => rfl
  | [_], _ => rfl
  | _ :: g :: fs, r => by rw [quo, List.length_cons, quo_len (g :: fs) r]; simp

theorem quo_byte {fs : List Nat} {r : Nat} (h : Bytes fs) (hr : r < 256) : Bytes (quo fs r) := by
  induction fs with
  | nil => intro f hf; simp [quo] at hf
  | cons f fs ih =>
    cases fs with
    | nil => intro g hg; simp [quo] at hg
    | cons g fs =>
      intro k hk
      rw [quo, List.mem_cons] at hk
      rcases hk with rfl | hk
      · exact ev_byte h.tail hr
      · exact ih h.tail k hk

/-- Factors at a byte: the quotient times the difference, and what they come to at the other byte. -/
theorem quo_ev {fs : List Nat} {r x : Nat} (h : Bytes fs) (hr : r < 256) (hx : x < 256) :
    ev fs x = gm (ev (quo fs r) x) (x ^^^ r) ^^^ ev fs r := by
  induction fs with
  | nil => simp [ev_nil, quo, zero_gm]
  | cons f fs ih =>
    cases fs with
    | nil => simp [ev_cons, ev_nil, quo, zero_gm]
    | cons g fs =>
      have e := ih h.tail
      have hq := ev_byte (x := x) (quo_byte (r := r) h.tail hr) hx
      have hd : x ^^^ r < 256 := Nat.xor_lt_two_pow (n := 8) hx hr
      have ht := ev_byte (x := r) h.tail hr
      rw [ev_cons f, e, quo, ev_cons (ev (g :: fs) r), ev_cons f _ r, gm_left, gm_left]
      rw [gm_assoc hq hd hx, gm_assoc hq hx hd, gm_comm hd hx, gm_right (ev (g :: fs) r)]
      generalize gm (ev (quo (g :: fs) r) x) (gm x (x ^^^ r)) = A
      generalize gm (ev (g :: fs) r) x = B
      generalize gm (ev (g :: fs) r) r = C
      rw [Nat.xor_assoc A (B ^^^ C), Nat.xor_assoc B C, ← Nat.xor_assoc C C, Nat.xor_self, Nat.zero_xor, ← Nat.xor_assoc]

theorem quo_zero {fs : List Nat} {r : Nat} (h : Bytes fs) (hq : ∀ f, f ∈ quo fs r → f = 0) (h0 : ev fs r = 0) : ∀ f, f ∈ fs → f = 0 := by
  induction fs with
  | nil => intro f hf; simp at hf
  | cons f fs ih =>
    have hf : ev fs r = 0 := by
      cases fs with
      | nil => rfl
      | cons g fs => exact hq _ (by rw [quo]; exact List.mem_cons_self)
    have ht : ∀ g, g ∈ fs → g = 0 := by
      refine ih h.tail (fun g hg => ?_) hf
      cases fs with
      | nil => simp [quo] at hg
      | cons k fs => exact hq g (by rw [quo]; exact List.mem_cons_of_mem _ hg)
    rw [ev_cons, hf, zero_gm, Nat.zero_xor] at h0
    intro g hg
    rcases List.mem_cons.1 hg with rfl | hg
    · exact h0
    · exact ht g hg

/-- At how many of the first bytes factors come to 0. -/
def roots (fs : List Nat) (n : Nat) : Nat := Nat.rec 0 (fun x r => r + (if ev fs x = 0 then 1 else 0)) n

theorem roots_zero (fs : List Nat) : roots fs 0 = 0 := rfl
theorem roots_succ (fs : List Nat) (n : Nat) : roots fs (n + 1) = roots fs n + (if ev fs n = 0 then 1 else 0) := rfl

theorem roots_le (fs : List Nat) (n : Nat) : roots fs n ≤ n := by
  induction n with
  | zero => exact Nat.le_refl _
  | succ n ih => rw [roots_succ]; split <;> omega

theorem roots_none {fs : List Nat} {n : Nat} (h : ∀ x, x < n → ev fs x ≠ 0) : roots fs n = 0 := by
  induction n with
  | zero => rfl
  | succ n ih => rw [roots_succ, ih (fun x hx => h x (by omega)), if_neg (h n (by omega))]

theorem roots_every {fs : List Nat} {n : Nat} (h : ∀ x, x < n → ev fs x = 0) : roots fs n = n := by
  induction n with
  | zero => rfl
  | succ n ih => rw [roots_succ, ih (fun x hx => h x (by omega)), if_pos (h n (by omega))]

/-- One root more than the quotient has. -/
theorem roots_quo {fs : List Nat} {r : Nat} (h : Bytes fs) (hr : r < 256) (h0 : ev fs r = 0) (n : Nat) (hn : n ≤ 256) :
    roots fs n ≤ roots (quo fs r) n + (if r < n then 1 else 0) := by
  induction n with
  | zero => exact Nat.zero_le _
  | succ n ih =>
    have ih := ih (by omega)
    rw [roots_succ, roots_succ]
    have e := quo_ev (x := n) h hr (by omega)
    rw [h0, Nat.xor_zero] at e
    by_cases hrn : n = r
    · subst hrn
      rw [if_pos (Nat.lt_succ_self n), if_neg (Nat.lt_irrefl n)] at *
      split <;> omega
    · have key : ev fs n = 0 → ev (quo fs r) n = 0 := fun h1 => by
        rw [h1] at e
        rcases gm_null (ev_byte (quo_byte h hr) (by omega)) (Nat.xor_lt_two_pow (n := 8) (show n < 2 ^ 8 by omega) hr) e.symm with h2 | h2
        · exact h2
        · have : n = (n ^^^ r) ^^^ r := by rw [Nat.xor_assoc, Nat.xor_self, Nat.xor_zero]
          rw [h2, Nat.zero_xor] at this
          exact absurd this hrn
      have hl : (r < n + 1) = (r < n) := by rw [eq_iff_iff]; omega
      simp only [hl]
      by_cases h1 : ev fs n = 0
      · rw [if_pos h1, if_pos (key h1)]; omega
      · rw [if_neg h1]; omega

/-- LAGRANGE: fewer roots than factors. -/
theorem lagrange : ∀ (m : Nat) (fs : List Nat), fs.length ≤ m → Bytes fs → (∃ f, f ∈ fs ∧ f ≠ 0) → roots fs 256 < fs.length
  | 0, fs, hm, _, hne => by
    obtain ⟨f, hf, _⟩ := hne
    have : fs = [] := List.eq_nil_of_length_eq_zero (by omega)
    subst this
    simp at hf
  | m + 1, fs, hm, hb, hne => by
    have hpos : 0 < fs.length := by
      obtain ⟨f, hf, _⟩ := hne
      exact List.length_pos_of_mem hf
    by_cases hr : ∃ r, r < 256 ∧ ev fs r = 0
    · obtain ⟨r, hr, h0⟩ := hr
      have hq : ∃ f, f ∈ quo fs r ∧ f ≠ 0 := by
        refine Classical.byContradiction fun hn => ?_
        obtain ⟨f, hf, hf0⟩ := hne
        refine hf0 (quo_zero hb (fun g hg => ?_) h0 f hf)
        exact Classical.byContradiction fun hg0 => hn ⟨g, hg, hg0⟩
      have hl := quo_len fs r
      have := lagrange m (quo fs r) (by omega) (quo_byte hb hr) hq
      have := roots_quo hb hr h0 256 (Nat.le_refl _)
      rw [if_pos hr] at this
      omega
    · rw [roots_none (fun x hx h => hr ⟨x, hx, h⟩)]
      exact hpos

theorem ev_null {fs : List Nat} (h : ∀ f, f ∈ fs → f = 0) (x : Nat) : ev fs x = 0 := by
  induction fs with
  | nil => rfl
  | cons f fs ih => rw [ev_cons, ih (fun g hg => h g (List.mem_cons_of_mem _ hg)), zero_gm, h f List.mem_cons_self]; rfl

end Go.Proofs.YtebjefgdjfjndaaDoor
