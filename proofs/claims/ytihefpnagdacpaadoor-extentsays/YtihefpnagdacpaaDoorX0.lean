/- This text proves plain mathematics of runs and of sets of places: what is wrong with a set, that a set has one form, the form that places make, and how many places there are; it speaks of no program; no condition. -/
import Derived.WalkKit
import Derived.Lib.SlicesCompact
namespace Go.Proofs.YtihefpnagdacpaaDoor

/-- A run: its first place, and how many. -/
abbrev Rn := Int × Int

def isR (x : Rn) : Prop := 0 ≤ x.1 ∧ x.1 < 1000 ∧ 1 ≤ x.2 ∧ x.2 ≤ 1000 - x.1
def rB (x : Rn) : Bool := decide (0 ≤ x.1 ∧ x.1 < 1000 ∧ 1 ≤ x.2 ∧ x.2 ≤ 1000 - x.1)
theorem rB_iff (x : Rn) : rB x = true ↔ isR x := by unfold rB isR; rw [decide_eq_true_iff]
theorem rB_not {x : Rn} (h : rB x = false) : ¬ isR x := fun k => by rw [(rB_iff x).2 k] at h; cases h

/-- Is a place one of a run? -/
def inR (x : Rn) (p : Int) : Bool := decide (x.1 ≤ p ∧ p < x.1 + x.2)
def memR (l : List Rn) (p : Int) : Bool := l.any fun x => inR x p

theorem inR_iff (x : Rn) (p : Int) : inR x p = true ↔ (x.1 ≤ p ∧ p < x.1 + x.2) := by unfold inR; rw [decide_eq_true_iff]
theorem inR_false (x : Rn) (p : Int) : inR x p = false ↔ ¬ (x.1 ≤ p ∧ p < x.1 + x.2) := by unfold inR; rw [decide_eq_false_iff_not]
theorem memR_nil (p : Int) : memR [] p = false := rfl
theorem memR_cons (x : Rn) (l : List Rn) (p : Int) : memR (x :: l) p = (inR x p || memR l p) := rfl
theorem memR_append (a b : List Rn) (p : Int) : memR (a ++ b) p = (memR a p || memR b p) := by unfold memR; rw [List.any_append]
theorem memR_one (x : Rn) (p : Int) : memR [x] p = inR x p := by simp [memR]

/-- What is wrong, run by run, behind a place. -/
def goE : Int → List Rn → Nat
  | _, [] => 0
  | e, x :: t => if rB x = false then 1 else if e ≥ x.1 then 3 else goE (x.1 + x.2) t
def runsE (l : List Rn) : Nat := if 16 < l.length then 4 else goE (-1) l

/-- Runs that rise behind a place, and do not touch. -/
def Okc : Int → List Rn → Prop
  | _, [] => True
  | lo, x :: t => lo < x.1 ∧ 1 ≤ x.2 ∧ x.1 + x.2 ≤ 1000 ∧ Okc (x.1 + x.2) t

theorem goE_ok : ∀ (l : List Rn) (lo : Int), -1 ≤ lo → (goE lo l = 0 ↔ Okc lo l)
  | [], _, _ => by simp [goE, Okc]
  | x :: t, lo, h => by
    unfold goE Okc
    cases hb : rB x with
    | false =>
      have := rB_not hb
      unfold isR at this
      simp only [if_true]
      constructor
      · intro h; omega
      · intro h; exfalso; apply this; omega
    | true =>
      have := (rB_iff x).1 hb
      unfold isR at this
      rw [if_neg (by simp)]
      by_cases h3 : lo ≥ x.1
      · rw [if_pos h3]
        constructor
        · intro h; omega
        · intro h; exfalso; omega
      · rw [if_neg h3, goE_ok t (x.1 + x.2) (by omega)]
        constructor
        · intro h; exact ⟨by omega, by omega, by omega, h⟩
        · intro h; exact h.2.2.2

theorem runsE_ok (l : List Rn) : runsE l = 0 ↔ l.length ≤ 16 ∧ Okc (-1) l := by
  unfold runsE
  by_cases h : 16 < l.length
  · rw [if_pos h]
    constructor
    · intro h; omega
    · intro h; omega
  · rw [if_neg h, goE_ok l (-1) (by omega)]
    constructor
    · intro k; exact ⟨by omega, k⟩
    · intro k; exact k.2

/-- Where the last run ends. -/
def eF : Int → List Rn → Int
  | lo, [] => lo
  | _, x :: t => eF (x.1 + x.2) t

theorem eF_snoc : ∀ (l : List Rn) (lo : Int) (x : Rn), eF lo (l ++ [x]) = x.1 + x.2
  | [], _, _ => rfl
  | y :: t, lo, x => by show eF (y.1 + y.2) (t ++ [x]) = _; exact eF_snoc t _ x
theorem Okc_snoc : ∀ (l : List Rn) (lo : Int) (x : Rn), Okc lo (l ++ [x]) ↔ Okc lo l ∧ eF lo l < x.1 ∧ 1 ≤ x.2 ∧ x.1 + x.2 ≤ 1000
  | [], lo, x => by simp [Okc, eF]
  | y :: t, lo, x => by
    show (lo < y.1 ∧ 1 ≤ y.2 ∧ y.1 + y.2 ≤ 1000 ∧ Okc (y.1 + y.2) (t ++ [x])) ↔ (lo < y.1 ∧ 1 ≤ y.2 ∧ y.1 + y.2 ≤ 1000 ∧ Okc (y.1 + y.2) t) ∧ eF (y.1 + y.2) t < x.1 ∧ 1 ≤ x.2 ∧ x.1 + x.2 ≤ 1000
    rw [Okc_snoc t (y.1 + y.2) x]
    constructor
    · rintro ⟨a, b, c, d, e⟩; exact ⟨⟨a, b, c, d⟩, e⟩
    · rintro ⟨⟨a, b, c, d⟩, e⟩; exact ⟨a, b, c, d, e⟩
theorem eF_ge : ∀ (l : List Rn) (lo : Int), Okc lo l → lo + 2 * (l.length : Int) ≤ eF lo l
  | [], lo, _ => by simp [eF]
  | y :: t, lo, h => by
    obtain ⟨a, b, _, d⟩ := h
    have := eF_ge t _ d
    show lo + 2 * ((t.length + 1 : Nat) : Int) ≤ eF (y.1 + y.2) t
    omega
theorem eF_le : ∀ (l : List Rn) (lo : Int), lo ≤ 1000 → Okc lo l → eF lo l ≤ 1000
  | [], _, h, _ => h
  | _ :: t, _, _, h => eF_le t _ h.2.2.1 h.2.2.2
theorem Okc.mono {l : List Rn} {lo lo' : Int} (h : Okc lo l) (hl : lo' ≤ lo) : Okc lo' l := by
  cases l with
  | nil => trivial
  | cons x t => exact ⟨by have := h.1; omega, h.2⟩
theorem Okc.low : ∀ {l : List Rn} {lo p : Int}, Okc lo l → p ≤ lo → memR l p = false
  | [], _, _, _, _ => rfl
  | x :: t, lo, p, h, hp => by
    obtain ⟨a, b, c, d⟩ := h
    rw [memR_cons, Okc.low d (by omega), (inR_false x p).2 (by omega)]
    rfl
theorem Okc.high : ∀ {l : List Rn} {lo p : Int}, Okc lo l → eF lo l ≤ p → memR l p = false
  | [], _, _, _, _ => rfl
  | x :: t, lo, p, h, hp => by
    obtain ⟨a, b, c, d⟩ := h
    have h1 := eF_ge t _ d
    have hp' : eF (x.1 + x.2) t ≤ p := hp
    rw [memR_cons, Okc.high d hp', (inR_false x p).2 (by omega)]
    rfl
theorem Okc.each : ∀ {l : List Rn} {lo : Int}, Okc lo l → ∀ x ∈ l, lo < x.1 ∧ 1 ≤ x.2 ∧ x.1 + x.2 ≤ 1000
  | [], _, _, x, hx => by cases hx
  | y :: t, lo, h, x, hx => by
    obtain ⟨a, b, c, d⟩ := h
    rcases List.mem_cons.1 hx with rfl | hx
    · exact ⟨a, b, c⟩
    · have := Okc.each d x hx
      omega

/-- A set has one form. -/
theorem one_form : ∀ (a b : List Rn) (lo lo' : Int), Okc lo a → Okc lo' b → (∀ p, memR a p = memR b p) → a = b
  | [], [], _, _, _, _, _ => rfl
  | [], y :: t, _, _, _, h, e => by
    have := e y.1
    rw [memR_cons, (inR_iff y y.1).2 (by have := h.2.1; omega)] at this
    cases this
  | x :: s, [], _, _, h, _, e => by
    have := e x.1
    rw [memR_cons, (inR_iff x x.1).2 (by have := h.2.1; omega)] at this
    cases this
  | x :: s, y :: t, lo, lo', h, k, e => by
    obtain ⟨h1, h2, h3, h4⟩ := h
    obtain ⟨k1, k2, k3, k4⟩ := k
    have A : ∀ {u v : Rn} {c d : List Rn}, 1 ≤ u.2 → 1 ≤ v.2 → Okc (u.1 + u.2) c → Okc (v.1 + v.2) d → (∀ p, memR (u :: c) p = memR (v :: d) p) → ¬ u.1 < v.1 := by
      intro u v c d hu hv hc hd he hlt
      have := he u.1
      rw [memR_cons, memR_cons, (inR_iff u u.1).2 (by omega), (inR_false v u.1).2 (by omega), hd.low (by omega)] at this
      cases this
    have e1 : x.1 = y.1 := by
      have p1 := A h2 k2 h4 k4 e
      have p2 := A k2 h2 k4 h4 (fun p => (e p).symm)
      omega
    have B : ∀ {u v : Rn} {c d : List Rn}, 1 ≤ u.2 → 1 ≤ v.2 → u.1 = v.1 → Okc (u.1 + u.2) c → Okc (v.1 + v.2) d → (∀ p, memR (u :: c) p = memR (v :: d) p) → ¬ u.2 < v.2 := by
      intro u v c d hu hv huv hc hd he hlt
      have := he (u.1 + u.2)
      rw [memR_cons, memR_cons, (inR_iff v (u.1 + u.2)).2 (by omega), (inR_false u (u.1 + u.2)).2 (by omega), hc.low (by omega)] at this
      cases this
    have e2 : x.2 = y.2 := by
      have p1 := B h2 k2 e1 h4 k4 e
      have p2 := B k2 h2 e1.symm k4 h4 (fun p => (e p).symm)
      omega
    have exy : x = y := Prod.ext e1 e2
    subst exy
    rw [one_form s t _ _ h4 k4 fun p => ?_]
    by_cases hp : p ≤ x.1 + x.2
    · rw [h4.low hp, k4.low hp]
    · have := e p
      rw [memR_cons, memR_cons, (inR_false x p).2 (by omega)] at this
      simpa using this

/-- A set with places more at its end. -/
def gro (l : List Rn) (f e : Int) : List Rn :=
  if eF (-1) l = f ∧ 0 ≤ f then l.dropLast ++ [((l.getLastD (0, 0)).1, (l.getLastD (0, 0)).2 + (e - f))] else l ++ [(f, e - f)]

theorem snoc_cases (l : List Rn) : l = [] ∨ ∃ a x, l = a ++ [x] := by
  rcases List.eq_nil_or_concat l with h | ⟨a, x, h⟩
  · exact .inl h
  · exact .inr ⟨a, x, by rw [h, List.concat_eq_append]⟩

theorem gro_grow {a : List Rn} {x : Rn} {f e : Int} (h : x.1 + x.2 = f) (h0 : 0 ≤ f) : gro (a ++ [x]) f e = a ++ [(x.1, x.2 + (e - f))] := by
  unfold gro
  rw [if_pos ⟨by rw [eF_snoc]; exact h, h0⟩]
  simp
theorem gro_new {l : List Rn} {f e : Int} (h : eF (-1) l < f) : gro l f e = l ++ [(f, e - f)] := by
  unfold gro
  rw [if_neg (by omega)]

theorem gro_ok {l : List Rn} {f e : Int} (h : Okc (-1) l) (h1 : eF (-1) l ≤ f) (h2 : f < e) (h3 : e ≤ 1000) (h0 : 0 ≤ f) :
    Okc (-1) (gro l f e) ∧ eF (-1) (gro l f e) = e ∧ (∀ p, memR (gro l f e) p = (memR l p || inR (f, e - f) p)) ∧ (gro l f e).length ≤ l.length + 1 := by
  by_cases hlt : eF (-1) l < f
  · rw [gro_new hlt]
    refine ⟨(Okc_snoc l (-1) _).2 ⟨h, hlt, by show 1 ≤ e - f; omega, by show f + (e - f) ≤ 1000; omega⟩, ?_, fun p => ?_, by simp⟩
    · rw [eF_snoc]; show f + (e - f) = e; omega
    · rw [memR_append, memR_one]
  · have heq : eF (-1) l = f := by omega
    rcases snoc_cases l with rfl | ⟨a, x, rfl⟩
    · have : (-1 : Int) = f := heq
      omega
    · rw [eF_snoc] at heq
      obtain ⟨k1, k2, k3, k4⟩ := (Okc_snoc a (-1) x).1 h
      rw [gro_grow heq h0]
      refine ⟨(Okc_snoc a (-1) _).2 ⟨k1, k2, by show 1 ≤ x.2 + (e - f); omega, by show x.1 + (x.2 + (e - f)) ≤ 1000; omega⟩, ?_, fun p => ?_, by simp⟩
      · rw [eF_snoc]; show x.1 + (x.2 + (e - f)) = e; omega
      · rw [memR_append, memR_append, memR_one, memR_one, Bool.or_assoc]
        congr 1
        rw [Bool.eq_iff_iff, Bool.or_eq_true, inR_iff, inR_iff, inR_iff]
        show (x.1 ≤ p ∧ p < x.1 + (x.2 + (e - f))) ↔ (x.1 ≤ p ∧ p < x.1 + x.2) ∨ (f ≤ p ∧ p < f + (e - f))
        omega

/-- The form that places make. -/
def bld (f : Int → Bool) : Nat → List Rn
  | 0 => []
  | n + 1 => if f (n : Int) = true then gro (bld f n) n ((n : Int) + 1) else bld f n

theorem bld_ok (f : Int → Bool) : ∀ n : Nat, n ≤ 1000 → Okc (-1) (bld f n) ∧ eF (-1) (bld f n) ≤ n ∧ (0 < n → (eF (-1) (bld f n) = n ↔ f ((n : Int) - 1) = true)) ∧ (∀ p, memR (bld f n) p = (decide (0 ≤ p ∧ p < n) && f p)) ∧ (bld f n).length ≤ n
  | 0, _ => ⟨trivial, by show (-1 : Int) ≤ 0; omega, fun h => absurd h (by omega), fun p => by
      rw [decide_eq_false (by omega)]; rfl, by simp [bld]⟩
  | n + 1, h => by
    obtain ⟨h1, h2, _, h4, h5⟩ := bld_ok f n (by omega)
    unfold bld
    have ee : ((n + 1 : Nat) : Int) - 1 = (n : Int) := by omega
    cases hf : f (n : Int) with
    | true =>
      rw [if_pos rfl]
      obtain ⟨g1, g2, g3, g4⟩ := gro_ok (f := (n : Int)) (e := (n : Int) + 1) h1 h2 (by omega) (by omega) (by omega)
      refine ⟨g1, by rw [g2]; omega, fun _ => ?_, fun p => ?_, by omega⟩
      · rw [g2, ee, hf]; simp
      · rw [g3, h4]
        by_cases hp : p = n
        · subst hp
          rw [hf, (inR_iff ((n : Int), (n : Int) + 1 - n) n).2 (by show (n : Int) ≤ n ∧ (n : Int) < n + (n + 1 - n); omega), decide_eq_true (show (0 : Int) ≤ (n : Int) ∧ (n : Int) < ((n + 1 : Nat) : Int) by omega)]
          simp
        · rw [(inR_false ((n : Int), (n : Int) + 1 - n) p).2 (by show ¬ ((n : Int) ≤ p ∧ p < n + (n + 1 - n)); omega), Bool.or_false]
          congr 1
          rw [decide_eq_decide]
          omega
    | false =>
      rw [if_neg (by simp)]
      refine ⟨h1, by omega, fun _ => ?_, fun p => ?_, by omega⟩
      · rw [ee, hf]
        constructor
        · intro h; omega
        · intro h; cases h
      · rw [h4]
        by_cases hp : p = n
        · subst hp
          rw [hf]; simp
        · congr 1
          rw [decide_eq_decide]
          omega

theorem bld_one {l : List Rn} {f : Int → Bool} (h : Okc (-1) l) (hm : ∀ p, 0 ≤ p → p < 1000 → memR l p = f p) : l = bld f 1000 := by
  obtain ⟨h1, _, _, h4, _⟩ := bld_ok f 1000 (Nat.le_refl _)
  refine one_form _ _ _ _ h h1 fun p => ?_
  rw [h4]
  by_cases hp : 0 ≤ p ∧ p < 1000
  · rw [hm p hp.1 hp.2, decide_eq_true (by omega)]; rfl
  · rw [decide_eq_false (by omega)]
    have := eF_le _ _ (by omega) h
    by_cases h0 : p < 0
    · rw [h.low (by omega)]; rfl
    · rw [h.high (by omega)]; rfl

/-- How many places. -/
def cnP (f : Int → Bool) : Nat → Nat
  | 0 => 0
  | n + 1 => cnP f n + (if f (n : Int) = true then 1 else 0)
def szL : List Rn → Int
  | [] => 0
  | x :: l => x.2 + szL l

theorem szL_append : ∀ (a b : List Rn), szL (a ++ b) = szL a + szL b
  | [], b => by simp [szL]
  | x :: a, b => by simp only [List.cons_append, szL, szL_append a b]; omega
theorem szL_gro {l : List Rn} {f e : Int} (h1 : eF (-1) l ≤ f) (h0 : 0 ≤ f) : szL (gro l f e) = szL l + (e - f) := by
  by_cases hlt : eF (-1) l < f
  · rw [gro_new hlt, szL_append]; simp [szL]
  · have heq : eF (-1) l = f := by omega
    rcases snoc_cases l with rfl | ⟨a, x, rfl⟩
    · have : (-1 : Int) = f := heq
      omega
    · rw [eF_snoc] at heq
      rw [gro_grow heq h0, szL_append, szL_append]
      simp only [szL]
      omega
theorem szL_bld (f : Int → Bool) : ∀ n : Nat, n ≤ 1000 → szL (bld f n) = cnP f n
  | 0, _ => rfl
  | n + 1, h => by
    have ih := szL_bld f n (by omega)
    have h2 := (bld_ok f n (by omega)).2.1
    unfold bld cnP
    cases hf : f (n : Int) with
    | true => rw [if_pos rfl, if_pos rfl, szL_gro h2 (by omega), ih]; omega
    | false => rw [if_neg (by simp), if_neg (by simp), ih]; omega
theorem szL_ok {l : List Rn} (h : Okc (-1) l) : szL l = cnP (memR l) 1000 := by
  have e := bld_one (f := memR l) h (fun _ _ _ => rfl)
  have := szL_bld (memR l) 1000 (Nat.le_refl _)
  rw [← e] at this
  exact this
theorem cnP_same {f g : Int → Bool} : ∀ {n : Nat}, (∀ p : Int, 0 ≤ p → p < n → f p = g p) → cnP f n = cnP g n
  | 0, _ => rfl
  | n + 1, h => by unfold cnP; rw [cnP_same (n := n) (fun p h0 h1 => h p h0 (by omega)), h n (by omega) (by omega)]
theorem cnP_parts {f g h : Int → Bool} : ∀ {n : Nat}, (∀ p : Int, 0 ≤ p → p < n → (f p = (g p || h p)) ∧ (g p && h p) = false) → cnP f n = cnP g n + cnP h n
  | 0, _ => rfl
  | n + 1, H => by
    unfold cnP
    rw [cnP_parts (n := n) (fun p h0 h1 => H p h0 (by omega))]
    obtain ⟨h1, h2⟩ := H n (by omega) (by omega)
    rw [h1]
    cases hg : g (n : Int) with
    | true =>
      cases hh : h (n : Int) with
      | true => rw [hg, hh] at h2; cases h2
      | false => rw [if_pos (by rfl), if_pos rfl, if_neg (by simp)]; omega
    | false =>
      cases hh : h (n : Int) with
      | true => rw [if_pos (by rfl), if_neg (by simp), if_pos rfl]; omega
      | false => rw [if_neg (by simp), if_neg (by simp)]; omega
theorem cnP_le (f : Int → Bool) : ∀ n, cnP f n ≤ n
  | 0 => Nat.le_refl _
  | n + 1 => by have := cnP_le f n; unfold cnP; split <;> omega
theorem cnP_run {r : Rn} (h : isR r) : (cnP (inR r) 1000 : Int) = r.2 := by
  have h1 : Okc (-1) [r] := by unfold isR at h; exact ⟨by omega, by omega, by omega, trivial⟩
  have := szL_ok h1
  have e : cnP (memR [r]) 1000 = cnP (inR r) 1000 := cnP_same fun p _ _ => memR_one r p
  rw [e] at this
  rw [← this]
  simp [szL]

/-- What is told of a set that is changed, and the set. -/
def chP (b : Bool → Bool → Bool) (l : List Rn) (r : Rn) (p : Int) : Bool := b (memR l p) (inR r p)
def chgE (b : Bool → Bool → Bool) (l : List Rn) (r : Rn) : Nat :=
  if runsE l ≠ 0 then runsE l else if rB r = false then 1 else if 16 < (bld (chP b l r) 1000).length then 4 else 0
def chgL (b : Bool → Bool → Bool) (l : List Rn) (r : Rn) : List Rn := if chgE b l r = 0 then bld (chP b l r) 1000 else []

def orB (a b : Bool) : Bool := a || b
def cutB (a b : Bool) : Bool := a && !b

theorem chgE_zero {b : Bool → Bool → Bool} {l : List Rn} {r : Rn} : chgE b l r = 0 ↔ runsE l = 0 ∧ rB r = true ∧ (bld (chP b l r) 1000).length ≤ 16 := by
  unfold chgE
  by_cases h1 : runsE l = 0
  · rw [if_neg (by simpa using h1)]
    cases h2 : rB r with
    | false => simp
    | true =>
      rw [if_neg (by simp)]
      by_cases h3 : 16 < (bld (chP b l r) 1000).length
      · rw [if_pos h3]; constructor
        · intro h; omega
        · rintro ⟨_, _, h⟩; omega
      · rw [if_neg h3]; constructor
        · intro _; exact ⟨h1, rfl, by omega⟩
        · intro _; rfl
  · rw [if_pos h1]; constructor
    · intro h; exact absurd h h1
    · rintro ⟨h, _⟩; exact absurd h h1

/-- A set that was changed is a set, and its places are those. -/
theorem chg_ok {b : Bool → Bool → Bool} {l : List Rn} {r : Rn} (h : chgE b l r = 0) (hb : b false false = false) :
    runsE (chgL b l r) = 0 ∧ (∀ p, memR (chgL b l r) p = b (memR l p) (inR r p)) ∧ Okc (-1) l ∧ isR r := by
  obtain ⟨h1, h2, h3⟩ := chgE_zero.1 h
  unfold chgL
  rw [if_pos h]
  obtain ⟨k1, _, _, k4, _⟩ := bld_ok (chP b l r) 1000 (Nat.le_refl _)
  have hl := ((runsE_ok l).1 h1).2
  have hr := (rB_iff r).1 h2
  refine ⟨(runsE_ok _).2 ⟨h3, k1⟩, fun p => ?_, hl, hr⟩
  rw [k4]
  by_cases hp : 0 ≤ p ∧ p < 1000
  · rw [decide_eq_true (by omega)]; rfl
  · rw [decide_eq_false (by omega)]
    have := eF_le _ _ (by omega) hl
    have e1 : memR l p = false := by
      by_cases h0 : p < 0
      · exact hl.low (by omega)
      · exact hl.high (by omega)
    have e2 : inR r p = false := (inR_false r p).2 (by unfold isR at hr; omega)
    rw [e1, e2, hb]; rfl
/-- What has these places is what the change leaves. -/
theorem chg_is {b : Bool → Bool → Bool} {l m : List Rn} {r : Rn} (hl : runsE l = 0) (hr : rB r = true) (hm : runsE m = 0) (he : ∀ p, memR m p = b (memR l p) (inR r p)) : chgE b l r = 0 ∧ chgL b l r = m := by
  obtain ⟨m1, m2⟩ := (runsE_ok m).1 hm
  have e : m = bld (chP b l r) 1000 := bld_one m2 fun p _ _ => he p
  have h0 : chgE b l r = 0 := chgE_zero.2 ⟨hl, hr, by rw [← e]; exact m1⟩
  exact ⟨h0, by unfold chgL; rw [if_pos h0, ← e]⟩

end Go.Proofs.YtihefpnagdacpaaDoor
