/- This text proves plain facts on trees of names as lists of paths: what is at a path, the names in a directory, all paths in their order; it speaks of no call; no condition. -/
import Derived.Test.YtdlmkienogimgaaDoorQ0
namespace Go.Proofs.YtdlmkienogimgaaDoor
open Go.Lib

/-- A path, and which thing it names. -/
abbrev Ent := List (List UInt8) × Nat

/-- What is at a path. -/
def look (L : List Ent) (p : List (List UInt8)) : Option Nat := (L.find? fun x => decide (x.1 = p)).map (·.2)

theorem pw_of {α : Type} {R S : α → α → Prop} (H : ∀ {a b : α}, R a b → S a b) : ∀ {l : List α}, l.Pairwise R → l.Pairwise S
  | [], _ => List.Pairwise.nil
  | _ :: _, h => by
    rw [List.pairwise_cons] at h ⊢
    exact ⟨fun b hb => H (h.1 b hb), pw_of H h.2⟩
def Uni (L : List Ent) : Prop := L.Pairwise fun x y => x.1 ≠ y.1

theorem look_mem {L : List Ent} {p : List (List UInt8)} {i : Nat} (h : look L p = some i) : (p, i) ∈ L := by
  unfold look at h
  obtain ⟨x, hx, rfl⟩ := Option.map_eq_some_iff.1 h
  have h1 := List.mem_of_find?_eq_some hx
  have h2 := List.find?_some hx
  simp only [decide_eq_true_eq] at h2
  rw [← h2]; exact h1
theorem look_none {L : List Ent} {p : List (List UInt8)} : look L p = none ↔ ∀ i, (p, i) ∉ L := by
  unfold look
  rw [Option.map_eq_none_iff, List.find?_eq_none]
  constructor
  · intro h i hi
    have := h _ hi
    simp at this
  · intro h x hx he
    simp only [decide_eq_true_eq] at he
    exact h x.2 (by rw [← he]; exact hx)
theorem Uni.same {L : List Ent} (h : Uni L) {p : List (List UInt8)} {i j : Nat} (hi : (p, i) ∈ L) (hj : (p, j) ∈ L) : i = j := by
  induction L with
  | nil => cases hi
  | cons x t ih =>
    unfold Uni at h
    rw [List.pairwise_cons] at h
    rcases List.mem_cons.1 hi with e1 | h1
    · rcases List.mem_cons.1 hj with e2 | h2
      · rw [← e1] at e2; cases e2; rfl
      · exact absurd (by rw [← e1]) (h.1 _ h2)
    · rcases List.mem_cons.1 hj with e2 | h2
      · exact absurd (by rw [← e2]) (h.1 _ h1)
      · exact ih h.2 h1 h2
theorem Uni.look {L : List Ent} (h : Uni L) {p : List (List UInt8)} {i : Nat} : look L p = some i ↔ (p, i) ∈ L := by
  constructor
  · exact look_mem
  · intro hi
    cases e : Go.Proofs.YtdlmkienogimgaaDoor.look L p with
    | none => exact absurd hi (look_none.1 e i)
    | some j => rw [h.same hi (look_mem e)]
theorem Uni.nodup {L : List Ent} (h : Uni L) : L.Nodup := List.nodup_iff_pairwise_ne.2 (pw_of (fun hne e => hne (by rw [e])) h)

/-- Paths that are distinct, each below a directory, each directory with one path. -/
structure Good (L : List Ent) (M : Nat → Option Nat) : Prop where
  uni : Uni L
  root : ∃ r t, L = ([], r) :: t ∧ (M r).isSome = true
  nam : ∀ p i, (p, i) ∈ L → p.length ≤ 8 ∧ ∀ k ∈ p, isN k = true
  up : ∀ p k i, (p ++ [k], i) ∈ L → ∃ d, (p, d) ∈ L ∧ (M d).isSome = true
  one : ∀ p q i, (p, i) ∈ L → (q, i) ∈ L → (M i).isSome = true → p = q
  few : L.length ≤ 25

theorem rev_ind {α : Type} {C : List α → Prop} (h0 : C []) (h1 : ∀ l a, C l → C (l ++ [a])) : ∀ l, C l := by
  intro l
  have : ∀ n (l : List α), l.length = n → C l := by
    intro n
    induction n with
    | zero => intro l hl; rw [List.length_eq_zero_iff.1 hl]; exact h0
    | succ n ih =>
      intro l hl
      have hne : l ≠ [] := fun e => by rw [e] at hl; cases hl
      have := h1 l.dropLast (l.getLast hne) (ih _ (by rw [List.length_dropLast]; omega))
      rw [List.dropLast_concat_getLast hne] at this
      exact this
  exact this _ l rfl

/-- What is ahead of a path is a directory. -/
theorem Good.above {L : List Ent} {M : Nat → Option Nat} (h : Good L M) : ∀ (u : List (List UInt8)) (p : List (List UInt8)) (i : Nat), u ≠ [] → (p ++ u, i) ∈ L → ∃ d, (p, d) ∈ L ∧ (M d).isSome = true := by
  intro u
  induction u using rev_ind with
  | h0 => intro p i hu; exact absurd rfl hu
  | h1 u k ih =>
    intro p i _ hi
    rw [← List.append_assoc] at hi
    obtain ⟨d, hd, hM⟩ := h.up _ _ _ hi
    by_cases hu : u = []
    · rw [hu, List.append_nil] at hd; exact ⟨d, hd, hM⟩
    · exact ih p d hu hd
theorem Good.upto {L : List Ent} {M : Nat → Option Nat} (h : Good L M) (u p : List (List UInt8)) (i : Nat) (hi : (p ++ u, i) ∈ L) : ∃ d, (p, d) ∈ L := by
  by_cases hu : u = []
  · rw [hu, List.append_nil] at hi; exact ⟨i, hi⟩
  · obtain ⟨d, hd, _⟩ := h.above u p i hu hi; exact ⟨d, hd⟩
theorem Good.start {L : List Ent} {M : Nat → Option Nat} (h : Good L M) : ∃ r, ([], r) ∈ L ∧ (M r).isSome = true := by
  obtain ⟨r, t, rfl, hr⟩ := h.root
  exact ⟨r, List.mem_cons_self .., hr⟩

/-- The names in a directory. -/
def kd (L : List Ent) (p : List (List UInt8)) : List (List UInt8) := L.filterMap fun x => if x.1 ≠ [] ∧ x.1.dropLast = p then x.1.getLast? else none
theorem snoc_parts {p q : List (List UInt8)} {k : List UInt8} : (q ≠ [] ∧ q.dropLast = p ∧ q.getLast? = some k) ↔ q = p ++ [k] := by
  constructor
  · rintro ⟨hq, rfl, hk⟩
    rw [List.getLast?_eq_some_getLast hq] at hk
    rw [← Option.some.inj hk, List.dropLast_concat_getLast hq]
  · rintro rfl
    simp
theorem mem_kd {L : List Ent} {p : List (List UInt8)} {k : List UInt8} : k ∈ kd L p ↔ ∃ i, (p ++ [k], i) ∈ L := by
  unfold kd
  rw [List.mem_filterMap]
  constructor
  · rintro ⟨x, hx, hk⟩
    split at hk
    · rename_i hc
      have := snoc_parts.1 ⟨hc.1, hc.2, hk⟩
      exact ⟨x.2, by rw [← this]; exact hx⟩
    · cases hk
  · rintro ⟨i, hi⟩
    exact ⟨_, hi, by rw [if_pos (by simp)]; simp⟩
theorem kd_nodup {L : List Ent} (h : Uni L) (p : List (List UInt8)) : (kd L p).Nodup := by
  rw [List.nodup_iff_pairwise_ne]
  unfold kd
  rw [List.pairwise_filterMap]
  refine pw_of ?_ h
  intro x y hne a ha b hb hab
  split at ha
  · split at hb
    · rename_i h1 h2
      have e1 := snoc_parts.1 ⟨h1.1, h1.2, ha⟩
      have e2 := snoc_parts.1 ⟨h2.1, h2.2, hb⟩
      exact hne (by rw [e1, e2, hab])
    · cases hb
  · cases ha

def leS (x y : List UInt8) : Bool := decide (x ≤ y)
theorem leS_trans (a b c : List UInt8) (h1 : leS a b = true) (h2 : leS b c = true) : leS a c = true := by
  unfold leS at *
  simp only [decide_eq_true_eq] at *
  exact List.le_trans h1 h2
theorem leS_total (a b : List UInt8) : (leS a b || leS b a) = true := by
  unfold leS
  simp only [Bool.or_eq_true, decide_eq_true_eq]
  exact List.le_total a b
theorem le_lt {a b : List UInt8} (h : a ≤ b) (hne : a ≠ b) : a < b := (List.le_iff_lt_or_eq.1 h).resolve_right hne

/-- .. as they rise. -/
def kids (L : List Ent) (p : List (List UInt8)) : List (List UInt8) := (kd L p).mergeSort fun x y => decide (x ≤ y)
theorem mem_kids {L : List Ent} {p : List (List UInt8)} {k : List UInt8} : k ∈ kids L p ↔ ∃ i, (p ++ [k], i) ∈ L := by
  unfold kids
  rw [(List.mergeSort_perm _ _).mem_iff]
  exact mem_kd
theorem sorted_lt {l : List (List UInt8)} (h : l.Nodup) : (l.mergeSort fun x y => decide (x ≤ y)).Pairwise (· < ·) := by
  have h1 := List.pairwise_mergeSort leS_trans leS_total l
  have h2 : (l.mergeSort leS).Nodup := (List.mergeSort_perm l leS).nodup_iff.2 h
  have h3 := List.nodup_iff_pairwise_ne.1 h2
  have h4 := List.pairwise_and_iff.2 ⟨h1, h3⟩
  refine pw_of ?_ h4
  rintro a b ⟨x, y⟩
  unfold leS at x
  exact le_lt (by simpa using x) y
theorem kids_lt {L : List Ent} (h : Uni L) (p : List (List UInt8)) : (kids L p).Pairwise (· < ·) := sorted_lt (kd_nodup h p)

/-- Two lists that rise and have the same things are one. -/
theorem rise_one {α : Type} {R : α → α → Prop} (hi : ∀ a, ¬ R a a) (ht : ∀ a b c, R a b → R b c → R a c) {l l' : List α} (h : l.Pairwise R) (h' : l'.Pairwise R) (hm : ∀ x, x ∈ l ↔ x ∈ l') : l = l' := by
  have hne : ∀ {a b : α}, R a b → a ≠ b := fun {a b} r e => hi a (by rw [← e] at r; exact r)
  have n1 : l.Nodup := List.nodup_iff_pairwise_ne.2 (pw_of hne h)
  have n2 : l'.Nodup := List.nodup_iff_pairwise_ne.2 (pw_of hne h')
  exact List.Perm.eq_of_pairwise (fun a b _ _ r r' => absurd (ht _ _ _ r r') (hi a)) h h' ((List.perm_ext_iff_of_nodup n1 n2).2 hm)

/-- All that is below a path, a directory's ahead of what is in it. -/
def wk : Nat → List Ent → List (List UInt8) → List Ent
  | 0, _, _ => []
  | f + 1, L, p => (kids L p).flatMap fun k => match look L (p ++ [k]) with
    | some j => ([k], j) :: (wk f L (p ++ [k])).map fun x => (k :: x.1, x.2)
    | none => []

theorem wk_mem {L : List Ent} : ∀ (f : Nat) (p : List (List UInt8)) (x : Ent), x ∈ wk f L p → x.1 ≠ [] ∧ (p ++ x.1, x.2) ∈ L
  | 0, _, _, h => by cases h
  | f + 1, p, x, h => by
    rw [wk, List.mem_flatMap] at h
    obtain ⟨k, hk, hx⟩ := h
    cases e : look L (p ++ [k]) with
    | none => rw [e] at hx; cases hx
    | some j =>
      rw [e] at hx
      rcases List.mem_cons.1 hx with rfl | hx
      · exact ⟨by simp, look_mem e⟩
      · obtain ⟨y, hy, rfl⟩ := List.mem_map.1 hx
        have := wk_mem f _ y hy
        exact ⟨by simp, by simpa using this.2⟩
theorem wk_all {L : List Ent} {M : Nat → Option Nat} (h : Good L M) : ∀ (f : Nat) (p x : List (List UInt8)) (i : Nat), x ≠ [] → x.length ≤ f → (p ++ x, i) ∈ L → (x, i) ∈ wk f L p
  | 0, _, x, _, hx, hl, _ => absurd (List.length_eq_zero_iff.1 (Nat.le_zero.1 hl)) hx
  | f + 1, p, x, i, hx, hl, hi => by
    cases x with
    | nil => exact absurd rfl hx
    | cons k x =>
      have hi' : ((p ++ [k]) ++ x, i) ∈ L := by simpa using hi
      obtain ⟨j, hj⟩ := h.upto x (p ++ [k]) i hi'
      rw [wk, List.mem_flatMap]
      refine ⟨k, mem_kids.2 ⟨j, hj⟩, ?_⟩
      rw [h.uni.look.2 hj]
      by_cases hxe : x = []
      · subst hxe
        rw [List.append_nil] at hi'
        rw [h.uni.same hi' hj]
        exact List.mem_cons_self ..
      · refine List.mem_cons_of_mem _ (List.mem_map.2 ⟨(x, i), wk_all h f (p ++ [k]) x i hxe (by simp at hl; omega) hi', rfl⟩)
theorem wk_rise {L : List Ent} (h : Uni L) : ∀ (f : Nat) (p : List (List UInt8)), (wk f L p).Pairwise fun x y => x.1 < y.1
  | 0, _ => List.Pairwise.nil
  | f + 1, p => by
    rw [wk, List.pairwise_flatMap]
    refine ⟨fun k _ => ?_, pw_of ?_ (kids_lt h p)⟩
    · split
      · rw [List.pairwise_cons, List.pairwise_map]
        refine ⟨fun x hx => ?_, pw_of ?_ (wk_rise h f _)⟩
        · obtain ⟨y, hy, rfl⟩ := List.mem_map.1 hx
          have := (wk_mem f _ y hy).1
          rw [List.cons_lt_cons_iff]
          right
          refine ⟨rfl, ?_⟩
          cases e : y.1 with
          | nil => exact absurd e this
          | cons a b => exact List.nil_lt_cons ..
        · intro a b hab
          rw [List.cons_lt_cons_iff]
          exact .inr ⟨rfl, hab⟩
      · exact List.Pairwise.nil
    · intro a b hab x hx y hy
      have hd : ∀ (c : List UInt8) (z : Ent), z ∈ (match look L (p ++ [c]) with | some j => ([c], j) :: (wk f L (p ++ [c])).map (fun x : Ent => (c :: x.1, x.2)) | none => []) → ∃ t, z.1 = c :: t := by
        intro c z hz
        split at hz
        · rcases List.mem_cons.1 hz with rfl | hz
          · exact ⟨[], rfl⟩
          · obtain ⟨y, _, rfl⟩ := List.mem_map.1 hz
            exact ⟨y.1, rfl⟩
        · cases hz
      obtain ⟨t, ht⟩ := hd a x hx
      obtain ⟨t', ht'⟩ := hd b y hy
      rw [ht, ht', List.cons_lt_cons_iff]
      exact .inl hab

/-- All of a tree but the root. -/
def wka (L : List Ent) : List Ent := wk 8 L []
theorem wka_mem {L : List Ent} {M : Nat → Option Nat} (h : Good L M) (x : Ent) : x ∈ wka L ↔ x ∈ L ∧ x.1 ≠ [] := by
  constructor
  · intro hx
    have := wk_mem 8 [] x hx
    exact ⟨by simpa using this.2, this.1⟩
  · rintro ⟨h1, h2⟩
    exact wk_all h 8 [] x.1 x.2 h2 (h.nam x.1 x.2 h1).1 h1
theorem wka_perm {L : List Ent} {M : Nat → Option Nat} (h : Good L M) : (wka L).Perm L.tail := by
  have hne : ∀ {a b : Ent}, a.1 < b.1 → a ≠ b := fun {a b} r e => List.lt_irrefl a.1 (by rw [← e] at r; exact r)
  have n1 : (wka L).Nodup := List.nodup_iff_pairwise_ne.2 (pw_of hne (wk_rise h.uni 8 []))
  obtain ⟨r, t, rfl, hr⟩ := h.root
  have hu := h.uni
  unfold Uni at hu
  rw [List.pairwise_cons] at hu
  have n2 : t.Nodup := (List.nodup_cons.1 h.uni.nodup).2
  refine (List.perm_ext_iff_of_nodup n1 n2).2 fun x => ?_
  rw [wka_mem h]
  constructor
  · rintro ⟨h1, h2⟩
    rcases List.mem_cons.1 h1 with rfl | h1
    · exact absurd rfl h2
    · exact h1
  · intro hx
    exact ⟨List.mem_cons_of_mem _ hx, fun e => hu.1 x hx e.symm⟩
theorem wka_len {L : List Ent} {M : Nat → Option Nat} (h : Good L M) : (wka L).length + 1 = L.length := by
  rw [(wka_perm h).length_eq]
  obtain ⟨r, t, rfl, hr⟩ := h.root
  simp
/-- The same things make the same list. -/
theorem wka_same {L L' : List Ent} {M M' : Nat → Option Nat} (h : Good L M) (h' : Good L' M') (hm : ∀ x, x ∈ L ↔ x ∈ L') : wka L = wka L' := by
  refine rise_one (R := fun x y : Ent => x.1 < y.1) (fun a => List.lt_irrefl _) (fun a b c => List.lt_trans) (wk_rise h.uni 8 []) (wk_rise h'.uni 8 []) fun x => ?_
  exact (wka_mem h x).trans ((and_congr (hm x) Iff.rfl).trans (wka_mem h' x).symm)

/-- A path's text, one / behind a directory's. -/
def tx (M : Nat → Option Nat) (x : Ent) : List UInt8 := shw x.1 ++ if (M x.2).isSome then [47] else []
def sg (p : List (List UInt8)) : List UInt8 := p.flatMap fun k => 47 :: k
theorem sg_cons (k : List UInt8) (p : List (List UInt8)) : sg (k :: p) = 47 :: (k ++ sg p) := by simp [sg]
theorem sg_nil : sg [] = [] := rfl
theorem shw_cons : ∀ (k : List UInt8) (p : List (List UInt8)), shw (k :: p) = sg (k :: p)
  | k, [] => by simp [shw, sg, join_one]
  | k, m :: p => by
    have ih := shw_cons m p
    have e : join (k :: m :: p) [47] = k ++ 47 :: join (m :: p) [47] := by rw [join_cons, join_cons]; simp [joinTail]
    rw [sg_cons, ← ih]
    unfold shw
    rw [e]
theorem shw_sg {p : List (List UInt8)} (h : p ≠ []) : shw p = sg p := by
  cases p with
  | nil => exact absurd rfl h
  | cons k p => exact shw_cons k p

theorem app_lt : ∀ (a x y : List UInt8), x < y → a ++ x < a ++ y
  | [], _, _, h => h
  | c :: a, x, y, h => by
    rw [List.cons_append, List.cons_append, List.cons_lt_cons_iff]
    exact .inr ⟨rfl, app_lt a x y h⟩
theorem isL_gt {c : UInt8} (h : isL c = true) : (47 : UInt8) < c := by
  unfold isL at h
  simp at h
  rw [UInt8.lt_iff_toNat_lt]
  have : (47 : UInt8).toNat = 47 := rfl
  omega
theorem names_lt : ∀ (a b X Y : List UInt8), a.all isL = true → b.all isL = true → a < b → (X = [] ∨ ∃ r, X = 47 :: r) → a ++ X < b ++ Y
  | [], [], _, _, _, _, h, _ => absurd h (List.lt_irrefl _)
  | [], c :: b, X, Y, _, hb, _, hX => by
    rw [List.all_cons, Bool.and_eq_true] at hb
    rcases hX with rfl | ⟨r, rfl⟩
    · exact List.nil_lt_cons ..
    · rw [List.nil_append, List.cons_append, List.cons_lt_cons_iff]
      exact .inl (isL_gt hb.1)
  | c :: a, [], _, _, _, _, h, _ => by cases h
  | c :: a, d :: b, X, Y, ha, hb, h, hX => by
    rw [List.all_cons, Bool.and_eq_true] at ha hb
    rw [List.cons_lt_cons_iff] at h
    rw [List.cons_append, List.cons_append, List.cons_lt_cons_iff]
    rcases h with h | ⟨h1, h2⟩
    · exact .inl h
    · exact .inr ⟨h1, names_lt a b X Y ha.2 hb.2 h2 hX⟩
theorem sg_begin (p : List (List UInt8)) (s : List UInt8) (hs : s = [] ∨ s = [47]) : sg p ++ s = [] ∨ ∃ r, sg p ++ s = 47 :: r := by
  cases p with
  | nil =>
    rcases hs with rfl | rfl
    · exact .inl rfl
    · exact .inr ⟨[], rfl⟩
  | cons k p => exact .inr ⟨_, by rw [sg_cons]; rfl⟩
theorem isN_all {k : List UInt8} (h : isN k = true) : k.all isL = true := by
  unfold isN at h
  simp only [Bool.and_eq_true] at h
  exact h.2
theorem sg_lt : ∀ (a b : List (List UInt8)) (s t : List UInt8), (∀ k ∈ a, isN k = true) → (∀ k ∈ b, isN k = true) → (s = [] ∨ s = [47]) → (a <+: b → s = [47]) → a < b → sg a ++ s < sg b ++ t
  | [], [], _, _, _, _, _, _, h => absurd h (List.lt_irrefl _)
  | [], k :: b, s, t, _, hb, _, hp, _ => by
    rw [hp (List.nil_prefix), sg_nil, sg_cons, List.nil_append, List.cons_append, List.cons_lt_cons_iff]
    right
    refine ⟨rfl, ?_⟩
    have hk := isN_len (hb k (List.mem_cons_self ..))
    cases k with
    | nil => simp at hk
    | cons c r => exact List.nil_lt_cons ..
  | k :: a, [], _, _, _, _, _, _, h => by cases h
  | k :: a, m :: b, s, t, ha, hb, hs, hp, h => by
    rw [List.cons_lt_cons_iff] at h
    rw [sg_cons, sg_cons, List.cons_append, List.cons_append, List.cons_lt_cons_iff, List.append_assoc, List.append_assoc]
    right
    refine ⟨rfl, ?_⟩
    rcases h with h | ⟨rfl, h⟩
    · exact names_lt k m _ _ (isN_all (ha k (List.mem_cons_self ..))) (isN_all (hb m (List.mem_cons_self ..))) h (sg_begin a s hs)
    · refine app_lt k _ _ (sg_lt a b s t (fun x hx => ha x (List.mem_cons_of_mem _ hx)) (fun x hx => hb x (List.mem_cons_of_mem _ hx)) hs (fun hab => hp ?_) h)
      obtain ⟨u, rfl⟩ := hab
      exact ⟨u, rfl⟩
theorem tx_lt {L : List Ent} {M : Nat → Option Nat} (h : Good L M) {x y : Ent} (hx : x ∈ L) (hy : y ∈ L) (hxe : x.1 ≠ []) (hlt : x.1 < y.1) : tx M x < tx M y := by
  have hye : y.1 ≠ [] := fun e => by rw [e] at hlt; exact absurd hlt (List.not_lt_nil _)
  unfold tx
  rw [shw_sg hxe, shw_sg hye]
  refine sg_lt _ _ _ _ (h.nam x.1 x.2 hx).2 (h.nam y.1 y.2 hy).2 (by split <;> simp) (fun hp => ?_) hlt
  obtain ⟨u, hu⟩ := hp
  have hune : u ≠ [] := fun e => by rw [e, List.append_nil] at hu; rw [hu] at hlt; exact List.lt_irrefl _ hlt
  obtain ⟨d, hd, hM⟩ := h.above u x.1 y.2 hune (by rw [hu]; exact hy)
  rw [h.uni.same hx hd, if_pos hM]

/-- All texts. -/
def txs (L : List Ent) (M : Nat → Option Nat) : List (List UInt8) := (wka L).map (tx M)
theorem txs_rise {L : List Ent} {M : Nat → Option Nat} (h : Good L M) : (txs L M).Pairwise (· < ·) := by
  unfold txs
  rw [List.pairwise_map]
  refine List.Pairwise.imp_of_mem ?_ (wk_rise h.uni 8 [])
  intro a b ha hb hab
  have h1 := (wka_mem h a).1 ha
  have h2 := (wka_mem h b).1 hb
  exact tx_lt h h1.1 h2.1 h1.2 hab
theorem txs_len {L : List Ent} {M : Nat → Option Nat} (h : Good L M) : (txs L M).length + 1 = L.length := by
  unfold txs; rw [List.length_map]; exact wka_len h
theorem txs_same {L L' : List Ent} {M M' : Nat → Option Nat} (h : Good L M) (h' : Good L' M') (hm : ∀ x, x ∈ L ↔ x ∈ L') (hM : ∀ p i, (p, i) ∈ L → M i = M' i) : txs L M = txs L' M' := by
  unfold txs
  rw [← wka_same h h' hm]
  refine List.map_congr_left fun x hx => ?_
  have := ((wka_mem h x).1 hx).1
  unfold tx
  rw [hM x.1 x.2 this]

/-- A path's text has just its names, with a / behind or without. -/
theorem wid_names : ∀ {p : List (List UInt8)}, (∀ k ∈ p, isN k = true) → wid p ≤ 5 * p.length
  | [], _ => by simp [wid]
  | k :: p, h => by
    have h1 := isN_len (h k (List.mem_cons_self ..))
    have h2 := wid_names (p := p) fun x hx => h x (List.mem_cons_of_mem _ hx)
    rw [wid_cons, List.length_cons]; omega
theorem shw_path {p : List (List UInt8)} (hl : p.length ≤ 8) (hn : ∀ k ∈ p, isN k = true) : pE (shw p) = 0 ∧ pN (shw p) = p ∧ (shw p).length ≤ 41 := by
  have hw := wid_names hn
  have hlen : (shw p).length ≤ 41 := by rw [shw_len]; split <;> omega
  cases p with
  | nil => exact ⟨by decide, by decide, hlen⟩
  | cons k p =>
    have hs := spl_join k p (hn k (List.mem_cons_self ..)) fun x hx => hn x (List.mem_cons_of_mem _ hx)
    have hf := fol_self hn
    refine ⟨?_, ?_, hlen⟩
    · unfold shw at hlen ⊢
      refine pE_of (by simp at hlen ⊢; omega) ?_ (by rw [hs, hf]; exact hl)
      rw [hs, List.any_eq_false]
      intro x hx
      rw [noP_name (hn x hx)]; simp
    · unfold shw pN
      rw [List.drop_one, List.tail_cons, hs, hf]
theorem shw_slash {p : List (List UInt8)} (hl : p.length ≤ 8) (hn : ∀ k ∈ p, isN k = true) : pE (shw p ++ [47]) = 0 ∧ pN (shw p ++ [47]) = p ∧ (shw p ++ [47]).length ≤ 42 := by
  obtain ⟨h1, h2, h3⟩ := shw_path hl hn
  obtain ⟨_, ⟨r, hr⟩, h5, h6⟩ := pE_ok h1
  rw [hr] at h2 h3 h5 ⊢
  have hs : spl (r ++ [47]) = spl r ++ [[]] := by rw [show r ++ [47] = r ++ 47 :: [] from rfl, spl_append]; rfl
  have hf : fol (spl (r ++ [47])) = fol (spl r) := by
    rw [hs]; unfold fol; rw [List.foldl_append]
    simp only [List.foldl_cons, List.foldl_nil]
    rw [stp, if_neg (by decide), if_neg (by decide)]
  have h2' : fol (spl r) = p := by simpa [pN] using h2
  refine ⟨?_, ?_, by simp at h3 ⊢; omega⟩
  · rw [List.cons_append]
    refine pE_of (by simp at h3 ⊢; omega) ?_ (by rw [hf, h2']; exact hl)
    rw [hs, List.any_append, show (spl r).any noP = false by simpa using h5]; decide
  · show fol (spl ((47 :: r ++ [47]).drop 1)) = p
    rw [List.cons_append, List.drop_one, List.tail_cons, hf, h2']

end Go.Proofs.YtdlmkienogimgaaDoor
