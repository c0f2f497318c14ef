/- This text joins 2 parts of a proof. (1) This text proves plain facts on trees of names as lists of paths: what is at a path, the names in a directory, all paths in their order; it speaks of no call; no condition. (2) This text proves plain facts on trees of names as lists of paths: what is there with a name more, with one less, and with one moved; it speaks of no call; no condition. -/
import Derived.Test.YtdlmkienogimgaaGreatDoorQ0
namespace Go.Proofs.YtdlmkienogimgaaGreatDoor
open Go.Lib

/-- A path, and which thing it names. -/
abbrev Ent := List (List UInt8) × Nat

/-- What is at a path. -/
def look (L : List Ent) (p : List (List UInt8)) : Option Nat := (L.find? fun x => decide (x.1 = p)).map (·.2)

theorem pw_of {α : Type} {R S : α → α → Prop} (H : ∀ {a b : α}, R a b → S a b) : ∀ {l : List α}, l.Pairwise R → l.Pairwise S
  | [], _ => List.Pairwise.nil
  | _ :: _, h => by
    rw [List.pairwise_cons] at h ⊢
    exact ⟨fun b hb => H (h.1 b hb), pw_of H h.2⟩
def Uni (L : List Ent) : Prop := L.Pairwise fun x y => x.1 ≠ y.1

theorem look_mem {L : List Ent} {p : List (List UInt8)} {i : Nat} (h : look L p = some i) : (p, i) ∈ L := by
  unfold look at h
  obtain ⟨x, hx, rfl⟩ := Option.map_eq_some_iff.1 h
  have h1 := List.mem_of_find?_eq_some hx
  have h2 := List.find?_some hx
  simp only [decide_eq_true_eq] at h2
  rw [← h2]; exact h1
theorem look_none {L : List Ent} {p : List (List UInt8)} : look L p = none ↔ ∀ i, (p, i) ∉ L := by
  unfold look
  rw [Option.map_eq_none_iff, List.find?_eq_none]
  constructor
  · intro h i hi
    have := h _ hi
    simp at this
  · intro h x hx he
    simp only [decide_eq_true_eq] at he
    exact h x.2 (by rw [← he]; exact hx)
theorem Uni.same {L : List Ent} (h : Uni L) {p : List (List UInt8)} {i j : Nat} (hi : (p, i) ∈ L) (hj : (p, j) ∈ L) : i = j := by
  induction L with
  | nil => cases hi
  | cons x t ih =>
    unfold Uni at h
    rw [List.pairwise_cons] at h
    rcases List.mem_cons.1 hi with e1 | h1
    · rcases List.mem_cons.1 hj with e2 | h2
      · rw [← e1] at e2; cases e2; rfl
      · exact absurd (by rw [← e1]) (h.1 _ h2)
    · rcases List.mem_cons.1 hj with e2 | h2
      · exact absurd (by rw [← e2]) (h.1 _ h1)
      · exact ih h.2 h1 h2
theorem Uni.look {L : List Ent} (h : Uni L) {p : List (List UInt8)} {i : Nat} : look L p = some i ↔ (p, i) ∈ L := by
  constructor
  · exact look_mem
  · intro hi
    cases e : Go.Proofs.YtdlmkienogimgaaGreatDoor.look L p with
    | none => exact absurd hi (look_none.1 e i)
    | some j => rw [h.same hi (look_mem e)]
theorem Uni.nodup {L : List Ent} (h : Uni L) : L.Nodup := List.nodup_iff_pairwise_ne.2 (pw_of (fun hne e => hne (by rw [e])) h)

/-- Paths that are distinct, each below a directory, each directory with one path. -/
structure Good (L : List Ent) (M : Nat → Option Nat) : Prop where
  uni : Uni L
  root : ∃ r t, L = ([], r) :: t ∧ (M r).isSome = true
  nam : ∀ p i, (p, i) ∈ L → p.length ≤ 8 ∧ ∀ k ∈ p, isN k = true
  up : ∀ p k i, (p ++ [k], i) ∈ L → ∃ d, (p, d) ∈ L ∧ (M d).isSome = true
  one : ∀ p q i, (p, i) ∈ L → (q, i) ∈ L → (M i).isSome = true → p = q
  few : L.length ≤ 25

theorem rev_ind {α : Type} {C : List α → Prop} (h0 : C []) (h1 : ∀ l a, C l → C (l ++ [a])) : ∀ l, C l := by
  intro l
  have : ∀ n (l : List α), l.length = n → C l := by
    intro n
    induction n with
    | zero => intro l hl; rw [List.length_eq_zero_iff.1 hl]; exact h0
    | succ n ih =>
      intro l hl
      have hne : l ≠ [] := fun e => by rw [e] at hl; cases hl
      have := h1 l.dropLast (l.getLast hne) (ih _ (by rw [List.length_dropLast]; omega))
      rw [List.dropLast_concat_getLast hne] at this
      exact this
  exact this _ l rfl

/-- What is ahead of a path is a directory. -/
theorem Good.above {L : List Ent} {M : Nat → Option Nat} (h : Good L M) : ∀ (u : List (List UInt8)) (p : List (List UInt8)) (i : Nat), u ≠ [] → (p ++ u, i) ∈ L → ∃ d, (p, d) ∈ L ∧ (M d).isSome = true := by
  intro u
  induction u using rev_ind with
  | h0 => intro p i hu; exact absurd rfl hu
  | h1 u k ih =>
    intro p i _ hi
    rw [← List.append_assoc] at hi
    obtain ⟨d, hd, hM⟩ := h.up _ _ _ hi
    by_cases hu : u = []
    · rw [hu, List.append_nil] at hd; exact ⟨d, hd, hM⟩
    · exact ih p d hu hd
theorem Good.upto {L : List Ent} {M : Nat → Option Nat} (h : Good L M) (u p : List (List UInt8)) (i : Nat) (hi : (p ++ u, i) ∈ L) : ∃ d, (p, d) ∈ L := by
  by_cases hu : u = []
  · rw [hu, List.append_nil] at hi; exact ⟨i, hi⟩
  · obtain ⟨d, hd, _⟩ := h.above u p i hu hi; exact ⟨d, hd⟩
theorem Good.start {L : List Ent} {M : Nat → Option Nat} (h : Good L M) : ∃ r, ([], r) ∈ L ∧ (M r).isSome = true := by
  obtain ⟨r, t, rfl, hr⟩ := h.root
  exact ⟨r, List.mem_cons_self .., hr⟩

/-- The names in a directory. -/
def kd (L : List Ent) (p : List (List UInt8)) : List (List UInt8) := L.filterMap fun x => if x.1 ≠ [] ∧ x.1.dropLast = p then x.1.getLast? else none
theorem snoc_parts {p q : List (List UInt8)} {k : List UInt8} : (q ≠ [] ∧ q.dropLast = p ∧ q.getLast? = some k) ↔ q = p ++ [k] := by
  constructor
  · rintro ⟨hq, rfl, hk⟩
    rw [List.getLast?_eq_some_getLast hq] at hk
    rw [← Option.some.inj hk, List.dropLast_concat_getLast hq]
  · rintro rfl
    simp
theorem mem_kd {L : List Ent} {p : List (List UInt8)} {k : List UInt8} : k ∈ kd L p ↔ ∃ i, (p ++ [k], i) ∈ L := by
  unfold kd
  rw [List.mem_filterMap]
  constructor
  · rintro ⟨x, hx, hk⟩
    split at hk
    · rename_i hc
      have := snoc_parts.1 ⟨hc.1, hc.2, hk⟩
      exact ⟨x.2, by rw [← this]; exact hx⟩
    · cases hk
  · rintro ⟨i, hi⟩
    exact ⟨_, hi, by rw [if_pos (by simp)]; simp⟩
theorem kd_nodup {L : List Ent} (h : Uni L) (p : List (List UInt8)) : (kd L p).Nodup := by
  rw [List.nodup_iff_pairwise_ne]
  unfold kd
  rw [List.pairwise_filterMap]
  refine pw_of ?_ h
  intro x y hne a ha b hb hab
  split at ha
  · split at hb
    · rename_i h1 h2
      have e1 := snoc_parts.1 ⟨h1.1, h1.2, ha⟩
      have e2 := snoc_parts.1 ⟨h2.1, h2.2, hb⟩
      exact hne (by rw [e1, e2, hab])
    · cases hb
  · cases ha

def leS (x y : List UInt8) : Bool := decide (x ≤ y)
theorem leS_trans (a b c : List UInt8) (h1 : leS a b = true) (h2 : leS b c = true) : leS a c = true := by
  unfold leS at *
  simp only [decide_eq_true_eq] at *
  exact List.le_trans h1 h2
theorem leS_total (a b : List UInt8) : (leS a b || leS b a) = true := by
  unfold leS
  simp only [Bool.or_eq_true, decide_eq_true_eq]
  exact List.le_total a b
theorem le_lt {a b : List UInt8} (h : a ≤ b) (hne : a ≠ b) : a < b := (List.le_iff_lt_or_eq.1 h).resolve_right hne

/-- .. as they rise. -/
def kids (L : List Ent) (p : List (List UInt8)) : List (List UInt8) := (kd L p).mergeSort fun x y => decide (x ≤ y)
theorem mem_kids {L : List Ent} {p : List (List UInt8)} {k : List UInt8} : k ∈ kids L p ↔ ∃ i, (p ++ [k], i) ∈ L := by
  unfold kids
  rw [(List.mergeSort_perm _ _).mem_iff]
  exact mem_kd
theorem sorted_lt {l : List (List UInt8)} (h : l.Nodup) : (l.mergeSort fun x y => decide (x ≤ y)).Pairwise (· < ·) := by
  have h1 := List.pairwise_mergeSort leS_trans leS_total l
  have h2 : (l.mergeSort leS).Nodup := (List.mergeSort_perm l leS).nodup_iff.2 h
  have h3 := List.nodup_iff_pairwise_ne.1 h2
  have h4 := List.pairwise_and_iff.2 ⟨h1, h3⟩
  refine pw_of ?_ h4
  rintro a b ⟨x, y⟩
  unfold leS at x
  exact le_lt (by simpa using x) y
theorem kids_lt {L : List Ent} (h : Uni L) (p : List (List UInt8)) : (kids L p).Pairwise (· < ·) := sorted_lt (kd_nodup h p)

/-- Two lists that rise and have the same things are one. -/
theorem rise_one {α : Type} {R : α → α → Prop} (hi : ∀ a, ¬ R a a) (ht : ∀ a b c, R a b → R b c → R a c) {l l' : List α} (h : l.Pairwise R) (h' : l'.Pairwise R) (hm : ∀ x, x ∈ l ↔ x ∈ l') : l = l' := by
  have hne : ∀ {a b : α}, R a b → a ≠ b := fun {a b} r e => hi a (by rw [← e] at r; exact r)
  have n1 : l.Nodup := List.nodup_iff_pairwise_ne.2 (pw_of hne h)
  have n2 : l'.Nodup := List.nodup_iff_pairwise_ne.2 (pw_of hne h')
  exact List.Perm.eq_of_pairwise (fun a b _ _ r r' => absurd (ht _ _ _ r r') (hi a)) h h' ((List.perm_ext_iff_of_nodup n1 n2).2 hm)

/-- All that is below a path, a directory's ahead of what is in it. -/
def wk : Nat → List Ent → List (List UInt8) → List Ent
  | 0, _, _ => []
  | f + 1, L, p => (kids L p).flatMap fun k => match look L (p ++ [k]) with
    | some j => ([k], j) :: (wk f L (p ++ [k])).map fun x => (k :: x.1, x.2)
    | none => []

theorem wk_mem {L : List Ent} : ∀ (f : Nat) (p : List (List UInt8)) (x : Ent), x ∈ wk f L p → x.1 ≠ [] ∧ (p ++ x.1, x.2) ∈ L
  | 0, _, _, h => by cases h
  | f + 1, p, x, h => by
    rw [wk, List.mem_flatMap] at h
    obtain ⟨k, hk, hx⟩ := h
    cases e : look L (p ++ [k]) with
    | none => rw [e] at hx; cases hx
    | some j =>
      rw [e] at hx
      rcases List.mem_cons.1 hx with rfl | hx
      · exact ⟨by simp, look_mem e⟩
      · obtain ⟨y, hy, rfl⟩ := List.mem_map.1 hx
        have := wk_mem f _ y hy
        exact ⟨by simp, by simpa using this.2⟩
theorem wk_all {L : List Ent} {M : Nat → Option Nat} (h : Good L M) : ∀ (f : Nat) (p x : List (List UInt8)) (i : Nat), x ≠ [] → x.length ≤ f → (p ++ x, i) ∈ L → (x, i) ∈ wk f L p
  | 0, _, x, _, hx, hl, _ => absurd (List.length_eq_zero_iff.1 (Nat.le_zero.1 hl)) hx
  | f + 1, p, x, i, hx, hl, hi => by
    cases x with
    | nil => exact absurd rfl hx
    | cons k x =>
      have hi' : ((p ++ [k]) ++ x, i) ∈ L := by simpa using hi
      obtain ⟨j, hj⟩ := h.upto x (p ++ [k]) i hi'
      rw [wk, List.mem_flatMap]
      refine ⟨k, mem_kids.2 ⟨j, hj⟩, ?_⟩
      rw [h.uni.look.2 hj]
      by_cases hxe : x = []
      · subst hxe
        rw [List.append_nil] at hi'
        rw [h.uni.same hi' hj]
        exact List.mem_cons_self ..
      · refine List.mem_cons_of_mem _ (List.mem_map.2 ⟨(x, i), wk_all h f (p ++ [k]) x i hxe (by simp at hl; omega) hi', rfl⟩)
theorem wk_rise {L : List Ent} (h : Uni L) : ∀ (f : Nat) (p : List (List UInt8)), (wk f L p).Pairwise fun x y => x.1 < y.1
  | 0, _ => List.Pairwise.nil
  | f + 1, p => by
    rw [wk, List.pairwise_flatMap]
    refine ⟨fun k _ => ?_, pw_of ?_ (kids_lt h p)⟩
    · split
      · rw [List.pairwise_cons, List.pairwise_map]
        refine ⟨fun x hx => ?_, pw_of ?_ (wk_rise h f _)⟩
        · obtain ⟨y, hy, rfl⟩ := List.mem_map.1 hx
          have := (wk_mem f _ y hy).1
          rw [List.cons_lt_cons_iff]
          right
          refine ⟨rfl, ?_⟩
          cases e : y.1 with
          | nil => exact absurd e this
          | cons a b => exact List.nil_lt_cons ..
        · intro a b hab
          rw [List.cons_lt_cons_iff]
          exact .inr ⟨rfl, hab⟩
      · exact List.Pairwise.nil
    · intro a b hab x hx y hy
      have hd : ∀ (c : List UInt8) (z : Ent), z ∈ (match look L (p ++ [c]) with | some j => ([c], j) :: (wk f L (p ++ [c])).map (fun x : Ent => (c :: x.1, x.2)) | none => []) → ∃ t, z.1 = c :: t := by
        intro c z hz
        split at hz
        · rcases List.mem_cons.1 hz with rfl | hz
          · exact ⟨[], rfl⟩
          · obtain ⟨y, _, rfl⟩ := List.mem_map.1 hz
            exact ⟨y.1, rfl⟩
        · cases hz
      obtain ⟨t, ht⟩ := hd a x hx
      obtain ⟨t', ht'⟩ := hd b y hy
      rw [ht, ht', List.cons_lt_cons_iff]
      exact .inl hab

/-- All of a tree but the root. -/
def wka (L : List Ent) : List Ent := wk 8 L []
theorem wka_mem {L : List Ent} {M : Nat → Option Nat} (h : Good L M) (x : Ent) : x ∈ wka L ↔ x ∈ L ∧ x.1 ≠ [] := by
  constructor
  · intro hx
    have := wk_mem 8 [] x hx
    exact ⟨by simpa using this.2, this.1⟩
  · rintro ⟨h1, h2⟩
    exact wk_all h 8 [] x.1 x.2 h2 (h.nam x.1 x.2 h1).1 h1
theorem wka_perm {L : List Ent} {M : Nat → Option Nat} (h : Good L M) : (wka L).Perm L.tail := by
  have hne : ∀ {a b : Ent}, a.1 < b.1 → a ≠ b := fun {a b} r e => List.lt_irrefl a.1 (by rw [← e] at r; exact r)
  have n1 : (wka L).Nodup := List.nodup_iff_pairwise_ne.2 (pw_of hne (wk_rise h.uni 8 []))
  obtain ⟨r, t, rfl, hr⟩ := h.root
  have hu := h.uni
  unfold Uni at hu
  rw [List.pairwise_cons] at hu
  have n2 : t.Nodup := (List.nodup_cons.1 h.uni.nodup).2
  refine (List.perm_ext_iff_of_nodup n1 n2).2 fun x => ?_
  rw [wka_mem h]
  constructor
  · rintro ⟨h1, h2⟩
    rcases List.mem_cons.1 h1 with rfl | h1
    · exact absurd rfl h2
    · exact h1
  · intro hx
    exact ⟨List.mem_cons_of_mem _ hx, fun e => hu.1 x hx e.symm⟩
theorem wka_len {L : List Ent} {M : Nat → Option Nat} (h : Good L M) : (wka L).length + 1 = L.length := by
  rw [(wka_perm h).length_eq]
  obtain ⟨r, t, rfl, hr⟩ := h.root
  simp
/-- The same things make the same list. -/
theorem wka_same {L L' : List Ent} {M M' : Nat → Option Nat} (h : Good L M) (h' : Good L' M') (hm : ∀ x, x ∈ L ↔ x ∈ L') : wka L = wka L' := by
  refine rise_one (R := fun x y : Ent => x.1 < y.1) (fun a => List.lt_irrefl _) (fun a b c => List.lt_trans) (wk_rise h.uni 8 []) (wk_rise h'.uni 8 []) fun x => ?_
  exact (wka_mem h x).trans ((and_congr (hm x) Iff.rfl).trans (wka_mem h' x).symm)

/-- A path's text, one / behind a directory's. -/
def tx (M : Nat → Option Nat) (x : Ent) : List UInt8 := shw x.1 ++ if (M x.2).isSome then [47] else []
def sg (p : List (List UInt8)) : List UInt8 := p.flatMap fun k => 47 :: k
theorem sg_cons (k : List UInt8) (p : List (List UInt8)) : sg (k :: p) = 47 :: (k ++ sg p) := by simp [sg]
theorem sg_nil : sg [] = [] := rfl
theorem shw_cons : ∀ (k : List UInt8) (p : List (List UInt8)), shw (k :: p) = sg (k :: p)
  | k, [] => by simp [shw, sg, join_one]
  | k, m :: p => by
    have ih := shw_cons m p
    have e : join (k :: m :: p) [47] = k ++ 47 :: join (m :: p) [47] := by rw [join_cons, join_cons]; simp [joinTail]
    rw [sg_cons, ← ih]
    unfold shw
    rw [e]
theorem shw_sg {p : List (List UInt8)} (h : p ≠ []) : shw p = sg p := by
  cases p with
  | nil => exact absurd rfl h
  | cons k p => exact shw_cons k p

theorem app_lt : ∀ (a x y : List UInt8), x < y → a ++ x < a ++ y
  | [], _, _, h => h
  | c :: a, x, y, h => by
    rw [List.cons_append, List.cons_append, List.cons_lt_cons_iff]
    exact .inr ⟨rfl, app_lt a x y h⟩
theorem isL_gt {c : UInt8} (h : isL c = true) : (47 : UInt8) < c := by
  unfold isL at h
  simp at h
  rw [UInt8.lt_iff_toNat_lt]
  have : (47 : UInt8).toNat = 47 := rfl
  omega
theorem names_lt : ∀ (a b X Y : List UInt8), a.all isL = true → b.all isL = true → a < b → (X = [] ∨ ∃ r, X = 47 :: r) → a ++ X < b ++ Y
  | [], [], _, _, _, _, h, _ => absurd h (List.lt_irrefl _)
  | [], c :: b, X, Y, _, hb, _, hX => by
    rw [List.all_cons, Bool.and_eq_true] at hb
    rcases hX with rfl | ⟨r, rfl⟩
    · exact List.nil_lt_cons ..
    · rw [List.nil_append, List.cons_append, List.cons_lt_cons_iff]
      exact .inl (isL_gt hb.1)
  | c :: a, [], _, _, _, _, h, _ => by cases h
  | c :: a, d :: b, X, Y, ha, hb, h, hX => by
    rw [List.all_cons, Bool.and_eq_true] at ha hb
    rw [List.cons_lt_cons_iff] at h
    rw [List.cons_append, List.cons_append, List.cons_lt_cons_iff]
    rcases h with h | ⟨h1, h2⟩
    · exact .inl h
    · exact .inr ⟨h1, names_lt a b X Y ha.2 hb.2 h2 hX⟩
theorem sg_begin (p : List (List UInt8)) (s : List UInt8) (hs : s = [] ∨ s = [47]) : sg p ++ s = [] ∨ ∃ r, sg p ++ s = 47 :: r := by
  cases p with
  | nil =>
    rcases hs with rfl | rfl
    · exact .inl rfl
    · exact .inr ⟨[], rfl⟩
  | cons k p => exact .inr ⟨_, by rw [sg_cons]; rfl⟩
theorem isN_all {k : List UInt8} (h : isN k = true) : k.all isL = true := by
  unfold isN at h
  simp only [Bool.and_eq_true] at h
  exact h.2
theorem sg_lt : ∀ (a b : List (List UInt8)) (s t : List UInt8), (∀ k ∈ a, isN k = true) → (∀ k ∈ b, isN k = true) → (s = [] ∨ s = [47]) → (a <+: b → s = [47]) → a < b → sg a ++ s < sg b ++ t
  | [], [], _, _, _, _, _, _, h => absurd h (List.lt_irrefl _)
  | [], k :: b, s, t, _, hb, _, hp, _ => by
    rw [hp (List.nil_prefix), sg_nil, sg_cons, List.nil_append, List.cons_append, List.cons_lt_cons_iff]
    right
    refine ⟨rfl, ?_⟩
    have hk := isN_len (hb k (List.mem_cons_self ..))
    cases k with
    | nil => simp at hk
    | cons c r => exact List.nil_lt_cons ..
  | k :: a, [], _, _, _, _, _, _, h => by cases h
  | k :: a, m :: b, s, t, ha, hb, hs, hp, h => by
    rw [List.cons_lt_cons_iff] at h
    rw [sg_cons, sg_cons, List.cons_append, List.cons_append, List.cons_lt_cons_iff, List.append_assoc, List.append_assoc]
    right
    refine ⟨rfl, ?_⟩
    rcases h with h | ⟨rfl, h⟩
    · exact names_lt k m _ _ (isN_all (ha k (List.mem_cons_self ..))) (isN_all (hb m (List.mem_cons_self ..))) h (sg_begin a s hs)
    · refine app_lt k _ _ (sg_lt a b s t (fun x hx => ha x (List.mem_cons_of_mem _ hx)) (fun x hx => hb x (List.mem_cons_of_mem _ hx)) hs (fun hab => hp ?_) h)
      obtain ⟨u, rfl⟩ := hab
      exact ⟨u, rfl⟩
theorem tx_lt {L : List Ent} {M : Nat → Option Nat} (h : Good L M) {x y : Ent} (hx : x ∈ L) (hy : y ∈ L) (hxe : x.1 ≠ []) (hlt : x.1 < y.1) : tx M x < tx M y := by
  have hye : y.1 ≠ [] := fun e => by rw [e] at hlt; exact absurd hlt (List.not_lt_nil _)
  unfold tx
  rw [shw_sg hxe, shw_sg hye]
  refine sg_lt _ _ _ _ (h.nam x.1 x.2 hx).2 (h.nam y.1 y.2 hy).2 (by split <;> simp) (fun hp => ?_) hlt
  obtain ⟨u, hu⟩ := hp
  have hune : u ≠ [] := fun e => by rw [e, List.append_nil] at hu; rw [hu] at hlt; exact List.lt_irrefl _ hlt
  obtain ⟨d, hd, hM⟩ := h.above u x.1 y.2 hune (by rw [hu]; exact hy)
  rw [h.uni.same hx hd, if_pos hM]

/-- All texts. -/
def txs (L : List Ent) (M : Nat → Option Nat) : List (List UInt8) := (wka L).map (tx M)
theorem txs_rise {L : List Ent} {M : Nat → Option Nat} (h : Good L M) : (txs L M).Pairwise (· < ·) := by
  unfold txs
  rw [List.pairwise_map]
  refine List.Pairwise.imp_of_mem ?_ (wk_rise h.uni 8 [])
  intro a b ha hb hab
  have h1 := (wka_mem h a).1 ha
  have h2 := (wka_mem h b).1 hb
  exact tx_lt h h1.1 h2.1 h1.2 hab
theorem txs_len {L : List Ent} {M : Nat → Option Nat} (h : Good L M) : (txs L M).length + 1 = L.length := by
  unfold txs; rw [List.length_map]; exact wka_len h
theorem txs_same {L L' : List Ent} {M M' : Nat → Option Nat} (h : Good L M) (h' : Good L' M') (hm : ∀ x, x ∈ L ↔ x ∈ L') (hM : ∀ p i, (p, i) ∈ L → M i = M' i) : txs L M = txs L' M' := by
  unfold txs
  rw [← wka_same h h' hm]
  refine List.map_congr_left fun x hx => ?_
  have := ((wka_mem h x).1 hx).1
  unfold tx
  rw [hM x.1 x.2 this]

/-- A path's text has just its names, with a / behind or without. -/
theorem wid_names : ∀ {p : List (List UInt8)}, (∀ k ∈ p, isN k = true) → wid p ≤ 5 * p.length
  | [], _ => by simp [wid]
  | k :: p, h => by
    have h1 := isN_len (h k (List.mem_cons_self ..))
    have h2 := wid_names (p := p) fun x hx => h x (List.mem_cons_of_mem _ hx)
    rw [wid_cons, List.length_cons]; omega
theorem shw_path {p : List (List UInt8)} (hl : p.length ≤ 8) (hn : ∀ k ∈ p, isN k = true) : pE (shw p) = 0 ∧ pN (shw p) = p ∧ (shw p).length ≤ 41 := by
  have hw := wid_names hn
  have hlen : (shw p).length ≤ 41 := by rw [shw_len]; split <;> omega
  cases p with
  | nil => exact ⟨by decide, by decide, hlen⟩
  | cons k p =>
    have hs := spl_join k p (hn k (List.mem_cons_self ..)) fun x hx => hn x (List.mem_cons_of_mem _ hx)
    have hf := fol_self hn
    refine ⟨?_, ?_, hlen⟩
    · unfold shw at hlen ⊢
      refine pE_of (by simp at hlen ⊢; omega) ?_ (by rw [hs, hf]; exact hl)
      rw [hs, List.any_eq_false]
      intro x hx
      rw [noP_name (hn x hx)]; simp
    · unfold shw pN
      rw [List.drop_one, List.tail_cons, hs, hf]
theorem shw_slash {p : List (List UInt8)} (hl : p.length ≤ 8) (hn : ∀ k ∈ p, isN k = true) : pE (shw p ++ [47]) = 0 ∧ pN (shw p ++ [47]) = p ∧ (shw p ++ [47]).length ≤ 42 := by
  obtain ⟨h1, h2, h3⟩ := shw_path hl hn
  obtain ⟨_, ⟨r, hr⟩, h5, h6⟩ := pE_ok h1
  rw [hr] at h2 h3 h5 ⊢
  have hs : spl (r ++ [47]) = spl r ++ [[]] := by rw [show r ++ [47] = r ++ 47 :: [] from rfl, spl_append]; rfl
  have hf : fol (spl (r ++ [47])) = fol (spl r) := by
    rw [hs]; unfold fol; rw [List.foldl_append]
    simp only [List.foldl_cons, List.foldl_nil]
    rw [stp, if_neg (by decide), if_neg (by decide)]
  have h2' : fol (spl r) = p := by simpa [pN] using h2
  refine ⟨?_, ?_, by simp at h3 ⊢; omega⟩
  · rw [List.cons_append]
    refine pE_of (by simp at h3 ⊢; omega) ?_ (by rw [hf, h2']; exact hl)
    rw [hs, List.any_append, show (spl r).any noP = false by simpa using h5]; decide
  · show fol (spl ((47 :: r ++ [47]).drop 1)) = p
    rw [List.cons_append, List.drop_one, List.tail_cons, hf, h2']

end Go.Proofs.YtdlmkienogimgaaGreatDoor

namespace Go.Proofs.YtdlmkienogimgaaGreatDoor
open Go.Lib

theorem Good.congr {L : List Ent} {M M' : Nat → Option Nat} (h : Good L M) (he : ∀ p i, (p, i) ∈ L → M' i = M i) : Good L M' := by
  obtain ⟨r, t, rfl, hr⟩ := h.root
  refine ⟨h.uni, ⟨r, t, rfl, by rw [he [] r (by simp)]; exact hr⟩, h.nam, fun p k i hi => ?_, fun p q i hp hq hm => h.one p q i hp hq (by rw [← he p i hp]; exact hm), h.few⟩
  obtain ⟨d, hd, hm⟩ := h.up p k i hi
  exact ⟨d, hd, by rw [he p d hd]; exact hm⟩

theorem look_eq {L L' : List Ent} {p p' : List (List UInt8)} (hu' : Uni L') (h : ∀ i, (p', i) ∈ L' ↔ (p, i) ∈ L) : look L' p' = look L p := by
  cases e : look L p with
  | none =>
    rw [look_none]
    intro i hi
    exact look_none.1 e i ((h i).1 hi)
  | some j => exact hu'.look.2 ((h j).2 (look_mem e))

/-! ### a name more -/
theorem put_uni {L : List Ent} {p : List (List UInt8)} {i : Nat} (hu : Uni L) (hp : look L p = none) : Uni (L ++ [(p, i)]) := by
  unfold Uni
  rw [List.pairwise_append]
  refine ⟨hu, by simp, fun x hx y hy e => ?_⟩
  rw [List.mem_singleton] at hy
  subst hy
  exact look_none.1 hp x.2 (by rw [← show x.1 = p from e]; exact hx)
theorem put_look {L : List Ent} {p x : List (List UInt8)} {i : Nat} (hu : Uni L) (hp : look L p = none) : look (L ++ [(p, i)]) x = if x = p then some i else look L x := by
  have hu' := put_uni (i := i) hu hp
  split
  · rename_i e
    subst e
    exact hu'.look.2 (by simp)
  · rename_i e
    refine look_eq hu' fun j => ?_
    simp [e]

theorem put_good {L : List Ent} {M : Nat → Option Nat} (h : Good L M) {q : List (List UInt8)} {k : List UInt8} {d i : Nat} (hq : look L q = some d) (hd : (M d).isSome = true) (hp : look L (q ++ [k]) = none) (hk : isN k = true) (hl : q.length + 1 ≤ 8) (hf : L.length ≤ 24)
    (hi : M i = none ∨ ∀ x, (x, i) ∉ L) : Good (L ++ [(q ++ [k], i)]) M := by
  obtain ⟨r, t, hL, hr⟩ := h.root
  have hmem : ∀ x j, (x, j) ∈ L ++ [(q ++ [k], i)] → (x, j) ∈ L ∨ (x = q ++ [k] ∧ j = i) := fun x j hx => by
    rcases List.mem_append.1 hx with hx | hx
    · exact .inl hx
    · rw [List.mem_singleton] at hx
      cases hx
      exact .inr ⟨rfl, rfl⟩
  refine ⟨put_uni h.uni hp, ⟨r, t ++ [(q ++ [k], i)], by rw [hL]; rfl, hr⟩, fun x j hx => ?_, fun x c j hx => ?_, fun x y j hx hy hm => ?_, by simp; omega⟩
  · rcases hmem x j hx with hx | ⟨rfl, rfl⟩
    · exact h.nam x j hx
    · refine ⟨by simp; omega, fun c hc => ?_⟩
      rcases List.mem_append.1 hc with hc | hc
      · exact (h.nam q d (look_mem hq)).2 c hc
      · rw [List.mem_singleton.1 hc]; exact hk
  · rcases hmem _ j hx with hx1 | ⟨hx1, _⟩
    · obtain ⟨d', hd', hm⟩ := h.up x c j hx1
      exact ⟨d', List.mem_append_left _ hd', hm⟩
    · obtain ⟨rfl, _⟩ := List.append_inj' hx1 rfl
      exact ⟨d, List.mem_append_left _ (look_mem hq), hd⟩
  · have hni : ∀ z, (z, j) ∈ L → j ≠ i := fun z hz e => by
      subst e
      rcases hi with hi | hi
      · rw [hi] at hm; cases hm
      · exact hi z hz
    rcases hmem x j hx with hx1 | ⟨hx1, hx2⟩
    · rcases hmem y j hy with hy1 | ⟨_, hy2⟩
      · exact h.one x y j hx1 hy1 hm
      · exact absurd hy2 (hni x hx1)
    · rcases hmem y j hy with hy1 | ⟨hy1, _⟩
      · exact absurd hx2 (hni y hy1)
      · rw [hx1, hy1]

/-! ### a name less -/
def cutL (L : List Ent) (p : List (List UInt8)) : List Ent := L.filter fun x => decide (x.1 ≠ p)
theorem mem_cutL {L : List Ent} {p : List (List UInt8)} {x : Ent} : x ∈ cutL L p ↔ x ∈ L ∧ x.1 ≠ p := by simp [cutL]
theorem cut_uni {L : List Ent} (p : List (List UInt8)) (hu : Uni L) : Uni (cutL L p) := List.Pairwise.filter _ hu
theorem cut_look {L : List Ent} {p x : List (List UInt8)} (hu : Uni L) : look (cutL L p) x = if x = p then none else look L x := by
  split
  · rename_i e
    rw [look_none]
    intro i hi
    exact (mem_cutL.1 hi).2 e
  · rename_i e
    exact look_eq (cut_uni p hu) fun j => by rw [mem_cutL]; exact ⟨fun h => h.1, fun h => ⟨h, e⟩⟩
theorem cut_good {L : List Ent} {M : Nat → Option Nat} (h : Good L M) {p : List (List UInt8)} (hp : p ≠ []) (hk : kids L p = []) : Good (cutL L p) M := by
  obtain ⟨r, t, rfl, hr⟩ := h.root
  refine ⟨cut_uni p h.uni, ⟨r, cutL t p, by simp [cutL, Ne.symm hp], hr⟩, fun x j hx => h.nam x j (mem_cutL.1 hx).1, fun x c j hx => ?_, fun x y j hx hy => h.one x y j (mem_cutL.1 hx).1 (mem_cutL.1 hy).1, ?_⟩
  · obtain ⟨d, hd, hm⟩ := h.up x c j (mem_cutL.1 hx).1
    refine ⟨d, mem_cutL.2 ⟨hd, fun e => ?_⟩, hm⟩
    have e' : x = p := e
    subst e'
    have : c ∈ kids (([], r) :: t) x := mem_kids.2 ⟨j, (mem_cutL.1 hx).1⟩
    rw [hk] at this
    cases this
  · exact Nat.le_trans (List.length_filter_le _ _) h.few
theorem cut_len {L : List Ent} (hu : Uni L) {p : List (List UInt8)} {i : Nat} (hp : look L p = some i) : (cutL L p).length + 1 = L.length := by
  have hm := look_mem hp
  obtain ⟨a, b, rfl⟩ := List.append_of_mem hm
  unfold Uni at hu
  rw [List.pairwise_append, List.pairwise_cons] at hu
  obtain ⟨_, ⟨h2, _⟩, h3⟩ := hu
  have e1 : cutL a p = a := List.filter_eq_self.2 fun x hx => by simpa using h3 x hx (p, i) (by simp)
  have e2 : cutL b p = b := List.filter_eq_self.2 fun x hx => by simpa using Ne.symm (h2 x hx)
  unfold cutL at e1 e2 ⊢
  rw [List.filter_append, List.filter_cons, if_neg (by simp), e1, e2]
  simp; omega

/-! ### a name moved -/
def mv (p p2 x : List (List UInt8)) : List (List UInt8) := if p <+: x then p2 ++ x.drop p.length else x
def movL (L : List Ent) (p p2 : List (List UInt8)) : List Ent := L.map fun x => (mv p p2 x.1, x.2)
theorem mv_under (p p2 u : List (List UInt8)) : mv p p2 (p ++ u) = p2 ++ u := by
  unfold mv; rw [if_pos (List.prefix_append _ _), List.drop_left]
theorem mv_off {p p2 x : List (List UInt8)} (h : ¬ p <+: x) : mv p p2 x = x := if_neg h
theorem mv_self (p p2 : List (List UInt8)) : mv p p2 p = p2 := by have := mv_under p p2 []; simpa using this

/-- What a move asks. -/
structure Mov (L : List Ent) (M : Nat → Option Nat) (q q2 : List (List UInt8)) (k k2 : List UInt8) (i d d2 : Nat) : Prop where
  good : Good L M
  here : look L (q ++ [k]) = some i
  from' : look L q = some d ∧ (M d).isSome = true
  goal : look L q2 = some d2 ∧ (M d2).isSome = true
  free : look L (q2 ++ [k2]) = none
  name : isN k2 = true
  out : ¬ (q ++ [k]) <+: q2
  deep : ∀ u j, (q ++ [k] ++ u, j) ∈ L → q2.length + 1 + u.length ≤ 8

section
variable {L : List Ent} {M : Nat → Option Nat} {q q2 : List (List UInt8)} {k k2 : List UInt8} {i d d2 : Nat}

theorem snoc_pre {p x : List (List UInt8)} {c : List UInt8} (h : p <+: x ++ [c]) : p = x ++ [c] ∨ p <+: x := by
  obtain ⟨u, hu⟩ := h
  by_cases hn : u = []
  · left; rw [hn, List.append_nil] at hu; exact hu
  · right
    refine ⟨u.dropLast, ?_⟩
    have := congrArg List.dropLast hu
    rw [List.dropLast_concat, List.dropLast_append_of_ne_nil hn] at this
    exact this

theorem Mov.off (h : Mov L M q q2 k k2 i d d2) : ¬ (q ++ [k]) <+: (q2 ++ [k2]) := fun hp => by
  rcases snoc_pre hp with e | e
  · have := h.here
    rw [e, h.free] at this
    cases this
  · exact h.out e
theorem Mov.none_below (h : Mov L M q q2 k k2 i d d2) {x : List (List UInt8)} {j : Nat} (hx : (x, j) ∈ L) : ¬ (q2 ++ [k2]) <+: x := fun ⟨u, hu⟩ => by
  subst hu
  obtain ⟨d', hd'⟩ := h.good.upto u _ j hx
  exact look_none.1 h.free d' hd'
theorem Mov.inj (h : Mov L M q q2 k k2 i d d2) {a b : Ent} (ha : a ∈ L) (hb : b ∈ L) (e : mv (q ++ [k]) (q2 ++ [k2]) a.1 = mv (q ++ [k]) (q2 ++ [k2]) b.1) : a.1 = b.1 := by
  by_cases h1 : (q ++ [k]) <+: a.1
  · obtain ⟨u, hu⟩ := h1
    rw [← hu, mv_under] at e
    by_cases h2 : (q ++ [k]) <+: b.1
    · obtain ⟨v, hv⟩ := h2
      rw [← hv, mv_under] at e
      rw [← hu, ← hv, List.append_cancel_left e]
    · rw [mv_off h2] at e
      exact absurd ⟨u, e⟩ (h.none_below (j := b.2) hb)
  · rw [mv_off h1] at e
    by_cases h2 : (q ++ [k]) <+: b.1
    · obtain ⟨v, hv⟩ := h2
      rw [← hv, mv_under] at e
      exact absurd ⟨v, e.symm⟩ (h.none_below (j := a.2) ha)
    · rw [mv_off h2] at e
      exact e
theorem Mov.uni (h : Mov L M q q2 k k2 i d d2) : Uni (movL L (q ++ [k]) (q2 ++ [k2])) := by
  unfold Uni movL
  rw [List.pairwise_map]
  refine List.Pairwise.imp_of_mem ?_ h.good.uni
  intro a b ha hb hne e
  exact hne (h.inj ha hb e)
theorem mem_movL {p p2 : List (List UInt8)} {x : Ent} : x ∈ movL L p p2 ↔ ∃ y j, (y, j) ∈ L ∧ x = (mv p p2 y, j) := by
  unfold movL
  rw [List.mem_map]
  constructor
  · rintro ⟨y, hy, rfl⟩; exact ⟨y.1, y.2, hy, rfl⟩
  · rintro ⟨y, j, hy, rfl⟩; exact ⟨(y, j), hy, rfl⟩
theorem Mov.good' (h : Mov L M q q2 k k2 i d d2) : Good (movL L (q ++ [k]) (q2 ++ [k2])) M := by
  have hroot : mv (q ++ [k]) (q2 ++ [k2]) [] = [] := mv_off fun ⟨u, hu⟩ => by simp at hu
  have hg2 : mv (q ++ [k]) (q2 ++ [k2]) q2 = q2 := mv_off h.out
  refine ⟨h.uni, ?_, fun x j hx => ?_, fun x c j hx => ?_, fun x y j hx hy hm => ?_, by unfold movL; rw [List.length_map]; exact h.good.few⟩
  · obtain ⟨r, t, rfl, hr⟩ := h.good.root
    exact ⟨r, t.map fun x => (mv (q ++ [k]) (q2 ++ [k2]) x.1, x.2), by unfold movL; rw [List.map_cons, hroot], hr⟩
  · obtain ⟨y, j', hy, e⟩ := mem_movL.1 hx
    cases e
    obtain ⟨h1, h2⟩ := h.good.nam y j hy
    by_cases hp : (q ++ [k]) <+: y
    · obtain ⟨u, rfl⟩ := hp
      rw [mv_under]
      refine ⟨by have := h.deep u j hy; simp; omega, fun c hc => ?_⟩
      rcases List.mem_append.1 hc with hc | hc
      · rcases List.mem_append.1 hc with hc | hc
        · exact (h.good.nam _ _ (look_mem h.goal.1)).2 c hc
        · rw [List.mem_singleton.1 hc]; exact h.name
      · exact h2 c (List.mem_append_right _ hc)
    · rw [mv_off hp]; exact ⟨h1, h2⟩
  · obtain ⟨y, j', hy, e⟩ := mem_movL.1 hx
    simp only [Prod.mk.injEq] at e
    obtain ⟨e, rfl⟩ := e
    have hyn : y ≠ [] := fun e' => by rw [e', hroot] at e; simp at e
    obtain ⟨y0, cy, rfl⟩ : ∃ y0 cy, y = y0 ++ [cy] := ⟨_, _, (List.dropLast_concat_getLast hyn).symm⟩
    obtain ⟨d0, hd0, hm0⟩ := h.good.up y0 cy j hy
    by_cases hp : (q ++ [k]) <+: y0 ++ [cy]
    · rcases snoc_pre hp with e1 | e1
      · rw [← e1, mv_self] at e
        obtain ⟨rfl, _⟩ := List.append_inj' e rfl
        exact ⟨d2, mem_movL.2 ⟨x, d2, look_mem h.goal.1, by rw [hg2]⟩, h.goal.2⟩
      · obtain ⟨u, rfl⟩ := e1
        rw [List.append_assoc, mv_under, ← List.append_assoc] at e
        obtain ⟨rfl, _⟩ := List.append_inj' e rfl
        exact ⟨d0, mem_movL.2 ⟨_, d0, hd0, by rw [mv_under]⟩, hm0⟩
    · rw [mv_off hp] at e
      obtain ⟨rfl, _⟩ := List.append_inj' e rfl
      exact ⟨d0, mem_movL.2 ⟨_, d0, hd0, by rw [mv_off fun hq => hp (hq.trans (List.prefix_append _ _))]⟩, hm0⟩
  · obtain ⟨a, ja, ha, e1⟩ := mem_movL.1 hx
    obtain ⟨b, jb, hb, e2⟩ := mem_movL.1 hy
    cases e1
    cases e2
    rw [h.good.one a b j ha hb hm]
/-- What is at a path behind a move. -/
theorem Mov.look (h : Mov L M q q2 k k2 i d d2) {x : List (List UInt8)} {j : Nat} (hx : (x, j) ∈ L) (c : List UInt8) :
    look (movL L (q ++ [k]) (q2 ++ [k2])) (mv (q ++ [k]) (q2 ++ [k2]) x ++ [c]) = if x = q2 ∧ c = k2 then some i else if x = q ∧ c = k then none else Go.Proofs.YtdlmkienogimgaaGreatDoor.look L (x ++ [c]) := by
  have hg2 : mv (q ++ [k]) (q2 ++ [k2]) q2 = q2 := mv_off h.out
  have hg1 : mv (q ++ [k]) (q2 ++ [k2]) q = q := mv_off fun ⟨u, hu⟩ => by have := congrArg List.length hu; simp at this
  split
  · rename_i e
    obtain ⟨rfl, rfl⟩ := e
    rw [hg2]
    exact h.uni.look.2 (mem_movL.2 ⟨_, i, look_mem h.here, by rw [mv_self]⟩)
  · rename_i n2
    split
    · rename_i e
      obtain ⟨rfl, rfl⟩ := e
      rw [hg1, look_none]
      intro j' hj'
      obtain ⟨y, jy, hy, e⟩ := mem_movL.1 hj'
      simp only [Prod.mk.injEq] at e
      obtain ⟨e, rfl⟩ := e
      by_cases hp : (x ++ [c]) <+: y
      · obtain ⟨u, rfl⟩ := hp
        rw [mv_under] at e
        exact h.none_below (look_mem h.here) ⟨u, e.symm⟩
      · rw [mv_off hp] at e
        exact hp (by rw [e]; exact List.prefix_rfl)
    · rename_i n1
      have hstep : mv (q ++ [k]) (q2 ++ [k2]) x ++ [c] = mv (q ++ [k]) (q2 ++ [k2]) (x ++ [c]) := by
        by_cases hp : (q ++ [k]) <+: x
        · obtain ⟨u, rfl⟩ := hp
          rw [mv_under, List.append_assoc (q ++ [k]), mv_under, List.append_assoc]
        · rw [mv_off hp, mv_off fun hq => ?_]
          rcases snoc_pre hq with e | e
          · obtain ⟨rfl, e2⟩ := List.append_inj' e rfl
            exact n1 ⟨rfl, by simpa using e2.symm⟩
          · exact hp e
      rw [hstep]
      refine look_eq h.uni fun j' => ?_
      constructor
      · intro hj
        obtain ⟨y, jy, hy, e⟩ := mem_movL.1 hj
        simp only [Prod.mk.injEq] at e
        obtain ⟨e, rfl⟩ := e
        by_cases hp : (q ++ [k]) <+: x ++ [c]
        · obtain ⟨u, hu⟩ := hp
          rw [← hu] at e ⊢
          rw [mv_under] at e
          by_cases hp2 : (q ++ [k]) <+: y
          · obtain ⟨v, rfl⟩ := hp2
            rw [mv_under] at e
            rw [List.append_cancel_left e]; exact hy
          · rw [mv_off hp2] at e
            exact absurd ⟨u, e⟩ (h.none_below hy)
        · rw [mv_off hp] at e
          by_cases hp2 : (q ++ [k]) <+: y
          · obtain ⟨v, rfl⟩ := hp2
            rw [mv_under] at e
            exfalso
            have hpre : (q2 ++ [k2]) <+: x ++ [c] := ⟨v, e.symm⟩
            rcases snoc_pre hpre with e3 | e3
            · obtain ⟨rfl, e4⟩ := List.append_inj' e3 rfl
              exact n2 ⟨rfl, by simpa using e4.symm⟩
            · exact h.none_below hx e3
          · rw [mv_off hp2] at e
            rw [e]; exact hy
      · intro hj
        exact mem_movL.2 ⟨_, j', hj, rfl⟩
end

end Go.Proofs.YtdlmkienogimgaaGreatDoor
