/- This text proves plain facts on paths as lists of bytes: names, parts, what is left of them, from the front and from the end; it speaks of no call; no condition. -/
import Derived.Lib.SplitLaws
import Derived.Lib.Join
namespace Go.Proofs.YtdlmkienogimgaaGreatDoor
open Go.Lib

/-- A text's bytes as a value holds them. -/
def bs (l : List UInt8) : ByteArray := ⟨l.toArray⟩
theorem bs_data (s : ByteArray) : bs s.data.toList = s := by cases s; simp [bs]
theorem data_bs (l : List UInt8) : (bs l).data.toList = l := by simp [bs]
theorem bs_inj {a b : List UInt8} (h : bs a = bs b) : a = b := by rw [← data_bs a, h, data_bs]

def isL (c : UInt8) : Bool := decide (97 ≤ c.toNat) && decide (c.toNat ≤ 122)
def isN (l : List UInt8) : Bool := decide (1 ≤ l.length) && decide (l.length ≤ 4) && l.all isL

/-- Cut at each /. -/
def spl : List UInt8 → List (List UInt8)
  | [] => [[]]
  | c :: r => if c = 47 then [] :: spl r else (c :: (spl r).headD []) :: (spl r).tail

theorem spl_ne (l : List UInt8) : spl l ≠ [] := by
  cases l with
  | nil => simp [spl]
  | cons c r => unfold spl; split <;> simp
theorem spl_parts (l : List UInt8) : spl l = (spl l).headD [] :: (spl l).tail := by
  have h := spl_ne l
  cases e : spl l with
  | nil => exact absurd e h
  | cons a b => rfl

theorem spl_append : ∀ (r t : List UInt8), spl (r ++ 47 :: t) = spl r ++ spl t
  | [], t => by simp [spl]
  | c :: r, t => by
    have ih := spl_append r t
    have hp := spl_parts r
    rw [List.cons_append]
    by_cases hc : c = 47
    · subst hc; simp [spl, ih]
    · simp only [spl, if_neg hc, ih]
      rw [hp]
      simp

theorem spl_plain : ∀ {l : List UInt8}, (∀ c ∈ l, c ≠ 47) → spl l = [l]
  | [], _ => rfl
  | c :: r, h => by
    have hc : c ≠ 47 := h c (List.mem_cons_self ..)
    simp [spl, hc, spl_plain (l := r) fun d hd => h d (List.mem_cons_of_mem _ hd)]

/-- What may not stand between two /. -/
def noP (l : List UInt8) : Bool := decide (l ≠ []) && decide (l ≠ [46]) && decide (l ≠ [46, 46]) && !isN l

/-- One part more. -/
def stp (st : List (List UInt8)) (p : List UInt8) : List (List UInt8) := if p = [46, 46] then st.dropLast else if isN p then st ++ [p] else st
def fol (ps : List (List UInt8)) : List (List UInt8) := ps.foldl stp []

/-- From the end: how many .. wait, and which names are left. -/
def bk : List (List UInt8) → Nat × List (List UInt8)
  | [] => (0, [])
  | p :: ps => if p = [46, 46] then ((bk ps).1 + 1, (bk ps).2) else if isN p then (if 0 < (bk ps).1 then ((bk ps).1 - 1, (bk ps).2) else ((bk ps).1, p :: (bk ps).2)) else bk ps

theorem take_snoc (st : List (List UInt8)) (p : List UInt8) (k : Nat) (h : k ≤ st.length) : (st ++ [p]).take k = st.take k := by
  rw [List.take_append_of_le_length h]

theorem bk_fold : ∀ (ps st : List (List UInt8)), ps.foldl stp st = st.take (st.length - (bk ps).1) ++ (bk ps).2
  | [], st => by simp [bk]
  | p :: ps, st => by
    rw [List.foldl_cons, bk_fold ps]
    by_cases h1 : p = [46, 46]
    · rw [stp, if_pos h1, bk, if_pos h1]
      simp only [List.length_dropLast]
      congr 1
      rw [List.dropLast_eq_take, List.take_take]
      congr 1; omega
    · by_cases h2 : isN p = true
      · rw [stp, if_neg h1, if_pos h2, bk, if_neg h1, if_pos h2]
        by_cases h3 : 0 < (bk ps).1
        · rw [if_pos h3]
          simp only [List.length_append, List.length_singleton]
          rw [take_snoc _ _ _ (by omega)]
          congr 2; omega
        · rw [if_neg h3]
          have h0 : (bk ps).1 = 0 := by omega
          simp only [h0, Nat.sub_zero, List.take_length, List.append_assoc, List.singleton_append]
      · rw [stp, if_neg h1, if_neg h2, bk, if_neg h1, if_neg h2]

theorem bk_fol (ps : List (List UInt8)) : (bk ps).2 = fol ps := by
  unfold fol; rw [bk_fold]; simp

/-- The same, as what came one by one from the end. -/
def bw (st : Nat × List (List UInt8)) (x : List UInt8) : Nat × List (List UInt8) :=
  if x = [46, 46] then (st.1 + 1, st.2) else if isN x then (if 0 < st.1 then (st.1 - 1, st.2) else (st.1, st.2 ++ [x])) else st
def bws (l : List (List UInt8)) : Nat × List (List UInt8) := l.foldl bw (0, [])
theorem bws_nil : bws [] = (0, []) := rfl
theorem bws_snoc (l : List (List UInt8)) (x : List UInt8) : bws (l ++ [x]) = bw (bws l) x := by simp [bws]
theorem bws_back : ∀ ps : List (List UInt8), bws ps.reverse = ((bk ps).1, (bk ps).2.reverse)
  | [] => rfl
  | p :: ps => by
    rw [List.reverse_cons, bws_snoc, bws_back ps, bw, bk]
    by_cases h1 : p = [46, 46]
    · rw [if_pos h1, if_pos h1]
    · rw [if_neg h1, if_neg h1]
      by_cases h2 : isN p = true
      · rw [if_pos h2, if_pos h2]
        by_cases h3 : 0 < (bk ps).1
        · rw [if_pos h3, if_pos h3]
        · rw [if_neg h3, if_neg h3]; simp
      · rw [if_neg h2, if_neg h2]
theorem bws_len : ∀ l : List (List UInt8), (bws l).1 ≤ l.length ∧ (bws l).2.length ≤ l.length := by
  suffices h : ∀ (l : List (List UInt8)) (st : Nat × List (List UInt8)), (l.foldl bw st).1 ≤ st.1 + l.length ∧ (l.foldl bw st).2.length ≤ st.2.length + l.length by
    intro l; have := h l (0, []); simpa [bws] using this
  intro l
  induction l with
  | nil => intro st; simp
  | cons x r ih =>
    intro st
    have := ih (bw st x)
    have hb : (bw st x).1 ≤ st.1 + 1 ∧ (bw st x).2.length ≤ st.2.length + 1 := by
      unfold bw
      split
      · simp
      · split
        · split
          · simp; omega
          · simp
        · simp
    rw [List.foldl_cons, List.length_cons]
    omega

/-- What is wrong with a path, and its names. -/
def pE (l : List UInt8) : Nat :=
  if 60 < l.length then 4 else if [47].isPrefixOf l = false then 2 else if (spl (l.drop 1)).any noP then 2 else if 8 < (fol (spl (l.drop 1))).length then 4 else 0
def pN (l : List UInt8) : List (List UInt8) := fol (spl (l.drop 1))
def shw (ns : List (List UInt8)) : List UInt8 := 47 :: join ns [47]
/-- Clean's answer. -/
def cln (l : List UInt8) : List UInt8 := if pE l = 0 then shw (pN l) else []
def nms (l : List UInt8) : List (List UInt8) := if pE l = 0 then pN l else []
def joi (a b : List UInt8) : List UInt8 := if [47].isPrefixOf b then b else a ++ [47] ++ b

theorem isN_len {l : List UInt8} (h : isN l = true) : 1 ≤ l.length ∧ l.length ≤ 4 := by simp [isN] at h; omega
theorem isN_plain {l : List UInt8} (h : isN l = true) : ∀ c ∈ l, c ≠ 47 := by
  intro c hc e
  simp only [isN, Bool.and_eq_true, List.all_eq_true] at h
  have := h.2 c hc
  rw [e] at this
  exact absurd this (by decide)
theorem isN_dots : isN [46, 46] = false := by decide
theorem isN_up {l : List UInt8} (h : isN l = true) : l ≠ [46, 46] := fun e => by rw [e, isN_dots] at h; cases h
theorem noP_name {l : List UInt8} (h : isN l = true) : noP l = false := by simp [noP, h]

theorem fold_names : ∀ (ps st : List (List UInt8)), (∀ x ∈ st, isN x = true) → ∀ x ∈ ps.foldl stp st, isN x = true
  | [], _, h => h
  | p :: ps, st, h => by
    rw [List.foldl_cons]
    refine fold_names ps _ ?_
    unfold stp
    split
    · exact fun x hx => h x (List.dropLast_subset st hx)
    · split
      · rename_i h2
        intro x hx
        rcases List.mem_append.1 hx with hx | hx
        · exact h x hx
        · rw [List.mem_singleton.1 hx]; exact h2
      · exact h
theorem fol_names (ps : List (List UInt8)) : ∀ x ∈ fol ps, isN x = true := fold_names ps [] (by simp)
theorem fold_self : ∀ (ns st : List (List UInt8)), (∀ x ∈ ns, isN x = true) → ns.foldl stp st = st ++ ns
  | [], st, _ => by simp
  | n :: ns, st, h => by
    have hn := h n (List.mem_cons_self ..)
    rw [List.foldl_cons, stp, if_neg (isN_up hn), if_pos hn, fold_self ns _ fun x hx => h x (List.mem_cons_of_mem _ hx)]
    simp
theorem fol_self {ns : List (List UInt8)} (h : ∀ x ∈ ns, isN x = true) : fol ns = ns := by unfold fol; rw [fold_self ns [] h]; rfl

theorem spl_join : ∀ (n : List UInt8) (ns : List (List UInt8)), isN n = true → (∀ x ∈ ns, isN x = true) → spl (join (n :: ns) [47]) = n :: ns
  | n, [], hn, _ => by rw [join_one]; exact spl_plain (isN_plain hn)
  | n, m :: ns, hn, h => by
    have ih := spl_join m ns (h m (List.mem_cons_self ..)) fun x hx => h x (List.mem_cons_of_mem _ hx)
    have e : join (n :: m :: ns) [47] = n ++ 47 :: join (m :: ns) [47] := by
      rw [join_cons, join_cons]; simp [joinTail]
    rw [e, spl_append, ih, spl_plain (isN_plain hn)]
    rfl

/-- How long. -/
def wid (ps : List (List UInt8)) : Nat := (ps.map fun p => p.length + 1).sum
theorem wid_nil : wid [] = 0 := rfl
theorem wid_cons (p : List UInt8) (ps : List (List UInt8)) : wid (p :: ps) = p.length + 1 + wid ps := by simp [wid]
theorem wid_append (a b : List (List UInt8)) : wid (a ++ b) = wid a + wid b := by simp [wid]
theorem wid_spl : ∀ l : List UInt8, wid (spl l) = l.length + 1
  | [] => by simp [spl, wid]
  | c :: r => by
    have ih := wid_spl r
    have hp := spl_parts r
    unfold spl
    split
    · rw [wid_cons, ih]; simp; omega
    · rw [hp, wid_cons] at ih
      rw [wid_cons, List.length_cons, List.length_cons]; omega
theorem wid_dropLast (st : List (List UInt8)) : wid st.dropLast ≤ wid st := by
  by_cases h : st = []
  · subst h; simp
  · have e := List.dropLast_concat_getLast h
    have : wid st = wid (st.dropLast ++ [st.getLast h]) := by rw [e]
    rw [this, wid_append]; omega
theorem wid_stp (st : List (List UInt8)) (p : List UInt8) : wid (stp st p) ≤ wid st + (p.length + 1) := by
  unfold stp
  split
  · have := wid_dropLast st; omega
  · split
    · rw [wid_append, wid_cons, wid_nil]; omega
    · omega
theorem wid_fold : ∀ (ps st : List (List UInt8)), wid (ps.foldl stp st) ≤ wid st + wid ps
  | [], st => by simp [wid_nil]
  | p :: ps, st => by
    have h1 := wid_fold ps (stp st p)
    have h2 := wid_stp st p
    rw [List.foldl_cons, wid_cons]; omega
theorem wid_join : ∀ (n : List UInt8) (ns : List (List UInt8)), (join (n :: ns) [47]).length + 1 = wid (n :: ns)
  | n, [] => by rw [join_one]; simp [wid]
  | n, m :: ns => by
    have ih := wid_join m ns
    have e : join (n :: m :: ns) [47] = n ++ 47 :: join (m :: ns) [47] := by
      rw [join_cons, join_cons]; simp [joinTail]
    rw [e, wid_cons, ← ih]; simp; omega
theorem shw_len (ns : List (List UInt8)) : (shw ns).length = if ns = [] then 1 else wid ns := by
  cases ns with
  | nil => simp [shw, join_nil]
  | cons n ns => rw [if_neg (by simp), ← wid_join]; simp [shw]

theorem pre_iff (l : List UInt8) : [47].isPrefixOf l = true ↔ ∃ r, l = 47 :: r := by
  cases l with
  | nil => simp
  | cons c r =>
    constructor
    · intro h
      have e : 47 = c := by simpa [List.isPrefixOf] using h
      exact ⟨r, by rw [e]⟩
    · rintro ⟨r', e⟩
      rw [e]; simp [List.isPrefixOf]

theorem pE_ok {l : List UInt8} (h : pE l = 0) : l.length ≤ 60 ∧ (∃ r, l = 47 :: r) ∧ (spl (l.drop 1)).any noP = false ∧ (pN l).length ≤ 8 := by
  unfold pE at h
  split at h
  · cases h
  · split at h
    · cases h
    · split at h
      · cases h
      · split at h
        · cases h
        · rename_i h1 h2 h3 h4
          exact ⟨by omega, (pre_iff l).1 (by simpa using h2), by simpa using h3, by unfold pN; omega⟩
theorem pE_of {r : List UInt8} (h1 : r.length + 1 ≤ 60) (h2 : (spl r).any noP = false) (h3 : (fol (spl r)).length ≤ 8) : pE (47 :: r) = 0 := by
  unfold pE
  rw [if_neg (by simp; omega), if_neg (by simp), List.drop_one, List.tail_cons, if_neg (by rw [h2]; simp), if_neg (by omega)]

/-- What is clean stays so. -/
theorem clean_again {l : List UInt8} (h : pE l = 0) : pE (shw (pN l)) = 0 ∧ pN (shw (pN l)) = pN l ∧ (shw (pN l)).length ≤ l.length := by
  obtain ⟨h1, ⟨r, rfl⟩, h2, h3⟩ := pE_ok h
  have hn : ∀ x ∈ pN (47 :: r), isN x = true := fol_names _
  have hw : wid (pN (47 :: r)) ≤ r.length + 1 := by
    have := wid_fold (spl r) []
    rw [wid_spl, wid_nil] at this
    unfold pN fol
    simpa using this
  have hl : (shw (pN (47 :: r))).length ≤ (47 :: r).length := by
    rw [shw_len]; split
    · simp
    · simpa using hw
  have hs : spl (join (pN (47 :: r)) [47]) = if pN (47 :: r) = [] then [[]] else pN (47 :: r) := by
    split
    · rename_i h0; rw [h0]; simp [join_nil, spl]
    · rename_i h0
      cases e : pN (47 :: r) with
      | nil => exact absurd e h0
      | cons n ns =>
        rw [e] at hn
        exact spl_join n ns (hn n (List.mem_cons_self ..)) fun x hx => hn x (List.mem_cons_of_mem _ hx)
  have hf : fol (spl (join (pN (47 :: r)) [47])) = pN (47 :: r) := by
    rw [hs]; split
    · rename_i h0; rw [h0]; decide
    · exact fol_self hn
  have hp : pN (shw (pN (47 :: r))) = pN (47 :: r) := by
    show fol (spl ((47 :: join (pN (47 :: r)) [47]).drop 1)) = _
    simpa using hf
  refine ⟨?_, hp, hl⟩
  refine pE_of ?_ ?_ (by rw [hf]; exact h3)
  · have := hl; simp [shw] at this h1 ⊢; omega
  · rw [hs]; split
    · decide
    · rw [List.any_eq_false]
      intro x hx
      rw [noP_name (hn x hx)]; simp

theorem spl_one_more (r t : List UInt8) : (spl ((47 :: r ++ 47 :: t).drop 1)) = spl r ++ spl t := by
  simpa using spl_append r t

/-- The step up leaves the last name. -/
theorem up_one {l : List UInt8} (h : pE l = 0) (hl : l.length ≤ 57) : pE (l ++ [47, 46, 46]) = 0 ∧ pN (l ++ [47, 46, 46]) = (pN l).dropLast := by
  obtain ⟨_, ⟨r, rfl⟩, h2, h3⟩ := pE_ok h
  have hs : spl (r ++ [47, 46, 46]) = spl r ++ [[46, 46]] := by
    rw [show r ++ [47, 46, 46] = r ++ 47 :: [46, 46] from rfl, spl_append, spl_plain (l := [46, 46]) (by decide)]
  have hf : fol (spl (r ++ [47, 46, 46])) = (fol (spl r)).dropLast := by
    rw [hs]; unfold fol; rw [List.foldl_append]; rfl
  refine ⟨?_, by simpa [pN] using hf⟩
  rw [List.cons_append]
  refine pE_of (by simp at hl ⊢; omega) ?_ ?_
  · rw [hs, List.any_append, show (spl r).any noP = false by simpa using h2]; decide
  · rw [hf, List.length_dropLast]; have : (fol (spl r)).length ≤ 8 := by simpa [pN] using h3
    omega

/-- A step there and back is none. -/
theorem there_back {l n : List UInt8} (h : pE l = 0) (hn : isN n = true) (hl : l.length ≤ 50) : pE (l ++ [47] ++ (n ++ [47, 46, 46])) = 0 ∧ pN (l ++ [47] ++ (n ++ [47, 46, 46])) = pN l := by
  obtain ⟨_, ⟨r, rfl⟩, h2, h3⟩ := pE_ok h
  have hs : spl (r ++ [47] ++ (n ++ [47, 46, 46])) = spl r ++ [n, [46, 46]] := by
    rw [show r ++ [47] ++ (n ++ [47, 46, 46]) = r ++ 47 :: (n ++ 47 :: [46, 46]) by simp, spl_append, spl_append, spl_plain (isN_plain hn), spl_plain (l := [46, 46]) (by decide)]
    rfl
  have hf : fol (spl (r ++ [47] ++ (n ++ [47, 46, 46]))) = fol (spl r) := by
    rw [hs]; unfold fol; rw [List.foldl_append]
    simp only [List.foldl_cons, List.foldl_nil]
    rw [stp, if_pos rfl, stp, if_neg (isN_up hn), if_pos hn, List.dropLast_concat]
  have hnl := isN_len hn
  refine ⟨?_, by simpa [pN] using hf⟩
  rw [List.cons_append, List.cons_append]
  refine pE_of (by simp at hl ⊢; omega) ?_ (by rw [hf]; simpa [pN] using h3)
  rw [hs, List.any_append, show (spl r).any noP = false by simpa using h2]
  simp [noP_name hn]; decide

theorem joi_root (a b : List UInt8) : joi a (47 :: b) = 47 :: b := by simp [joi]
theorem joi_name {n : List UInt8} (hn : isN n = true) (a t : List UInt8) : joi a (n ++ t) = a ++ [47] ++ (n ++ t) := by
  have hl := isN_len hn
  cases n with
  | nil => simp at hl
  | cons c r =>
    have hc := isN_plain hn c (List.mem_cons_self ..)
    simp [joi, Ne.symm hc]

/-- As the library cuts. -/
theorem split_spl : ∀ l : List UInt8, splitK [47] 0 (count l [47]) l = spl l
  | [] => by rfl
  | c :: r => by
    have ih := split_spl r
    by_cases hc : c = 47
    · subst hc
      have hi : index (47 :: r) [47] = 0 := by simp [index]
      rw [count_cons_eq, Nat.add_comm, splitK, hi]
      simp [spl, ih]
    · rw [count_cons_ne _ _ _ hc]
      have hi : index (c :: r) [47] = if index r [47] == -1 then -1 else index r [47] + 1 := by
        rw [index]; simp [Ne.symm hc]
      simp only [spl, if_neg hc, ← ih]
      cases hk : count r [47] with
      | zero => simp [splitK]
      | succ k =>
        rw [splitK, splitK, hi]
        by_cases hm : (index r [47] == -1) = true
        · simp [hm]
        · have h0 : 0 ≤ index r [47] := by
            have := index_ge r [47]
            have : index r [47] ≠ -1 := fun e => hm (by rw [e]; rfl)
            omega
          have hm2 : ¬ (index r [47] + 1 == -1) = true := fun e => by have := beq_iff_eq.1 e; omega
          have e1 : (index r [47] + 1).toNat = (index r [47]).toNat + 1 := by omega
          simp [hm, hm2, e1]

end Go.Proofs.YtdlmkienogimgaaGreatDoor
