/- This text says in plain words of numbers and lists what a log of records is: which turns have ended in it, what it leaves in the blocks, what a crash leaves of it, and what each step tells; and proves plain facts on it; it speaks of no call; no condition. -/
import Derived.Test.YthgbknfdbobmiaaWc
namespace Go.Proofs.Ythgbknfdbobmiaa.Zw

/-- A record of the log: its turn, its block, its value, and whether it is an end. -/
structure Rc where
  t : Nat
  b : Nat
  v : Nat
  e : Bool

/-- Has a turn ended in some records? -/
def endd (L : List Rc) (t : Nat) : Bool := L.any fun r => r.e && r.t == t

/-- What a record leaves, where all of a turn is taken. -/
def stp (t : Nat) (H : Nat → Nat) (r : Rc) : Nat → Nat := if r.e = false ∧ r.t = t then putV H r.b r.v else H

def redo (L : List Rc) (t : Nat) (H : Nat → Nat) : Nat → Nat := L.foldl (stp t) H

def vst (L : List Rc) (H : Nat → Nat) (r : Rc) : Nat → Nat := if r.e = true then redo L r.t H else H

def valO (A L : List Rc) (H : Nat → Nat) : Nat → Nat := A.foldl (vst L) H

def vals (L : List Rc) (H : Nat → Nat) : Nat → Nat := valO L L H

/-- The records of turns that have ended. -/
def lft (L : List Rc) : List Rc := L.filter fun r => endd L r.t

theorem endd_iff {L : List Rc} {t : Nat} : endd L t = true ↔ ∃ r ∈ L, r.e = true ∧ r.t = t := by
  unfold endd
  rw [List.any_eq_true]
  constructor
  · rintro ⟨r, h1, h2⟩
    rw [Bool.and_eq_true, beq_iff_eq] at h2
    exact ⟨r, h1, h2⟩
  · rintro ⟨r, h1, h2⟩
    exact ⟨r, h1, by rw [Bool.and_eq_true, beq_iff_eq]; exact h2⟩

theorem endd_append (A B : List Rc) (t : Nat) : endd (A ++ B) t = (endd A t || endd B t) := List.any_append

theorem endd_one (r : Rc) (t : Nat) : endd [r] t = (r.e && r.t == t) := by simp [endd]

theorem endd_nil (t : Nat) : endd [] t = false := rfl

theorem redo_append (A B : List Rc) (t : Nat) (H : Nat → Nat) : redo (A ++ B) t H = redo B t (redo A t H) := List.foldl_append

theorem redo_one (r : Rc) (t : Nat) (H : Nat → Nat) : redo [r] t H = stp t H r := rfl

theorem redo_skip : ∀ (B : List Rc) (t : Nat) (H : Nat → Nat), (∀ r ∈ B, ¬ (r.e = false ∧ r.t = t)) → redo B t H = H
  | [], _, _, _ => rfl
  | r :: B, t, H, h => by
    show redo B t (stp t H r) = H
    rw [show stp t H r = H from if_neg (h r (by simp))]
    exact redo_skip B t H fun x hx => h x (by simp [hx])

theorem redo_filter (p : Rc → Bool) (t : Nat) : ∀ (M : List Rc) (H : Nat → Nat), (∀ r ∈ M, r.t = t → p r = true) → redo (M.filter p) t H = redo M t H
  | [], _, _ => rfl
  | r :: M, H, h => by
    have hr := redo_filter p t M (stp t H r) fun x hx => h x (by simp [hx])
    by_cases hp : p r = true
    · rw [List.filter_cons_of_pos hp]
      exact hr
    · rw [List.filter_cons_of_neg hp]
      have e : stp t H r = H := if_neg fun k => hp (h r (by simp) k.2)
      rw [e] at hr
      show _ = redo M t (stp t H r)
      rw [e]
      exact hr

theorem valO_append (A B L : List Rc) (H : Nat → Nat) : valO (A ++ B) L H = valO B L (valO A L H) := List.foldl_append

theorem valO_congr {L L' : List Rc} : ∀ (A : List Rc) (H : Nat → Nat), (∀ r ∈ A, r.e = true → ∀ h, redo L r.t h = redo L' r.t h) → valO A L H = valO A L' H
  | [], _, _ => rfl
  | r :: A, H, h => by
    show valO A L (vst L H r) = valO A L' (vst L' H r)
    have e : vst L H r = vst L' H r := by
      unfold vst
      by_cases he : r.e = true
      · rw [if_pos he, if_pos he, h r (by simp) he]
      · rw [if_neg he, if_neg he]
    rw [e]
    exact valO_congr A _ fun x hx => h x (by simp [hx])

theorem valO_filter (p : Rc → Bool) (L : List Rc) : ∀ (M : List Rc) (H : Nat → Nat), (∀ r ∈ M, r.e = true → p r = true) → valO (M.filter p) L H = valO M L H
  | [], _, _ => rfl
  | r :: M, H, h => by
    have hr := valO_filter p L M (vst L H r) fun x hx => h x (by simp [hx])
    by_cases hp : p r = true
    · rw [List.filter_cons_of_pos hp]
      exact hr
    · rw [List.filter_cons_of_neg hp]
      have e : vst L H r = H := if_neg fun k => hp (h r (by simp) k)
      rw [e] at hr
      show _ = valO M L (vst L H r)
      rw [e]
      exact hr

/-- A record of a turn that has not ended is not seen. -/
theorem vals_write {L : List Rc} {r : Rc} (he : r.e = false) (hn : endd L r.t = false) (H : Nat → Nat) : vals (L ++ [r]) H = vals L H := by
  unfold vals
  rw [valO_append]
  show vst (L ++ [r]) _ r = _
  rw [show ∀ X, vst (L ++ [r]) X r = X from fun X => if_neg (by rw [he]; decide)]
  refine valO_congr L H fun x hx hxe h => ?_
  rw [redo_append, redo_one]
  refine if_neg fun k => ?_
  rw [endd_iff.2 ⟨x, hx, hxe, k.2.symm⟩] at hn
  cases hn

theorem endd_lft (L : List Rc) (t : Nat) : endd (lft L) t = endd L t := by
  cases h : endd L t with
  | true =>
    obtain ⟨r, h1, h2, h3⟩ := endd_iff.1 h
    exact endd_iff.2 ⟨r, List.mem_filter.2 ⟨h1, by rw [h3]; exact h⟩, h2, h3⟩
  | false =>
    cases k : endd (lft L) t with
    | false => rfl
    | true =>
      obtain ⟨r, h1, h2, h3⟩ := endd_iff.1 k
      rw [endd_iff.2 ⟨r, (List.mem_filter.1 h1).1, h2, h3⟩] at h
      cases h

/-- What a crash leaves is seen as all was. -/
theorem vals_lft (L : List Rc) (H : Nat → Nat) : vals (lft L) H = vals L H := by
  unfold vals
  have h1 : valO (lft L) (lft L) H = valO (lft L) L H := valO_congr _ H fun r hr _ h => redo_filter _ r.t L h fun x _ hx => by
    rw [hx]
    exact (List.mem_filter.1 hr).2
  rw [h1]
  exact valO_filter _ L L H fun r hr he => endd_iff.2 ⟨r, hr, he, rfl⟩

theorem lft_open {L : List Rc} {r : Rc} (h : r ∈ lft L) : endd (lft L) r.t = true := by rw [endd_lft]; exact (List.mem_filter.1 h).2

theorem lft_all {L : List Rc} (h : ∀ r ∈ L, endd L r.t = true) : lft L = L := List.filter_eq_self.2 h

theorem lft_lft (L : List Rc) : lft (lft L) = lft L := lft_all fun _ h => lft_open h

theorem lft_le (L : List Rc) : (lft L).length ≤ L.length := List.length_filter_le _ _

/-- What a turn wrote last is there when it has ended. -/
theorem vals_end {L : List Rc} {t b v : Nat} (H : Nat → Nat) : vals (L ++ [⟨t, b, v, false⟩] ++ [⟨t, 0, 0, true⟩]) H b = v := by
  unfold vals
  rw [valO_append]
  generalize valO (L ++ [⟨t, b, v, false⟩]) _ H = X
  show vst (L ++ [⟨t, b, v, false⟩] ++ [⟨t, 0, 0, true⟩]) X ⟨t, 0, 0, true⟩ b = v
  unfold vst
  rw [if_pos rfl]
  show redo _ t X b = v
  rw [redo_append, redo_append, redo_one, redo_one]
  unfold stp
  rw [if_neg (by simp), if_pos ⟨rfl, rfl⟩]
  exact if_pos rfl

/-- A disk: what is in the blocks, its log, how many records last. -/
structure Dk where
  H : Nat → Nat
  L : List Rc
  s : Nat

def dk0 : Dk := ⟨nV, [], 0⟩

/-- What is true of each disk. -/
structure Fine (d : Dk) : Prop where
  one : ∀ r ∈ d.L, r.t < 20 ∧ r.b < 8 ∧ r.v ≤ 1000
  two : d.L.Pairwise fun a b => a.e = true → b.t ≠ a.t
  len : d.L.length ≤ 60

theorem fine0 : Fine dk0 := ⟨fun _ h => absurd h (by simp [dk0]), List.Pairwise.nil, by simp [dk0]⟩

def mayE (L : List Rc) (t : Int) : Nat := if 0 ≤ t ∧ t < 20 then (if endd L t.toNat = true then 7 else 0) else 1

def okB (b v : Int) : Bool := decide (0 ≤ b ∧ b < 8 ∧ 0 ≤ v ∧ v ≤ 1000)

theorem okB_iff {b v : Int} : okB b v = true ↔ 0 ≤ b ∧ b < 8 ∧ 0 ≤ v ∧ v ≤ 1000 := by unfold okB; simp

def wrE (L : List Rc) (t b v : Int) : Nat := if mayE L t = 0 then (if okB b v = true then (if L.length = 60 then 4 else 0) else 1) else mayE L t

def enE (L : List Rc) (t : Int) : Nat := if mayE L t = 0 then (if L.length = 60 then 4 else 0) else mayE L t

def wrL (L : List Rc) (t b v : Int) : List Rc := if wrE L t b v = 0 then L ++ [⟨t.toNat, b.toNat, v.toNat, false⟩] else L

def enL (L : List Rc) (t : Int) : List Rc := if enE L t = 0 then L ++ [⟨t.toNat, 0, 0, true⟩] else L

def wrD (d : Dk) (t b v : Int) : Dk := ⟨d.H, wrL d.L t b v, d.s⟩

def enD (d : Dk) (t : Int) : Dk := ⟨d.H, enL d.L t, d.s⟩

def syD (d : Dk) : Dk := ⟨d.H, d.L, d.L.length⟩

def crE (d : Dk) (n : Int) : Nat := if (d.s : Int) ≤ n ∧ n ≤ (d.L.length : Int) then 0 else 1

def crD (d : Dk) (n : Int) : Dk := if crE d n = 0 then ⟨d.H, lft (d.L.take n.toNat), (lft (d.L.take n.toNat)).length⟩ else d

def opn (L : List Rc) : Bool := L.any fun r => !endd L r.t

def hoE (L : List Rc) : Nat := if opn L = true then 7 else 0

def hoD (d : Dk) : Dk := if hoE d.L = 0 then ⟨vals d.L d.H, [], 0⟩ else d

theorem mayE_zero {L : List Rc} {t : Int} (h : mayE L t = 0) : ∃ T : Nat, t = (T : Int) ∧ T < 20 ∧ endd L T = false := by
  unfold mayE at h
  by_cases h1 : 0 ≤ t ∧ t < 20
  · rw [if_pos h1] at h
    refine ⟨t.toNat, by omega, by omega, ?_⟩
    cases e : endd L t.toNat with
    | false => rfl
    | true => rw [e] at h; cases h
  · rw [if_neg h1] at h
    cases h

theorem wrE_zero {L : List Rc} {t b v : Int} (h : wrE L t b v = 0) : mayE L t = 0 ∧ okB b v = true ∧ L.length ≠ 60 := by
  unfold wrE at h
  by_cases h1 : mayE L t = 0
  · rw [if_pos h1] at h
    by_cases h2 : okB b v = true
    · rw [if_pos h2] at h
      refine ⟨h1, h2, fun e => ?_⟩
      rw [if_pos e] at h
      cases h
    · rw [if_neg h2] at h
      cases h
  · rw [if_neg h1] at h
    exact absurd h h1

theorem enE_zero {L : List Rc} {t : Int} (h : enE L t = 0) : mayE L t = 0 ∧ L.length ≠ 60 := by
  unfold enE at h
  by_cases h1 : mayE L t = 0
  · rw [if_pos h1] at h
    refine ⟨h1, fun e => ?_⟩
    rw [if_pos e] at h
    cases h
  · rw [if_neg h1] at h
    exact absurd h h1

theorem fine_snoc {d : Dk} (h : Fine d) {r : Rc} (hr : r.t < 20 ∧ r.b < 8 ∧ r.v ≤ 1000) (hn : endd d.L r.t = false) (hl : d.L.length ≠ 60) : Fine ⟨d.H, d.L ++ [r], d.s⟩ := by
  refine ⟨fun x hx => ?_, ?_, ?_⟩
  · rcases List.mem_append.1 hx with hx | hx
    · exact h.one x hx
    · obtain rfl : x = r := by simpa using hx
      exact hr
  · refine List.pairwise_append.2 ⟨h.two, by simp, fun a ha b hb he => ?_⟩
    obtain rfl : b = r := by simpa using hb
    intro e
    rw [endd_iff.2 ⟨a, ha, he, e.symm⟩] at hn
    cases hn
  · have := h.len
    show (d.L ++ [r]).length ≤ 60
    rw [List.length_append]
    simp only [List.length_cons, List.length_nil]
    omega

theorem fine_wr {d : Dk} (h : Fine d) (t b v : Int) : Fine (wrD d t b v) := by
  unfold wrD wrL
  by_cases e : wrE d.L t b v = 0
  · rw [if_pos e]
    obtain ⟨h1, h2, h3⟩ := wrE_zero e
    obtain ⟨T, rfl, hT, hn⟩ := mayE_zero h1
    have h2 := okB_iff.1 h2
    exact fine_snoc h ⟨by rw [Int.toNat_natCast]; exact hT, by show b.toNat < 8; omega, by show v.toNat ≤ 1000; omega⟩ (by rw [Int.toNat_natCast]; exact hn) h3
  · rw [if_neg e]
    exact h

theorem fine_en {d : Dk} (h : Fine d) (t : Int) : Fine (enD d t) := by
  unfold enD enL
  by_cases e : enE d.L t = 0
  · rw [if_pos e]
    obtain ⟨h1, h3⟩ := enE_zero e
    obtain ⟨T, rfl, hT, hn⟩ := mayE_zero h1
    exact fine_snoc h ⟨by rw [Int.toNat_natCast]; exact hT, by show 0 < 8; omega, by show 0 ≤ 1000; omega⟩ (by rw [Int.toNat_natCast]; exact hn) h3
  · rw [if_neg e]
    exact h

theorem fine_sy {d : Dk} (h : Fine d) : Fine (syD d) := ⟨h.one, h.two, h.len⟩

theorem fine_cr {d : Dk} (h : Fine d) (n : Int) : Fine (crD d n) := by
  unfold crD
  by_cases e : crE d n = 0
  · rw [if_pos e]
    have hs : (lft (d.L.take n.toNat)).Sublist d.L := List.filter_sublist.trans (List.take_sublist _ _)
    exact ⟨fun r hr => h.one r (hs.subset hr), h.two.sublist hs, Nat.le_trans hs.length_le h.len⟩
  · rw [if_neg e]
    exact h

theorem fine_ho {d : Dk} (h : Fine d) : Fine (hoD d) := by
  unfold hoD
  by_cases e : hoE d.L = 0
  · rw [if_pos e]
    exact ⟨fun _ h => absurd h (by simp), List.Pairwise.nil, by simp⟩
  · rw [if_neg e]
    exact h

theorem opn_lft (L : List Rc) : opn (lft L) = false := by
  unfold opn
  rw [List.any_eq_false]
  intro r hr
  rw [lft_open hr]
  decide

end Go.Proofs.Ythgbknfdbobmiaa.Zw
