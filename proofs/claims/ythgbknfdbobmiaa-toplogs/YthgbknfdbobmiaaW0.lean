/- This text says in plain words of numbers and lists what notes of turns are, whose a block is, what undoing puts back, and what each step tells and leaves; and proves plain facts on it; it speaks of no call; no condition. -/
import Derived.Test.YthgbknfdbobmiaaWc
namespace Go.Proofs.Ythgbknfdbobmiaa

theorem putV_at (H : Nat → Nat) (b v i : Nat) : putV H b v i = if i = b then v else H i := rfl
theorem putV_same (H : Nat → Nat) (b v u : Nat) : putV (putV H b v) b u = putV H b u := by
  funext i; unfold putV; split <;> rfl
theorem putV_old (H : Nat → Nat) (b : Nat) : putV H b (H b) = H := by
  funext i; unfold putV; split
  · rename_i h; rw [h]
  · rfl

/-- A note: its turn, its block, and what was there. -/
structure Nt where
  t : Nat
  b : Nat
  w : Nat

/-- Whose a block is: of the first note of it; -1: nobody's. -/
def own : List Nt → Nat → Int
  | [], _ => -1
  | x :: L, b => if x.b = b then (x.t : Int) else own L b
/-- What is put back by a note. -/
def bk (p : Nt → Bool) (H : Nat → Nat) (x : Nt) : Nat → Nat := if p x = true then putV H x.b x.w else H
/-- What is put back by all of some notes, the last one first. -/
def udo (p : Nt → Bool) (L : List Nt) (H : Nat → Nat) : Nat → Nat := L.foldr (fun x H => bk p H x) H
/-- What the first note of a block says, among some. -/
def wat (p : Nt → Bool) : List Nt → Nat → Nat → Nat
  | [], _, y => y
  | x :: L, b, y => if p x = true ∧ x.b = b then x.w else wat p L b y
theorem udo_at (p : Nt → Bool) (H : Nat → Nat) (b : Nat) : ∀ L : List Nt, udo p L H b = wat p L b (H b)
  | [] => rfl
  | x :: L => by
    show bk p (udo p L H) x b = _
    unfold bk wat
    by_cases hp : p x = true
    · rw [if_pos hp, putV_at]
      by_cases hb : x.b = b
      · rw [if_pos hb.symm, if_pos ⟨hp, hb⟩]
      · rw [if_neg (fun e => hb e.symm), if_neg (fun h => hb h.2)]
        exact udo_at p H b L
    · rw [if_neg hp, if_neg (fun h => hp h.1)]
      exact udo_at p H b L
theorem udo_snoc (p : Nt → Bool) (L : List Nt) (x : Nt) (H : Nat → Nat) : udo p (L ++ [x]) H = udo p L (bk p H x) := by
  unfold udo; rw [List.foldr_append]; rfl
theorem udo_rev (p : Nt → Bool) (L : List Nt) (H : Nat → Nat) : L.reverse.foldl (bk p) H = udo p L H := by
  rw [List.foldl_reverse]; rfl
theorem wat_none {p : Nt → Bool} {b y : Nat} : ∀ {L : List Nt}, (∀ x ∈ L, p x = true → x.b ≠ b) → wat p L b y = y
  | [], _ => rfl
  | x :: L, h => by
    show (if p x = true ∧ x.b = b then x.w else wat p L b y) = y
    rw [if_neg (fun k => h x (by simp) k.1 k.2)]
    exact wat_none fun z hz => h z (by simp [hz])
theorem wat_same {p q : Nt → Bool} {b y : Nat} : ∀ {L : List Nt}, (∀ x ∈ L, x.b = b → p x = q x) → wat p L b y = wat q L b y
  | [], _ => rfl
  | x :: L, h => by
    show (if p x = true ∧ x.b = b then x.w else wat p L b y) = if q x = true ∧ x.b = b then x.w else wat q L b y
    rw [wat_same (L := L) fun z hz => h z (by simp [hz])]
    by_cases hb : x.b = b
    · rw [h x (by simp) hb]
    · rw [if_neg (fun k => hb k.2), if_neg (fun k => hb k.2)]
theorem wat_filter {p q : Nt → Bool} {b y : Nat} : ∀ {L : List Nt}, (∀ x ∈ L, x.b = b → q x = true) → wat p (L.filter q) b y = wat p L b y
  | [], _ => rfl
  | x :: L, h => by
    have ih := wat_filter (p := p) (y := y) (L := L) fun z hz => h z (by simp [hz])
    show _ = if p x = true ∧ x.b = b then x.w else wat p L b y
    by_cases hq : q x = true
    · rw [List.filter_cons_of_pos hq]
      show (if p x = true ∧ x.b = b then x.w else wat p (L.filter q) b y) = _
      rw [ih]
    · rw [List.filter_cons_of_neg hq, if_neg (fun k => hq (h x (by simp) k.2))]
      exact ih
theorem wat_any {p : Nt → Bool} {b y z : Nat} : ∀ {L : List Nt}, (∃ x ∈ L, p x = true ∧ x.b = b) → wat p L b y = wat p L b z
  | [], h => by obtain ⟨x, hx, _⟩ := h; simp at hx
  | x :: L, h => by
    show (if p x = true ∧ x.b = b then x.w else wat p L b y) = if p x = true ∧ x.b = b then x.w else wat p L b z
    by_cases k : p x = true ∧ x.b = b
    · rw [if_pos k, if_pos k]
    · rw [if_neg k, if_neg k]
      obtain ⟨u, hu, hp⟩ := h
      rcases List.mem_cons.1 hu with rfl | hu
      · exact absurd hp k
      · exact wat_any ⟨u, hu, hp⟩
theorem foldr_same {α β : Type} {f g : α → β → β} : ∀ {L : List α} {z : β}, (∀ x ∈ L, ∀ y, f x y = g x y) → L.foldr f z = L.foldr g z
  | [], _, _ => rfl
  | x :: L, z, h => by
    show f x (L.foldr f z) = g x (L.foldr g z)
    rw [h x (by simp), foldr_same fun u hu y => h u (by simp [hu]) y]
theorem udo_filter {p q : Nt → Bool} {L : List Nt} (H : Nat → Nat) (h : ∀ x ∈ L, p x = true → q x = true) : udo p (L.filter q) H = udo p L H := by
  unfold udo
  rw [List.foldr_filter]
  apply foldr_same
  intro x hx G
  by_cases hq : q x = true
  · rw [if_pos hq]
  · rw [if_neg hq]
    unfold bk
    rw [if_neg fun k => hq (h x hx k)]
theorem udo_none {p : Nt → Bool} {L : List Nt} (H : Nat → Nat) (h : ∀ x ∈ L, p x = false) : udo p L H = H := by
  funext i
  rw [udo_at]
  exact wat_none fun x hx hp => by rw [h x hx] at hp; cases hp

theorem own_none {b : Nat} : ∀ {L : List Nt}, own L b = -1 ↔ ∀ x ∈ L, x.b ≠ b
  | [] => by simp [own]
  | x :: L => by
    show (if x.b = b then (x.t : Int) else own L b) = -1 ↔ _
    by_cases hb : x.b = b
    · rw [if_pos hb]
      constructor
      · intro h; omega
      · intro h; exact absurd hb (h x (by simp))
    · rw [if_neg hb, own_none]
      constructor
      · intro h z hz
        rcases List.mem_cons.1 hz with rfl | hz
        · exact hb
        · exact h z hz
      · intro h z hz; exact h z (by simp [hz])
theorem own_mem {b : Nat} : ∀ {L : List Nt}, own L b ≠ -1 → ∃ x ∈ L, x.b = b ∧ own L b = (x.t : Int)
  | [], h => absurd rfl h
  | x :: L, h => by
    by_cases hb : x.b = b
    · exact ⟨x, by simp, hb, by show (if x.b = b then (x.t : Int) else own L b) = _; rw [if_pos hb]⟩
    · have e : own (x :: L) b = own L b := by show (if x.b = b then (x.t : Int) else own L b) = _; rw [if_neg hb]
      rw [e] at h
      obtain ⟨z, hz, h1, h2⟩ := own_mem h
      exact ⟨z, by simp [hz], h1, by rw [e]; exact h2⟩
theorem own_low {L : List Nt} {b : Nat} : own L b = -1 ∨ 0 ≤ own L b := by
  by_cases h : own L b = -1
  · exact .inl h
  · obtain ⟨x, _, _, e⟩ := own_mem h
    exact .inr (by omega)
theorem own_snoc (x : Nt) (b : Nat) : ∀ L : List Nt, own (L ++ [x]) b = if own L b = -1 then (if x.b = b then (x.t : Int) else -1) else own L b
  | [] => rfl
  | y :: L => by
    show (if y.b = b then (y.t : Int) else own (L ++ [x]) b) = if (if y.b = b then (y.t : Int) else own L b) = -1 then _ else (if y.b = b then (y.t : Int) else own L b)
    by_cases hb : y.b = b
    · rw [if_pos hb, if_pos hb, if_neg (by omega)]
    · rw [if_neg hb, if_neg hb]
      exact own_snoc x b L

/-- All notes of a block are of one turn. -/
def Sole (L : List Nt) : Prop := ∀ x ∈ L, ∀ y ∈ L, x.b = y.b → x.t = y.t
theorem Sole.own {L : List Nt} (h : Sole L) {x : Nt} (hx : x ∈ L) : own L x.b = (x.t : Int) := by
  have hn : Go.Proofs.Ythgbknfdbobmiaa.own L x.b ≠ -1 := fun e => own_none.1 e x hx rfl
  obtain ⟨y, hy, h1, h2⟩ := own_mem hn
  rw [h2, h y hy x hx h1]
theorem Sole.sub {L : List Nt} (h : Sole L) (q : Nt → Bool) : Sole (L.filter q) := fun x hx y hy e => h x (List.mem_filter.1 hx).1 y (List.mem_filter.1 hy).1 e
theorem Sole.snoc {L : List Nt} (h : Sole L) {x : Nt} (hx : Go.Proofs.Ythgbknfdbobmiaa.own L x.b = -1 ∨ Go.Proofs.Ythgbknfdbobmiaa.own L x.b = (x.t : Int)) : Sole (L ++ [x]) := by
  have hq : ∀ y ∈ L, y.b = x.b → y.t = x.t := fun y hy e => by
    rcases hx with k | k
    · exact absurd e (own_none.1 k y hy)
    · have := h.own hy
      rw [e, k] at this
      omega
  intro y hy z hz e
  rcases List.mem_append.1 hy with k | k <;> rcases List.mem_append.1 hz with m | m
  · exact h y k z m e
  · rw [List.mem_singleton.1 m] at e ⊢; exact hq y k e
  · rw [List.mem_singleton.1 k] at e ⊢; exact (hq z m e.symm).symm
  · rw [List.mem_singleton.1 k, List.mem_singleton.1 m]
/-- The notes of a turn, and those of the others. -/
def ofT (t : Int) (x : Nt) : Bool := decide ((x.t : Int) = t)
def cut (t : Int) (L : List Nt) : List Nt := L.filter fun x => !ofT t x
theorem ofT_iff {t : Int} {x : Nt} : ofT t x = true ↔ (x.t : Int) = t := by unfold ofT; simp
theorem ofT_no {t : Int} {x : Nt} : ofT t x = false ↔ (x.t : Int) ≠ t := by unfold ofT; simp
/-- Whose a block is when a turn has left. -/
theorem own_cut {L : List Nt} (h : Sole L) (t : Int) (b : Nat) : Go.Proofs.Ythgbknfdbobmiaa.own (cut t L) b = if Go.Proofs.Ythgbknfdbobmiaa.own L b = t then -1 else Go.Proofs.Ythgbknfdbobmiaa.own L b := by
  by_cases e : Go.Proofs.Ythgbknfdbobmiaa.own L b = t
  · rw [if_pos e]
    refine own_none.2 fun x hx hb => ?_
    obtain ⟨h1, h2⟩ := List.mem_filter.1 hx
    have h3 := h.own h1
    rw [hb, e] at h3
    rw [ofT_iff.2 h3.symm] at h2
    cases h2
  · rw [if_neg e]
    by_cases k : Go.Proofs.Ythgbknfdbobmiaa.own L b = -1
    · rw [k]
      exact own_none.2 fun x hx => own_none.1 k x (List.mem_filter.1 hx).1
    · obtain ⟨x, hx, h1, h2⟩ := own_mem k
      have hm : x ∈ cut t L := List.mem_filter.2 ⟨hx, by rw [ofT_no.2 (by rw [← h2]; exact e)]; rfl⟩
      have := (h.sub (fun x => !ofT t x)).own hm
      rw [h1] at this
      exact this.trans h2.symm
/-- What is put back where a turn has left. -/
theorem wat_cut {L : List Nt} (h : Sole L) (p : Nt → Bool) (t : Int) (b y : Nat) : wat p (cut t L) b y = if Go.Proofs.Ythgbknfdbobmiaa.own L b = t then y else wat p L b y := by
  by_cases e : Go.Proofs.Ythgbknfdbobmiaa.own L b = t
  · rw [if_pos e]
    refine wat_none fun x hx _ hb => ?_
    obtain ⟨h1, h2⟩ := List.mem_filter.1 hx
    have h3 := h.own h1
    rw [hb, e] at h3
    rw [ofT_iff.2 h3.symm] at h2
    cases h2
  · rw [if_neg e]
    refine wat_filter fun x hx hb => ?_
    have h3 := h.own hx
    rw [hb] at h3
    rw [ofT_no.2 (by rw [← h3]; exact e)]
    rfl

/-- A disk: what is in the blocks, and its notes. -/
structure Ud where
  H : Nat → Nat
  L : List Nt
def ud0 : Ud := ⟨nV, []⟩
/-- What is true of each disk. -/
structure GoodU (d : Ud) : Prop where
  one : ∀ x ∈ d.L, x.t < 20 ∧ x.b < 8
  len : d.L.length ≤ 60
  sole : Sole d.L
theorem good0 : GoodU ud0 := ⟨fun _ h => absurd h (by simp [ud0]), by simp [ud0], fun x hx => absurd hx (by simp [ud0])⟩

def okP (t b v : Int) : Bool := decide ((0 ≤ t ∧ t < 20) ∧ (0 ≤ b ∧ b < 8) ∧ 0 ≤ v ∧ v ≤ 1000)
theorem okP_iff {t b v : Int} : okP t b v = true ↔ (0 ≤ t ∧ t < 20) ∧ (0 ≤ b ∧ b < 8) ∧ 0 ≤ v ∧ v ≤ 1000 := by unfold okP; simp
def wrE (L : List Nt) (t b v : Int) : Nat := if okP t b v = true then (if own L b.toNat ≠ -1 ∧ own L b.toNat ≠ t then 6 else if L.length = 60 then 4 else 0) else 1
def enE (t : Int) : Nat := if 0 ≤ t ∧ t < 20 then 0 else 1
def wrD (d : Ud) (t b v : Int) : Ud := if wrE d.L t b v = 0 then ⟨putV d.H b.toNat v.toNat, d.L ++ [⟨t.toNat, b.toNat, d.H b.toNat⟩]⟩ else d
def enD (d : Ud) (t : Int) : Ud := ⟨d.H, cut t d.L⟩
def unD (d : Ud) (t : Int) : Ud := ⟨udo (ofT t) d.L d.H, cut t d.L⟩
def all : Nt → Bool := fun _ => true
def crD (d : Ud) : Ud := ⟨udo all d.L d.H, []⟩
/-- How many turns have notes. -/
def hasT (L : List Nt) (t : Nat) : Bool := L.any fun x => x.t == t
def cnt (f : Nat → Bool) (n : Nat) : Nat := ((List.range n).filter f).length
def crN (L : List Nt) : Nat := cnt (hasT L) 20

theorem hasT_iff {L : List Nt} {t : Nat} : hasT L t = true ↔ ∃ x ∈ L, x.t = t := by unfold hasT; rw [List.any_eq_true]; simp
theorem cut_none {d : Ud} (h : GoodU d) {t : Int} (ht : enE t ≠ 0) : cut t d.L = d.L ∧ udo (ofT t) d.L d.H = d.H := by
  have hn : ∀ x ∈ d.L, ofT t x = false := fun x hx => ofT_no.2 fun e => ht (if_pos (by have := (h.one x hx).1; omega))
  exact ⟨List.filter_eq_self.2 fun x hx => by rw [hn x hx]; rfl, udo_none _ hn⟩
theorem enD_none {d : Ud} (h : GoodU d) {t : Int} (ht : enE t ≠ 0) : enD d t = d := by unfold enD; rw [(cut_none h ht).1]
theorem unD_none {d : Ud} (h : GoodU d) {t : Int} (ht : enE t ≠ 0) : unD d t = d := by unfold unD; rw [(cut_none h ht).1, (cut_none h ht).2]
theorem enE_zero {t : Int} (h : enE t = 0) : 0 ≤ t ∧ t < 20 := by
  unfold enE at h
  by_cases k : 0 ≤ t ∧ t < 20
  · exact k
  · rw [if_neg k] at h; cases h
theorem wrE_zero {L : List Nt} {t b v : Int} (h : wrE L t b v = 0) : okP t b v = true ∧ (own L b.toNat = -1 ∨ own L b.toNat = t) ∧ L.length ≠ 60 := by
  unfold wrE at h
  by_cases h1 : okP t b v = true
  · rw [if_pos h1] at h
    by_cases h2 : own L b.toNat ≠ -1 ∧ own L b.toNat ≠ t
    · rw [if_pos h2] at h; cases h
    · rw [if_neg h2] at h
      refine ⟨h1, ?_, fun e => ?_⟩
      · by_cases k : own L b.toNat = -1
        · exact .inl k
        · by_cases k2 : own L b.toNat = t
          · exact .inr k2
          · exact absurd ⟨k, k2⟩ h2
      · rw [if_pos e] at h; cases h
  · rw [if_neg h1] at h; cases h
theorem wrE_nul {L : List Nt} {t b v : Int} (h1 : okP t b v = true) (h2 : own L b.toNat = -1 ∨ own L b.toNat = t) (h3 : L.length ≠ 60) : wrE L t b v = 0 := by
  unfold wrE
  rw [if_pos h1, if_neg (fun k => by rcases h2 with e | e; exact k.1 e; exact k.2 e), if_neg h3]
theorem wrE_which (L : List Nt) (t b v : Int) : wrE L t b v = 0 ∨ wrE L t b v ≠ 0 := by omega
/-- A write that is done, in numbers that are not negative. -/
theorem wr_nat {L : List Nt} {t b v : Int} (h : wrE L t b v = 0) : ∃ T B V : Nat, t = (T : Int) ∧ b = (B : Int) ∧ v = (V : Int) ∧ T < 20 ∧ B < 8 ∧ V ≤ 1000 ∧ (own L B = -1 ∨ own L B = (T : Int)) ∧ L.length ≠ 60 := by
  obtain ⟨h1, h2, h3⟩ := wrE_zero h
  have := okP_iff.1 h1
  refine ⟨t.toNat, b.toNat, v.toNat, by omega, by omega, by omega, by omega, by omega, by omega, ?_, h3⟩
  rcases h2 with e | e
  · exact .inl e
  · exact .inr (by omega)
theorem wrD_yes {d : Ud} {t b v : Int} (h : wrE d.L t b v = 0) : wrD d t b v = ⟨putV d.H b.toNat v.toNat, d.L ++ [⟨t.toNat, b.toNat, d.H b.toNat⟩]⟩ := if_pos h
theorem wrD_no {d : Ud} {t b v : Int} (h : wrE d.L t b v ≠ 0) : wrD d t b v = d := if_neg h
theorem good_wr {d : Ud} (h : GoodU d) (t b v : Int) : GoodU (wrD d t b v) := by
  by_cases e : wrE d.L t b v = 0
  · obtain ⟨T, B, V, rfl, rfl, rfl, hT, hB, hV, ho, hl⟩ := wr_nat e
    rw [wrD_yes e]
    refine ⟨fun x hx => ?_, ?_, ?_⟩
    · rcases List.mem_append.1 hx with hx | hx
      · exact h.one x hx
      · rw [List.mem_singleton] at hx; subst hx
        exact ⟨hT, hB⟩
    · have := h.len
      show (d.L ++ _).length ≤ 60
      rw [List.length_append]
      show d.L.length + 1 ≤ 60
      omega
    · exact h.sole.snoc ho
  · rw [wrD_no e]; exact h
theorem good_cut {d : Ud} (h : GoodU d) (t : Int) (H : Nat → Nat) : GoodU ⟨H, cut t d.L⟩ :=
  ⟨fun x hx => h.one x (List.mem_filter.1 hx).1, Nat.le_trans (List.length_filter_le _ _) h.len, h.sole.sub _⟩
theorem good_en {d : Ud} (h : GoodU d) (t : Int) : GoodU (enD d t) := good_cut h t _
theorem good_un {d : Ud} (h : GoodU d) (t : Int) : GoodU (unD d t) := good_cut h t _
theorem good_cr (d : Ud) : GoodU (crD d) := ⟨fun x hx => absurd hx (by simp [crD]), by simp [crD], fun x hx => absurd hx (by simp [crD])⟩
theorem own_range {d : Ud} (h : GoodU d) (b : Nat) : own d.L b < 20 := by
  by_cases e : own d.L b = -1
  · omega
  · obtain ⟨x, hx, _, k⟩ := own_mem e
    have := (h.one x hx).1
    omega
theorem own_out {d : Ud} (h : GoodU d) {b : Nat} (hb : 8 ≤ b) : own d.L b = -1 := own_none.2 fun x hx e => by have := (h.one x hx).2; omega

/-- Undoing behind a write is undoing ahead of it, where the write is undone too. -/
theorem udo_wr (p : Nt → Bool) (L : List Nt) (H : Nat → Nat) (t b v : Nat) (hp : p ⟨t, b, H b⟩ = true) : udo p (L ++ [⟨t, b, H b⟩]) (putV H b v) = udo p L H := by
  rw [udo_snoc]
  unfold bk
  rw [if_pos hp]
  show udo p L (putV (putV H b v) b (H b)) = _
  rw [putV_same, putV_old]
/-- And where it isn't, it stays. -/
theorem udo_other (p : Nt → Bool) (L : List Nt) (H : Nat → Nat) (x : Nt) (b v : Nat) (hx : p x = false) (hL : ∀ y ∈ L, p y = true → y.b ≠ b) : udo p (L ++ [x]) (putV H b v) = putV (udo p L H) b v := by
  rw [udo_snoc]
  unfold bk
  rw [if_neg (by rw [hx]; decide)]
  funext i
  rw [udo_at, putV_at, putV_at]
  by_cases e : i = b
  · subst e
    rw [if_pos rfl, if_pos rfl]
    exact wat_none hL
  · rw [if_neg e, if_neg e, udo_at]

theorem cnt_succ (f : Nat → Bool) (n : Nat) : cnt f (n + 1) = cnt f n + (if f n = true then 1 else 0) := by
  unfold cnt
  rw [List.range_succ, List.filter_append, List.length_append]
  by_cases h : f n = true
  · rw [if_pos h, List.filter_cons_of_pos h]; rfl
  · rw [if_neg h, List.filter_cons_of_neg h]; rfl
theorem cnt_le (f : Nat → Bool) (n : Nat) : cnt f n ≤ n := by
  unfold cnt
  exact Nat.le_trans (List.length_filter_le _ _) (by simp)
theorem cnt_same {f g : Nat → Bool} : ∀ {n : Nat}, (∀ k, k < n → f k = g k) → cnt f n = cnt g n
  | 0, _ => rfl
  | n + 1, h => by rw [cnt_succ, cnt_succ, cnt_same fun k hk => h k (by omega), h n (by omega)]
theorem cnt_none : ∀ {f : Nat → Bool} {n : Nat}, (∀ k, k < n → f k = false) → cnt f n = 0
  | _, 0, _ => rfl
  | f, n + 1, h => by rw [cnt_succ, cnt_none fun k hk => h k (by omega), h n (by omega)]; rfl
/-- One more counts one more, where it wasn't there. -/
theorem cnt_put {f : Nat → Bool} {t : Nat} : ∀ {n : Nat}, cnt (fun j => f j || t == j) n = cnt f n + (if t < n ∧ f t = false then 1 else 0)
  | 0 => rfl
  | n + 1 => by
    rw [cnt_succ, cnt_succ, cnt_put (n := n)]
    by_cases e : t = n
    · subst e
      rw [if_neg (by omega : ¬ (t < t ∧ f t = false)), if_pos (by simp : (f t || t == t) = true)]
      cases hf : f t with
      | true => rw [if_pos rfl, if_neg (by simp)]
      | false => rw [if_neg (by simp), if_pos ⟨by omega, rfl⟩]
    · have h1 : (t == n) = false := by simp [e]
      rw [h1, Bool.or_false]
      have h2 : (t < n + 1 ∧ f t = false) ↔ (t < n ∧ f t = false) := ⟨fun k => ⟨by omega, k.2⟩, fun k => ⟨by omega, k.2⟩⟩
      simp only [h2]
      omega

/-! The document's crash: one turn behind another. -/
def low (k : Nat) (x : Nt) : Bool := decide (x.t < k)
def hig (k : Nat) (L : List Nt) : List Nt := L.filter fun x => decide (k ≤ x.t)
theorem hig_zero (L : List Nt) : hig 0 L = L := List.filter_eq_self.2 fun _ _ => by simp
theorem hig_all {d : Ud} (h : GoodU d) : hig 20 d.L = [] := List.filter_eq_nil_iff.2 fun x hx => by have := (h.one x hx).1; simp; omega
theorem low_zero (L : List Nt) (H : Nat → Nat) : udo (low 0) L H = H := udo_none H fun x _ => by simp [low]
theorem low_all {d : Ud} (h : GoodU d) : udo (low 20) d.L d.H = udo all d.L d.H := by
  funext i
  rw [udo_at, udo_at]
  exact wat_same fun x hx _ => by have := (h.one x hx).1; simp [low, all, this]
theorem hig_next (k : Nat) (L : List Nt) : cut (k : Int) (hig k L) = hig (k + 1) L := by
  unfold cut hig
  rw [List.filter_filter]
  refine List.filter_congr fun x _ => ?_
  rw [Bool.eq_iff_iff]
  simp [ofT]
  omega
theorem low_next {L : List Nt} (h : Sole L) (k : Nat) (H : Nat → Nat) : udo (ofT (k : Int)) (hig k L) (udo (low k) L H) = udo (low (k + 1)) L H := by
  funext b
  rw [udo_at, udo_at, udo_at]
  by_cases e : own L b = -1
  · have hn := own_none.1 e
    rw [wat_none (L := hig k L) fun x hx _ => hn x (List.mem_filter.1 hx).1, wat_none (p := low k) (L := L) fun x hx _ => hn x hx, wat_none (p := low (k + 1)) (L := L) fun x hx _ => hn x hx]
  · obtain ⟨x, hx, rfl, _⟩ := own_mem e
    have hs : ∀ y ∈ L, y.b = x.b → y.t = x.t := fun y hy k => h y hy x hx k
    by_cases h1 : x.t < k
    · rw [wat_none (L := hig k L) fun y hy _ k => by
        obtain ⟨m1, m2⟩ := List.mem_filter.1 hy
        have := hs y m1 k
        simp at m2
        omega]
      exact wat_same fun y hy k => by have := hs y hy k; simp [low]; omega
    · by_cases h2 : x.t = k
      · rw [wat_none (p := low k) (L := L) fun y hy m k => by have := hs y hy k; simp [low] at m; omega]
        unfold hig
        rw [wat_filter fun y hy k => by have := hs y hy k; simp; omega]
        exact wat_same fun y hy k => by have := hs y hy k; simp [low, ofT]; omega
      · rw [wat_none (L := hig k L) fun y hy m k => by
          have := hs y (List.mem_filter.1 hy).1 k
          simp [ofT] at m
          omega, wat_none (p := low k) (L := L) fun y hy m k => by have := hs y hy k; simp [low] at m; omega, wat_none (p := low (k + 1)) (L := L) fun y hy m k => by have := hs y hy k; simp [low] at m; omega]
theorem hig_less (L : List Nt) (k : Nat) : (hig (k + 1) L).length < (hig k L).length ↔ hasT L k = true := by
  rw [← hig_next]
  unfold cut
  constructor
  · intro h
    refine Classical.byContradiction fun hn => ?_
    have : (hig k L).filter (fun x => !ofT (k : Int) x) = hig k L := List.filter_eq_self.2 fun x hx => by
      rw [ofT_no.2 fun e => hn (hasT_iff.2 ⟨x, (List.mem_filter.1 hx).1, by omega⟩)]; rfl
    rw [this] at h
    omega
  · intro h
    obtain ⟨x, hx, e⟩ := hasT_iff.1 h
    refine Nat.lt_of_le_of_ne (List.length_filter_le _ _) fun hl => ?_
    have := List.filter_eq_self.1 (List.Sublist.eq_of_length List.filter_sublist hl) x (List.mem_filter.2 ⟨hx, by simp [e]⟩)
    rw [ofT_iff.2 (by omega)] at this
    cases this

end Go.Proofs.Ythgbknfdbobmiaa
