/- This text says what a disk with two tables is, as thirty-two numbers, which slot is the least one that is free, and what writing, ending and a crash do to it; it speaks of no call; no condition. -/
namespace Go.Proofs.Ythgbknfdbobmiaa

/-- A disk: sixteen slots, the old table from 16 on, the new one from 24 on. -/
def putI (C : Nat → Int) (b : Nat) (v : Int) : Nat → Int := fun i => if i = b then v else C i
theorem putI_same (C : Nat → Int) (b : Nat) (v : Int) : putI C b v b = v := by simp [putI]
theorem putI_off (C : Nat → Int) {b i : Nat} (v : Int) (h : i ≠ b) : putI C b v i = C i := by simp [putI, h]
def sh0 : Nat → Int := fun i => if i < 16 then 0 else -1
/-- Is a slot in a table that begins at a place? -/
def inT (C : Nat → Int) (z : Nat) (s : Int) : Bool := (List.range 8).any fun i => C (z + i) == s
theorem inT_iff {C : Nat → Int} {z : Nat} {s : Int} : inT C z s = true ↔ ∃ i, i < 8 ∧ C (z + i) = s := by unfold inT; simp
theorem inT_no {C : Nat → Int} {z : Nat} {s : Int} : inT C z s = false ↔ ∀ i, i < 8 → C (z + i) ≠ s := by unfold inT; simp
def namS (C : Nat → Int) (s : Nat) : Bool := inT C 24 (s : Int) || inT C 16 (s : Int)
/-- The least slot that is in neither table. -/
def lfS (C : Nat → Int) : Nat := ((List.range 16).find? fun s => !namS C s).getD 0
theorem lfS_is {C : Nat → Int} {s : Nat} (h : s < 16) (hn : namS C s = false) (hj : ∀ j, j < s → namS C j = true) : lfS C = s := by
  unfold lfS
  have : (List.range 16).find? (fun s => !namS C s) = some s := by
    rw [List.find?_range_eq_some]
    exact ⟨by simp [hn], by simp [h], fun j hjs => by simp [hj j hjs]⟩
  rw [this]; rfl
/-- More pigeons than holes. -/
theorem holes : ∀ (n : Nat) (l : List Int), (∀ x, x < n → (x : Int) ∈ l) → n ≤ l.length
  | 0, _, _ => Nat.zero_le _
  | n + 1, l, h => by
    have hm := h n (by omega)
    have := holes n (l.erase (n : Int)) (fun x hx => (List.mem_erase_of_ne (by omega)).2 (h x (by omega)))
    rw [List.length_erase_of_mem hm] at this
    have hp := List.length_pos_of_mem hm
    omega
theorem lfS_some {C : Nat → Int} {p : Nat} (hp : p < 8) (he : C (24 + p) = C (16 + p)) : lfS C < 16 ∧ namS C (lfS C) = false ∧ ∀ j, j < lfS C → namS C j = true := by
  have hx : ∃ s, s < 16 ∧ namS C s = false := by
    refine Classical.byContradiction fun hno => ?_
    have hall : ∀ s, s < 16 → namS C s = true := fun s hs => by
      cases hq : namS C s
      · exact absurd ⟨s, hs, hq⟩ hno
      · rfl
    have hl := holes 16 (((List.range 8).map fun i => C (24 + i)) ++ (((List.range 8).erase p).map fun i => C (16 + i))) fun x hx => by
      have := hall x hx
      unfold namS at this
      rw [Bool.or_eq_true, inT_iff, inT_iff] at this
      rw [List.mem_append]
      rcases this with ⟨i, hi, e⟩ | ⟨i, hi, e⟩
      · exact .inl (List.mem_map.2 ⟨i, List.mem_range.2 hi, e⟩)
      · by_cases k : i = p
        · subst k
          exact .inl (List.mem_map.2 ⟨i, List.mem_range.2 hi, he.trans e⟩)
        · exact .inr (List.mem_map.2 ⟨i, (List.mem_erase_of_ne k).2 (List.mem_range.2 hi), e⟩)
    rw [List.length_append, List.length_map, List.length_map, List.length_erase_of_mem (List.mem_range.2 hp), List.length_range] at hl
    omega
  unfold lfS
  cases hf : (List.range 16).find? (fun s => !namS C s) with
  | none =>
    obtain ⟨s, hs, hn⟩ := hx
    have := List.find?_eq_none.1 hf s (List.mem_range.2 hs)
    simp [hn] at this
  | some s =>
    rw [List.find?_range_eq_some] at hf
    obtain ⟨h1, h2, h3⟩ := hf
    refine ⟨List.mem_range.1 h2, by simpa using h1, fun j hj => ?_⟩
    have := h3 j hj
    simpa using this

/-- What is true of a disk. -/
structure GoodS (C : Nat → Int) : Prop where
  wr : ∀ i, i < 8 → C (24 + i) = C (16 + i) ∨ 0 ≤ C (24 + i)
  tab : ∀ i, i < 16 → -1 ≤ C (16 + i) ∧ C (16 + i) ≤ 15
  now : ∀ i j, i < 8 → j < 8 → i ≠ j → C (24 + i) = C (24 + j) → C (24 + i) = -1
  old : ∀ i j, i < 8 → j < 8 → i ≠ j → C (16 + i) = C (16 + j) → C (16 + i) = -1
  both : ∀ i j, i < 8 → j < 8 → i ≠ j → C (16 + i) = C (24 + j) → C (16 + i) = -1
theorem GoodS.tabN {C : Nat → Int} (h : GoodS C) {i : Nat} (hi : i < 8) : -1 ≤ C (24 + i) ∧ C (24 + i) ≤ 15 := by
  have := h.tab (8 + i) (by omega)
  rw [show 16 + (8 + i) = 24 + i by omega] at this
  exact this
theorem GoodS.tabO {C : Nat → Int} (h : GoodS C) {i : Nat} (hi : i < 8) : -1 ≤ C (16 + i) ∧ C (16 + i) ≤ 15 := h.tab i (by omega)
theorem goodS0 : GoodS sh0 := by
  have e : ∀ i, 16 ≤ i → sh0 i = -1 := fun i hi => by unfold sh0; rw [if_neg (by omega)]
  constructor
  · intro i _; rw [e _ (by omega), e _ (by omega)]; exact .inl rfl
  · intro i _; rw [e _ (by omega)]; omega
  · intro i j _ _ _ _; exact e _ (by omega)
  · intro i j _ _ _ _; exact e _ (by omega)
  · intro i j _ _ _ _; exact e _ (by omega)

/-- In which slot a written page is. -/
def atS (C : Nat → Int) (p : Nat) : Nat := if C (24 + p) = C (16 + p) then lfS C else (C (24 + p)).toNat
def tbS (C : Nat → Int) (p : Nat) : Nat → Int := if C (24 + p) = C (16 + p) then putI C (24 + p) (lfS C : Int) else C
def wrS (C : Nat → Int) (p : Nat) (v : Int) : Nat → Int := putI (tbS C p) (atS C p) v

theorem GoodS.at_lt {C : Nat → Int} (h : GoodS C) {p : Nat} (hp : p < 8) : atS C p < 16 := by
  unfold atS
  split
  · rename_i e; exact (lfS_some hp e).1
  · have := (h.tabN hp).2; omega
/-- Where a page is written, the old table says of no page that it is there. -/
theorem GoodS.at_old {C : Nat → Int} (h : GoodS C) {p : Nat} (hp : p < 8) : ∀ i, i < 8 → C (16 + i) ≠ (atS C p : Int) := by
  intro i hi hc
  unfold atS at hc
  split at hc
  · rename_i e
    have := (lfS_some hp e).2.1
    unfold namS at this
    rw [Bool.or_eq_false_iff, inT_no, inT_no] at this
    exact this.2 i hi hc
  · rename_i e
    have h0 : 0 ≤ C (24 + p) := (h.wr p hp).resolve_left e
    rw [Int.toNat_of_nonneg h0] at hc
    by_cases k : i = p
    · subst k; exact e hc.symm
    · have := h.both i p hi hp k hc; omega
theorem GoodS.at_now {C : Nat → Int} (h : GoodS C) {p : Nat} (hp : p < 8) : ∀ i, i < 8 → i ≠ p → C (24 + i) ≠ (atS C p : Int) := by
  intro i hi k hc
  unfold atS at hc
  split at hc
  · rename_i e
    have := (lfS_some hp e).2.1
    unfold namS at this
    rw [Bool.or_eq_false_iff, inT_no, inT_no] at this
    exact this.1 i hi hc
  · rename_i e
    have h0 : 0 ≤ C (24 + p) := (h.wr p hp).resolve_left e
    rw [Int.toNat_of_nonneg h0] at hc
    have := h.now i p hi hp k hc; omega
theorem wr_old (C : Nat → Int) {p : Nat} (v : Int) (h : atS C p < 16) (i : Nat) (hi : i < 8) : wrS C p v (16 + i) = C (16 + i) := by
  unfold wrS
  rw [putI_off _ _ (by omega)]
  unfold tbS
  split
  · rw [putI_off _ _ (by omega)]
  · rfl
theorem GoodS.wr_now {C : Nat → Int} (h : GoodS C) {p : Nat} (hp : p < 8) (v : Int) (i : Nat) (hi : i < 8) : wrS C p v (24 + i) = if i = p then (atS C p : Int) else C (24 + i) := by
  have ha := h.at_lt hp
  unfold wrS
  rw [putI_off _ _ (by omega)]
  unfold tbS atS
  by_cases e : C (24 + p) = C (16 + p)
  · rw [if_pos e, if_pos e]
    by_cases k : i = p
    · subst k; rw [putI_same, if_pos rfl]
    · rw [putI_off _ _ (by omega), if_neg k]
  · rw [if_neg e, if_neg e]
    by_cases k : i = p
    · subst k; rw [if_pos rfl, Int.toNat_of_nonneg ((h.wr i hp).resolve_left e)]
    · rw [if_neg k]
theorem wr_slot (C : Nat → Int) {p : Nat} (v : Int) (i : Nat) (hi : i < 16) : wrS C p v i = if i = atS C p then v else C i := by
  unfold wrS putI
  split
  · rfl
  · unfold tbS
    split
    · rw [putI_off _ _ (by omega)]
    · rfl
theorem GoodS.write {C : Nat → Int} (h : GoodS C) {p : Nat} (hp : p < 8) (v : Int) : GoodS (wrS C p v) := by
  have ha := h.at_lt hp
  have ho := wr_old C (p := p) v ha
  have hn := h.wr_now hp v
  constructor
  · intro i hi
    rw [ho i hi, hn i hi]
    split
    · right; omega
    · exact h.wr i hi
  · intro i hi
    by_cases k : i < 8
    · rw [ho i k]; exact h.tabO k
    · obtain ⟨j, rfl⟩ : ∃ j, i = 8 + j := ⟨i - 8, by omega⟩
      rw [show 16 + (8 + j) = 24 + j by omega, hn j (by omega)]
      split
      · omega
      · exact h.tabN (by omega)
  · intro i j hi hj hij e
    rw [hn i hi, hn j hj] at e
    rw [hn i hi]
    split at e
    · rename_i k1
      rw [if_neg (by omega)] at e
      exact absurd e.symm (h.at_now hp j hj (by omega))
    · rename_i k1
      rw [if_neg k1]
      split at e
      · exact absurd e (h.at_now hp i hi k1)
      · exact h.now i j hi hj hij e
  · intro i j hi hj hij e
    rw [ho i hi, ho j hj] at e
    rw [ho i hi]
    exact h.old i j hi hj hij e
  · intro i j hi hj hij e
    rw [ho i hi, hn j hj] at e
    rw [ho i hi]
    split at e
    · exact absurd e (h.at_old hp i hi)
    · exact h.both i j hi hj hij e

/-- The old table is the new one; and the other way round. -/
def endS (C : Nat → Int) : Nat → Int := fun i => if 16 ≤ i ∧ i < 24 then C (i + 8) else C i
def crS (C : Nat → Int) : Nat → Int := fun i => if 24 ≤ i ∧ i < 32 then C (i - 8) else C i
theorem end_old (C : Nat → Int) (i : Nat) (hi : i < 8) : endS C (16 + i) = C (24 + i) := by unfold endS; rw [if_pos (by omega), show 16 + i + 8 = 24 + i by omega]
theorem end_now (C : Nat → Int) (i : Nat) : endS C (24 + i) = C (24 + i) := by unfold endS; rw [if_neg (by omega)]
theorem end_slot (C : Nat → Int) (i : Nat) (hi : i < 16) : endS C i = C i := by unfold endS; rw [if_neg (by omega)]
theorem cr_now (C : Nat → Int) (i : Nat) (hi : i < 8) : crS C (24 + i) = C (16 + i) := by unfold crS; rw [if_pos (by omega), show 24 + i - 8 = 16 + i by omega]
theorem cr_low (C : Nat → Int) (i : Nat) (hi : i < 24) : crS C i = C i := by unfold crS; rw [if_neg (by omega)]
theorem same_tables {C : Nat → Int} {T : Nat → Int} (hb : ∀ i, i < 8 → -1 ≤ T i ∧ T i ≤ 15) (hd : ∀ i j, i < 8 → j < 8 → i ≠ j → T i = T j → T i = -1)
    (ho : ∀ i, i < 8 → C (16 + i) = T i) (hn : ∀ i, i < 8 → C (24 + i) = T i) : GoodS C := by
  constructor
  · intro i hi; left; rw [ho i hi, hn i hi]
  · intro i hi
    by_cases k : i < 8
    · rw [ho i k]; exact hb i k
    · obtain ⟨j, rfl⟩ : ∃ j, i = 8 + j := ⟨i - 8, by omega⟩
      rw [show 16 + (8 + j) = 24 + j by omega, hn j (by omega)]
      exact hb j (by omega)
  · intro i j hi hj k e; rw [hn i hi, hn j hj] at e; rw [hn i hi]; exact hd i j hi hj k e
  · intro i j hi hj k e; rw [ho i hi, ho j hj] at e; rw [ho i hi]; exact hd i j hi hj k e
  · intro i j hi hj k e; rw [ho i hi, hn j hj] at e; rw [ho i hi]; exact hd i j hi hj k e
theorem GoodS.end' {C : Nat → Int} (h : GoodS C) : GoodS (endS C) :=
  same_tables (T := fun i => C (24 + i)) (fun _ hi => h.tabN hi) (fun i j hi hj k e => h.now i j hi hj k e) (fun i hi => end_old C i hi) fun i _ => end_now C i
theorem GoodS.crash {C : Nat → Int} (h : GoodS C) : GoodS (crS C) :=
  same_tables (T := fun i => C (16 + i)) (fun _ hi => h.tabO hi) (fun i j hi hj k e => h.old i j hi hj k e) (fun i _ => cr_low C _ (by omega)) fun i hi => cr_now C i hi
/-- Of how many pages the tables say otherwise. -/
def cnS (C : Nat → Int) : Nat → Nat
  | 0 => 0
  | n + 1 => cnS C n + if C (24 + n) = C (16 + n) then 0 else 1
theorem cnS_le (C : Nat → Int) : ∀ n, cnS C n ≤ n
  | 0 => Nat.le_refl _
  | n + 1 => by have := cnS_le C n; unfold cnS; split <;> omega
theorem cnS_none {C : Nat → Int} : ∀ {n}, (∀ i, i < n → C (24 + i) = C (16 + i)) → cnS C n = 0
  | 0, _ => rfl
  | n + 1, h => by unfold cnS; rw [cnS_none fun i hi => h i (by omega), if_pos (h n (by omega))]
theorem cnS_end (C : Nat → Int) : cnS (endS C) 8 = 0 := cnS_none fun i hi => by rw [end_old C i hi, end_now]
theorem cnS_crash (C : Nat → Int) : cnS (crS C) 8 = 0 := cnS_none fun i hi => by rw [cr_now C i hi, cr_low C _ (by omega)]
theorem cnS_same {C D : Nat → Int} : ∀ {n}, (∀ i, i < n → C (24 + i) = D (24 + i) ∧ C (16 + i) = D (16 + i)) → cnS C n = cnS D n
  | 0, _ => rfl
  | n + 1, h => by unfold cnS; rw [cnS_same fun i hi => h i (by omega), (h n (by omega)).1, (h n (by omega)).2]

/-- What a page is worth by the table that begins at a place. -/
def vlS (C : Nat → Int) (z i : Nat) : Int := if C (z + i) = -1 then 0 else C (C (z + i)).toNat
theorem GoodS.old_stays {C : Nat → Int} (h : GoodS C) {p : Nat} (hp : p < 8) (v : Int) (i : Nat) (hi : i < 8) : vlS (wrS C p v) 16 i = vlS C 16 i := by
  have ha := h.at_lt hp
  have hb := h.tabO hi
  unfold vlS
  rw [wr_old C v ha i hi]
  split
  · rfl
  · rename_i k
    rw [wr_slot C v _ (by omega), if_neg (fun e => h.at_old hp i hi (by omega))]
theorem GoodS.now_is {C : Nat → Int} (h : GoodS C) {p : Nat} (hp : p < 8) (v : Int) (i : Nat) (hi : i < 8) : vlS (wrS C p v) 24 i = if i = p then v else vlS C 24 i := by
  have ha := h.at_lt hp
  have hb := h.tabN hi
  unfold vlS
  rw [h.wr_now hp v i hi]
  by_cases k : i = p
  · rw [if_pos k, if_pos k, if_neg (by omega), wr_slot C v _ (by omega), if_pos (by omega)]
  · rw [if_neg k, if_neg k]
    split
    · rfl
    · rw [wr_slot C v _ (by omega), if_neg (fun e => h.at_now hp i hi k (by omega))]
theorem GoodS.end_vals {C : Nat → Int} (h : GoodS C) (i : Nat) (hi : i < 8) : vlS (endS C) 24 i = vlS C 24 i ∧ vlS (endS C) 16 i = vlS C 24 i := by
  have hb := h.tabN hi
  unfold vlS
  rw [end_now, end_old C i hi]
  constructor <;>
  · split
    · rfl
    · rw [end_slot C _ (by omega)]
theorem GoodS.crash_vals {C : Nat → Int} (h : GoodS C) (i : Nat) (hi : i < 8) : vlS (crS C) 24 i = vlS C 16 i ∧ vlS (crS C) 16 i = vlS C 16 i := by
  have hb := h.tabO hi
  unfold vlS
  rw [cr_now C i hi, cr_low C (16 + i) (by omega)]
  constructor <;>
  · split
    · rfl
    · rw [cr_low C _ (by omega)]

end Go.Proofs.Ythgbknfdbobmiaa
