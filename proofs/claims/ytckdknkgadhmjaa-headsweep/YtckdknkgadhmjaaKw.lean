/- This text proves nothing of the program: it is the plain mathematics of a sweep: it turns at most once, and how far it goes; no condition. -/
import Derived.Test.YtckdknkgadhmjaaKm
namespace Go.Proofs.Ytckdknkgadhmjaa

/-- How far a falling way goes. -/
theorem far_fall (s : Int) : ∀ (L : List Int) (x Lo : Int), x < s → ((x :: L).Pairwise fun a b => ltS s true b a = false) → (Lo = x ∨ Lo ∈ L) → Lo ≤ x → (∀ y ∈ L, Lo ≤ y) → farL x L = x - Lo
  | [], x, Lo, _, _, h, _, _ => by
    rcases h with h | h
    · rw [h, farL]; omega
    · simp at h
  | y :: L, x, Lo, hx, hp, h, h1, h2 => by
    have hy : ¬ ltS s true y x = true := by rw [(List.rel_of_pairwise_cons hp (List.mem_cons_self ..) : ltS s true y x = false)]; simp
    rw [ltS_up] at hy
    have hyx : y < s ∧ y ≤ x := by omega
    have ih := far_fall s L y Lo hyx.1 (List.pairwise_cons.1 hp).2 (by
      rcases h with h | h
      · left; have := h2 y (List.mem_cons_self ..); omega
      · exact List.mem_cons.1 h) (h2 y (List.mem_cons_self ..)) (fun z hz => h2 z (List.mem_cons_of_mem _ hz))
    rw [farL, ih]
    unfold dst
    split <;> omega

/-- How far a sweep goes that rises first. -/
theorem far_up (s : Int) : ∀ (L : List Int) (w H Lo : Int), s ≤ w → ((w :: L).Pairwise fun a b => ltS s true b a = false) → (H = w ∨ H ∈ L) → w ≤ H → (∀ x ∈ L, x ≤ H) → (Lo = s ∨ Lo ∈ L) → Lo ≤ s → (∀ x ∈ L, Lo ≤ x) →
    farL w L = (H - w) + (if Lo < s then H - Lo else 0)
  | [], w, H, Lo, _, _, h1, _, _, h2, _, _ => by
    rcases h1 with h1 | h1
    · rcases h2 with h2 | h2
      · rw [h1, h2, farL, if_neg (by omega)]; omega
      · simp at h2
    · simp at h1
  | x :: L, w, H, Lo, hw, hp, h1, h2, h3, h4, h5, h6 => by
    have hx0 : ¬ ltS s true x w = true := by rw [(List.rel_of_pairwise_cons hp (List.mem_cons_self ..) : ltS s true x w = false)]; simp
    rw [ltS_up] at hx0
    have hxH := h3 x (List.mem_cons_self ..)
    have hLx := h6 x (List.mem_cons_self ..)
    by_cases hx : s ≤ x
    · have hwx : w ≤ x := by omega
      have ih := far_up s L x H Lo hx (List.pairwise_cons.1 hp).2 (by
        rcases h1 with h1 | h1
        · left; omega
        · exact List.mem_cons.1 h1) hxH (fun z hz => h3 z (List.mem_cons_of_mem _ hz)) (by
        rcases h4 with h4 | h4
        · exact .inl h4
        · rcases List.mem_cons.1 h4 with h4 | h4
          · left; omega
          · exact .inr h4) h5 (fun z hz => h6 z (List.mem_cons_of_mem _ hz))
      rw [farL, ih]
      have : dst w x = x - w := by unfold dst; split <;> omega
      rw [this]
      omega
    · have hfall : ∀ z ∈ L, z < s := fun z hz => by
        have h0 : ¬ ltS s true z x = true := by rw [(List.rel_of_pairwise_cons (List.pairwise_cons.1 hp).2 hz : ltS s true z x = false)]; simp
        rw [ltS_up] at h0
        omega
      have hH : H = w := by
        rcases h1 with h1 | h1
        · exact h1
        · rcases List.mem_cons.1 h1 with h1 | h1
          · omega
          · have := hfall H h1; omega
      have ih := far_fall s L x Lo (by omega) (List.pairwise_cons.1 hp).2 (by
        rcases h4 with h4 | h4
        · omega
        · exact List.mem_cons.1 h4) hLx (fun z hz => h6 z (List.mem_cons_of_mem _ hz))
      rw [farL, ih, if_pos (by omega)]
      have : dst w x = w - x := by unfold dst; split <;> omega
      omega

theorem mir_mem {x : Int} {L : List Int} (h : x ∈ mir L) : 99 - x ∈ L := by
  obtain ⟨y, hy, rfl⟩ := List.mem_map.1 h
  rwa [show (99 : Int) - (99 - y) = y by omega]
theorem mem_mir {x : Int} {L : List Int} (h : x ∈ L) : 99 - x ∈ mir L := List.mem_map.2 ⟨x, h, rfl⟩
theorem mir_sorted {s : Int} {up : Bool} {L : List Int} (h : L.Pairwise fun a b => ltS s up b a = false) : (mir L).Pairwise fun a b => ltS (99 - s) (!up) b a = false := by
  unfold mir
  rw [List.pairwise_map]
  simp only [ltS_mir]
  exact h

theorem from_s {s : Int} {up : Bool} {L : List Int} (h : L.Pairwise fun a b => ltS s up b a = false) : (s :: L).Pairwise fun a b => ltS s up b a = false := by
  refine List.Pairwise.cons (fun x _ => ?_) h
  rw [← Bool.not_eq_true]
  cases up
  · rw [ltS_down]; omega
  · rw [ltS_up]; omega

/-- How far a sweep goes. -/
theorem far_sweep (s : Int) (up : Bool) (L : List Int) (H Lo : Int) (hp : L.Pairwise fun a b => ltS s up b a = false) (h1 : H = s ∨ H ∈ L) (h2 : s ≤ H) (h3 : ∀ x ∈ L, x ≤ H) (h4 : Lo = s ∨ Lo ∈ L) (h5 : Lo ≤ s) (h6 : ∀ x ∈ L, Lo ≤ x) :
    farL s L ≤ 2 * (H - Lo) ∧ (if s - Lo < H - s then H - Lo + s - Lo else H - Lo + H - s) ≤ farL s L := by
  cases up
  · have := far_up (99 - s) (mir L) (99 - s) (99 - Lo) (99 - H) (by omega) (from_s (up := true) (mir_sorted hp))
      (by rcases h4 with h | h; exact .inl (by omega); exact .inr (mem_mir h)) (by omega) (fun x hx => by have := h6 _ (mir_mem hx); omega)
      (by rcases h1 with h | h; exact .inl (by omega); exact .inr (mem_mir h)) (by omega) (fun x hx => by have := h3 _ (mir_mem hx); omega)
    rw [farL_mir] at this
    rw [this]
    split <;> split <;> omega
  · have := far_up s L s H Lo (Int.le_refl _) (from_s hp) h1 h2 h3 h4 h5 h6
    rw [this]
    split <;> split <;> omega

/-- How often it has turned, and which way it goes. -/
def Trn (s : Int) (up : Bool) (p : Int) (tn : Int) (r : Bool) : Prop := (out s up p = true ∧ tn = 0 ∧ r = up) ∨ (out s up p = false ∧ tn = 1 ∧ r = !up)

theorem Trn.le {s : Int} {up : Bool} {p tn : Int} {r : Bool} (h : Trn s up p tn r) : 0 ≤ tn ∧ tn ≤ 1 := by
  rcases h with h | h <;> omega
theorem Trn.begin (s : Int) (up : Bool) : Trn s up s 0 up := .inl ⟨by unfold out; simp, rfl, rfl⟩

theorem out_up (s x : Int) : out s true x = decide (s ≤ x) := rfl
theorem out_down (s x : Int) : out s false x = decide (x ≤ s) := rfl
theorem Trn.up {s p tn : Int} {r : Bool} : Trn s true p tn r ↔ (s ≤ p ∧ tn = 0 ∧ r = true) ∨ (p < s ∧ tn = 1 ∧ r = false) := by
  unfold Trn; rw [out_up, decide_eq_true_eq, decide_eq_false_iff_not, Int.not_le]; rfl
theorem Trn.down {s p tn : Int} {r : Bool} : Trn s false p tn r ↔ (p ≤ s ∧ tn = 0 ∧ r = false) ∨ (s < p ∧ tn = 1 ∧ r = true) := by
  unfold Trn; rw [out_down, decide_eq_true_eq, decide_eq_false_iff_not, Int.not_le]; rfl

theorem Trn.step {s : Int} {up : Bool} {p tn x : Int} {r : Bool} (h : Trn s up p tn r) (hx : ltS s up x p = false) :
    (x = p ∧ Trn s up x tn r) ∨ (p < x ∧ r = true ∧ Trn s up x tn r) ∨ (x < p ∧ r = false ∧ Trn s up x tn r) ∨ (p < x ∧ r = false ∧ tn = 0 ∧ Trn s up x 1 true) ∨ (x < p ∧ r = true ∧ tn = 0 ∧ Trn s up x 1 false) := by
  have hx' : ¬ ltS s up x p = true := by rw [hx]; simp
  cases up
  · rw [ltS_down] at hx'
    simp only [Trn.down] at h ⊢
    rcases h with ⟨h1, h2, h3⟩ | ⟨h1, h2, h3⟩ <;> subst h3 <;> simp <;> omega
  · rw [ltS_up] at hx'
    simp only [Trn.up] at h ⊢
    rcases h with ⟨h1, h2, h3⟩ | ⟨h1, h2, h3⟩ <;> subst h3 <;> simp <;> omega

theorem after {s : Int} {up : Bool} : ∀ {L : List Int} {a : Int} {i : Nat}, ((a :: L).Pairwise fun a b => ltS s up b a = false) → i < L.length → ltS s up (nth L i) (nth (a :: L) i) = false
  | [], _, _, _, h => by simp at h
  | x :: L, a, 0, hp, _ => List.rel_of_pairwise_cons hp (List.mem_cons_self ..)
  | x :: L, a, i + 1, hp, h => after (L := L) (a := x) (i := i) (List.pairwise_cons.1 hp).2 (by simpa using h)

/-- The lowest and the highest so far. -/
structure LoHi (s : Int) (xs : List Int) (i : Nat) (lo hi : Int) : Prop where
  loIs : lo = s ∨ ∃ j, j < i ∧ lo = nth xs j
  loLe : lo ≤ s
  loAll : ∀ j, j < i → lo ≤ nth xs j
  hiIs : hi = s ∨ ∃ j, j < i ∧ hi = nth xs j
  hiLe : s ≤ hi
  hiAll : ∀ j, j < i → nth xs j ≤ hi

theorem LoHi.begin (s : Int) (xs : List Int) : LoHi s xs 0 s s := ⟨.inl rfl, Int.le_refl _, fun j h => by omega, .inl rfl, Int.le_refl _, fun j h => by omega⟩
theorem LoHi.step {s : Int} {xs : List Int} {i : Nat} {lo hi lo' hi' : Int} (h : LoHi s xs i lo hi) (h1 : lo' = if nth xs i < lo then nth xs i else lo) (h2 : hi' = if hi < nth xs i then nth xs i else hi) : LoHi s xs (i + 1) lo' hi' := by
  have hl := h.loLe
  have hh := h.hiLe
  refine ⟨?_, ?_, fun j hj => ?_, ?_, ?_, fun j hj => ?_⟩
  · rw [h1]; split
    · exact .inr ⟨i, by omega, rfl⟩
    · rcases h.loIs with e | ⟨j, e1, e2⟩
      · exact .inl e
      · exact .inr ⟨j, by omega, e2⟩
  · rw [h1]; split <;> omega
  · by_cases e : j = i
    · subst e; rw [h1]; split <;> omega
    · have := h.loAll j (by omega); rw [h1]; split <;> omega
  · rw [h2]; split
    · exact .inr ⟨i, by omega, rfl⟩
    · rcases h.hiIs with e | ⟨j, e1, e2⟩
      · exact .inl e
      · exact .inr ⟨j, by omega, e2⟩
  · rw [h2]; split <;> omega
  · by_cases e : j = i
    · subst e; rw [h2]; split <;> omega
    · have := h.hiAll j (by omega); rw [h2]; split <;> omega

theorem mem_nth {x : Int} {xs : List Int} (h : x ∈ xs) : ∃ j, j < xs.length ∧ x = nth xs j := by
  obtain ⟨j, hj, e⟩ := List.getElem_of_mem h
  exact ⟨j, hj, by rw [nth_lt hj, e]⟩

theorem LoHi.far {s : Int} {up : Bool} {xs L : List Int} {lo hi : Int} (h : LoHi s xs xs.length lo hi) (hp : L.Perm xs) (hs : L.Pairwise fun a b => ltS s up b a = false) :
    farL s L ≤ 2 * (hi - lo) ∧ (if s - lo < hi - s then hi - lo + s - lo else hi - lo + hi - s) ≤ farL s L := by
  refine far_sweep s up L hi lo hs ?_ h.hiLe (fun x hx => ?_) ?_ h.loLe (fun x hx => ?_)
  · rcases h.hiIs with e | ⟨j, e1, e2⟩
    · exact .inl e
    · exact .inr (hp.mem_iff.2 (by rw [e2]; exact nth_mem e1))
  · obtain ⟨j, hj, rfl⟩ := mem_nth (hp.mem_iff.1 hx); exact h.hiAll j hj
  · rcases h.loIs with e | ⟨j, e1, e2⟩
    · exact .inl e
    · exact .inr (hp.mem_iff.2 (by rw [e2]; exact nth_mem e1))
  · obtain ⟨j, hj, rfl⟩ := mem_nth (hp.mem_iff.1 hx); exact h.loAll j hj

theorem LoHi.in {s : Int} {xs : List Int} {i : Nat} {lo hi : Int} (h : LoHi s xs i lo hi) (hs : 0 ≤ s ∧ s ≤ 99) (hx : ∀ j, j < i → 0 ≤ nth xs j ∧ nth xs j ≤ 99) : 0 ≤ lo ∧ hi ≤ 99 := by
  refine ⟨?_, ?_⟩
  · rcases h.loIs with e | ⟨j, e1, e2⟩
    · omega
    · have := hx j e1; omega
  · rcases h.hiIs with e | ⟨j, e1, e2⟩
    · omega
    · have := hx j e1; omega

end Go.Proofs.Ytckdknkgadhmjaa
