/- This text proves what the document's own in, Set, Ended and Values of a log answer; old memory is as it was; the conditions are that the document's records lie there, and its blocks' values. -/
import Derived.Test.YtejganpamidkmaaDoorZD0
import Derived.Test.YtejganpamidkmaaDoorLj
namespace Go.Proofs.YtejganpamidkmaaDoor
open Go.RowKit Go.Deep Go.Maps

set_option maxHeartbeats 1000000 in
theorem rin_any (x lo hi : Int) (w : World) :
    Calls Tryd.prog 19 #[.int .i64 x, .int .i64 lo, .int .i64 hi] w fun e w' => e = .returned (.bool (decide (lo ≤ x ∧ x ≤ hi))) ∧ w = w' := by
  by_cases h1 : lo ≤ x
  · by_cases h2 : x ≤ hi
    · have e : decide (lo ≤ x ∧ x ≤ hi) = true := by simp [h1, h2]
      rw [e]
      go_enter Tryd.func19, Tryd.ntmps19
      go_wp2
      go_ret
      exact ⟨rfl, rfl⟩
    · have e : decide (lo ≤ x ∧ x ≤ hi) = false := by simp [h2]
      rw [e]
      go_enter Tryd.func19, Tryd.ntmps19
      go_wp2
      go_ret
      exact ⟨rfl, rfl⟩
  · have e : decide (lo ≤ x ∧ x ≤ hi) = false := by simp [h1]
    rw [e]
    go_enter Tryd.func19, Tryd.ntmps19
    go_wp2
    go_ret
    exact ⟨rfl, rfl⟩
theorem rin_yes (x lo hi : Int) (w : World) (h : lo ≤ x ∧ x ≤ hi) :
    Calls Tryd.prog 19 #[.int .i64 x, .int .i64 lo, .int .i64 hi] w fun e w' => e = .returned (.bool true) ∧ w = w' := by
  have := rin_any x lo hi w
  rwa [decide_eq_true h] at this
theorem rin_no (x lo hi : Int) (w : World) (h : ¬ (lo ≤ x ∧ x ≤ hi)) :
    Calls Tryd.prog 19 #[.int .i64 x, .int .i64 lo, .int .i64 hi] w fun e w' => e = .returned (.bool false) ∧ w = w' := by
  have := rin_any x lo hi w
  rwa [decide_eq_false h] at this

set_option maxHeartbeats 2000000 in
theorem set_own (w : World) (v : Value) (xs : List Int) (n k : Nat) (x : Int) (hx : SliceIs w v xs) (hxn : xs.length = n) (hk : k < n) (hn : n ≤ 256) :
    Calls Tryd.prog 28 #[v, .int .i64 (k : Int), .int .i64 x] w fun e w' => ∃ g cap, e = .returned (.slice (some ⟨g, 0, none⟩) n cap) ∧ w'.ownsRow w.heap.size 3 1 (.slice (some ⟨g, 0, none⟩) n cap) n (cellsOf (xs.set k x)) ∧ Below w.heap.size w w' := by
  have HX : Hid (SliceIs w v xs) := hx
  have HN : Hid (n = xs.length) := hxn.symm
  clear hx hxn
  go_enter Tryd.func28, Tryd.ntmps28
  go_wp2_with (at_builtin; refine wpList_append_ints rfl (.tmp 8) (.tmp 9) rfl w.heap.size (.slice none 0 0) 0 [] rfl (World.ownsRow_nil _ _ _ _) v xs rfl HX.out ?q1 ?q2 ?q3)
  case q1 => rw [← HN.out]; omega
  case q2 => exact Nat.le_refl _
  case q3 =>
    intro v1 w1 hown hb
    rw [← HN.out] at hown
    obtain ⟨g, cap, rfl, hg1, hg2⟩ := own_where hown (by omega)
    have HB : Hid (Below w.heap.size w w1) := hb
    have HG : Hid (g < w1.heap.size ∧ w.heap.size ≤ g) := ⟨hg2, hg1⟩
    have hc1 : w1.cell? ⟨g, k, none⟩ = some (.int .i64 (nth xs k)) := by rw [hown.cellAt k (by omega), cellsOf_get (by rw [← HN.out]; exact hk)]
    have hf1 : w1.frozen? ⟨g, k, none⟩ = false := hown.frozenAt k
    have HO2 : Hid ((w1.setCell ⟨g, k, none⟩ (.int .i64 x)).ownsRow w.heap.size 3 1 (.slice (some ⟨g, 0, none⟩) n cap) n (cellsOf (xs.set k x))) := by
      have := hown.stored k (.int .i64 x)
      rw [cellsOf_set] at this
      exact this.1
    have hki : (k : Int) < (n : Int) := by omega
    clear hown hb hg1 hg2
    go_wp2
    go_ret
    exact ⟨g, cap, rfl, HO2.out, HB.out.setCell HG.out.2 _⟩

/-- Values as a list. -/
def lst (H : Nat → Nat) : List Int := (List.range 8).map fun i => (H i : Int)
theorem lst_len (H : Nat → Nat) : (lst H).length = 8 := by simp [lst]
theorem lst_nth {H : Nat → Nat} {i : Nat} (hi : i < 8) : nth (lst H) i = (H i : Int) := by
  rw [nth_lt (by rw [lst_len]; exact hi)]
  simp [lst]
theorem lst_put (H : Nat → Nat) (b v : Nat) : (lst H).set b (v : Int) = lst (putV H b v) := by
  refine List.ext_getElem (by simp [lst]) fun i h1 h2 => ?_
  rw [List.getElem_set]
  by_cases e : b = i
  · subst e; simp [lst, putV]
  · have e' : ¬ i = b := fun h => e h.symm
    rw [if_neg e]; simp [lst, putV, e']

theorem endd_at {L : List Rc} {i t : Nat} (hi : i < L.length) (he : (rcAt L i).e = true) (ht : (rcAt L i).t = t) : endd L t = true := endd_iff.2 ⟨_, rcAt_mem hi, he, ht⟩
theorem endd_none {L : List Rc} {t : Nat} (h : ∀ j, j < L.length → ¬ ((rcAt L j).t = t ∧ (rcAt L j).e = true)) : endd L t = false := by
  cases k : endd L t with
  | false => rfl
  | true =>
    obtain ⟨r, h1, h2, h3⟩ := endd_iff.1 k
    obtain ⟨j, hj, rfl⟩ := List.mem_iff_getElem.1 h1
    have := h j hj
    rw [rcAt_lt hj] at this
    exact absurd ⟨h3, h2⟩ this

set_option maxHeartbeats 4000000 in
set_option maxRecDepth 100000 in
theorem r2ended_any (w : World) (ah : Option Addr) (ch : Nat) (vl : Value) (s : Int) (L : List Rc) (h : PutsIs w vl L) (h60 : L.length ≤ 60) (t : Nat) :
    Calls Tryd.prog 20 #[.agg #[.slice ah 8 ch, vl, .int .i64 s], .int .i64 (t : Int)] w fun e w' => e = .returned (.bool (endd L t)) ∧ Below w.heap.size w w' := by
  obtain ⟨a, c, b, rfl, hl, ha, hb, hc⟩ := h.where
  obtain ⟨n, hn⟩ : ∃ n, n = L.length := ⟨_, rfl⟩
  have HN : Hid (n = L.length) := hn
  rw [← hn] at hl ha hb hc h60 ⊢
  have hbo := below_one w (.cells #[.slice ah 8 ch, .slice a n c, .int .i64 s] 28)
  have HC : Hid (∀ i, i < n → (w.alloc (.cells #[.slice ah 8 ch, .slice a n c, .int .i64 s] 28)).cell? ⟨b, i * 3, none⟩ = some (.int .i64 ((rcAt L i).t : Int)) ∧ (w.alloc (.cells #[.slice ah 8 ch, .slice a n c, .int .i64 s] 28)).cell? ⟨b, i * 3 + 2, none⟩ = some (.int .i64 (pcV (rcAt L i)))) := fun i hi =>
    ⟨by rw [hbo.cell (p := ⟨b, i * 3, none⟩) (hb (by omega))]; exact (hc i hi).1, by rw [hbo.cell (p := ⟨b, i * 3 + 2, none⟩) (hb (by omega))]; exact (hc i hi).2.2⟩
  have b1 : (w.alloc (.cells #[.slice ah 8 ch, .slice a n c, .int .i64 s] 28)).cell? ⟨w.heap.size, 1, none⟩ = some (.slice a n c) := cell_new _ _ _ _
  have HB : Hid _ := fun (_ : Nat) => hbo
  clear hc hn h hb hbo
  go_enter Tryd.func20, Tryd.ntmps20
  go_wp2
  generalize w.alloc _ = w1 at HC HB b1 ⊢
  generalize w.heap.size = P at b1 ⊢
  go_loop [5] (fun i => ∃ k : Nat, k ≤ n ∧ i = .int .i64 (k : Int) ∧ ∀ j, j < k → ¬ ((rcAt L j).t = t ∧ (rcAt L j).e = true)) (fun i => n - (Go.RowKit.intOf i).toNat)
  case atStart => exact ⟨0, by omega, rfl, fun j hj => absurd hj (by omega)⟩
  case round =>
    obtain ⟨k, hk, rfl, hj⟩ := hrel
    have HJ : Hid (∀ j, j < k → ¬ ((rcAt L j).t = t ∧ (rcAt L j).e = true)) := hj
    clear hj
    by_cases hlt : k < n
    · have haa := ha (by omega)
      subst haa
      obtain ⟨c0, c2⟩ := HC.out k hlt
      have HNx : Hid (¬ ((rcAt L k).t = t ∧ (rcAt L k).e = true) → ∀ j, j < k + 1 → ¬ ((rcAt L j).t = t ∧ (rcAt L j).e = true)) := fun h j hj => by
        by_cases e : j = k
        · subst e; exact h
        · exact HJ.out j (by omega)
      have HAt : Hid ((rcAt L k).e = true → (rcAt L k).t = t → endd L t = true) := fun h1 h2 => endd_at (by rw [← HN.out]; exact hlt) h1 h2
      have HV : Hid (pcV (rcAt L k) < 0 ↔ (rcAt L k).e = true) := pcV_neg
      generalize pcV (rcAt L k) = V at c2 HV
      generalize (rcAt L k).t = T at c0 HNx HAt
      generalize (rcAt L k).e = E at HNx HAt HV
      by_cases hT : T = t
      · subst hT
        by_cases hV : V < 0
        · have HE : Hid (endd L T = true) := HAt.out (HV.out.1 hV) rfl
          go_wp2
          go_ret
          exact ⟨by rw [HE.out]; rfl, HB.out 0⟩
        · have HE : Hid (¬ (T = T ∧ E = true)) := fun h => hV (HV.out.2 h.2)
          go_wp2
          refine ⟨⟨k + 1, by omega, by go_num, HNx.out HE.out⟩, ?_⟩
          simp only [Go.RowKit.intOf]
          omega
      · have hTt : ((T : Int) == (t : Int)) = false := by simp; omega
        have HE : Hid (¬ (T = t ∧ E = true)) := fun h => hT h.1
        go_wp2
        refine ⟨⟨k + 1, by omega, by go_num, HNx.out HE.out⟩, ?_⟩
        simp only [Go.RowKit.intOf]
        omega
    · obtain rfl : k = n := by omega
      have HE : Hid (endd L t = false) := endd_none (by rw [← HN.out]; exact HJ.out)
      go_wp2
      go_ret
      exact ⟨by rw [HE.out]; rfl, HB.out 0⟩

end Go.Proofs.YtejganpamidkmaaDoor
