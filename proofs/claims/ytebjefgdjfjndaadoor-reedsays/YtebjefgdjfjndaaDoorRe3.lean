/- This text proves what reed.firstThere answers: the first so many that are there, with their numbers, in new memory; the only condition is that the slice lies there. -/
import Derived.Test.YtebjefgdjfjndaaDoorRe2
import Derived.OwnWalk
namespace Go.Proofs.YtebjefgdjfjndaaDoor
open Go.RowKit Go.Deep

theorem Tryd.info50 : (Tryd.prog.info? 50).map (fun i => (i.zero, i.size, i.bytes)) = some (some (.agg #[.int .i64 0, .int .i64 0]), 2, 16) := by kernel_rfl

/-- The cells of points: each place and the shard that is there. -/
def ptc (xs : List Int) : List Nat → List Value
  | [] => []
  | i :: l => .int .i64 (i : Int) :: .int .i64 (nth xs i) :: ptc xs l

theorem ptc_len (xs : List Int) : ∀ l, (ptc xs l).length = l.length * 2
  | [] => rfl
  | i :: l => by simp only [ptc, List.length_cons, ptc_len xs l]; omega
theorem ptc_snoc (xs : List Int) (k : Nat) : ∀ l, ptc xs l ++ [.int .i64 (k : Int), .int .i64 (nth xs k)] = ptc xs (l ++ [k])
  | [] => rfl
  | i :: l => by simp only [ptc, List.cons_append, ptc_snoc xs k l]
theorem ptc_one (xs : List Int) : ∀ l, ∀ u ∈ ptc xs l, u.oneCell' = true
  | [], u, h => by simp [ptc] at h
  | i :: l, u, h => by
    simp only [ptc, List.mem_cons] at h
    rcases h with rfl | rfl | h
    · rfl
    · rfl
    · exact ptc_one xs l u h
theorem ptc_even (xs : List Int) : ∀ (l : List Nat) (i : Nat), i < l.length → (ptc xs l)[2 * i]? = some (.int .i64 (l.getD i 0 : Nat)) ∧ (ptc xs l)[2 * i + 1]? = some (.int .i64 (nth xs (l.getD i 0)))
  | [], i, h => by simp at h
  | j :: l, 0, _ => by simp [ptc]
  | j :: l, i + 1, h => by
    have := ptc_even xs l i (by simpa using h)
    simp only [ptc, show 2 * (i + 1) = 2 * i + 1 + 1 by omega, List.getElem?_cons_succ, List.getD_cons_succ]
    exact this

/-- The value is a slice of points: these places and what is there. -/
def PointsIs (w : World) (v : Value) (xs : List Int) (l : List Nat) : Prop :=
  ∃ g cap, v = .slice (some ⟨g, 0, none⟩) l.length cap ∧ g < w.heap.size ∧ ∀ i, i < l.length → w.cell? ⟨g, 2 * i, none⟩ = some (.int .i64 (l.getD i 0 : Nat)) ∧ w.cell? ⟨g, 2 * i + 1, none⟩ = some (.int .i64 (nth xs (l.getD i 0)))

theorem addr_at (g j : Nat) : (⟨g, 0, none⟩ : Addr).add j = ⟨g, j, none⟩ := by
  unfold Addr.add
  split
  · simp_all
  · simp

theorem cell_new (w : World) (c : Array Value) (t : TypeId) (j : Nat) : (w.alloc (.cells c t)).cell? ⟨w.heap.size, j, none⟩ = c[j]? := by
  have h : (w.alloc (.cells c t)).heap[w.heap.size]? = some (.cells c t (0, 0)) := blk_alloc_new _ _
  simp only [World.cell?, h]
  rfl

theorem points_own {w : World} {base g n cap : Nat} {xs : List Int} {l : List Nat} (h : w.ownsRow base 50 2 (.slice (some ⟨g, 0, none⟩) n cap) n (ptc xs l)) (hl : l.length = n) (hg : g < w.heap.size) : PointsIs w (.slice (some ⟨g, 0, none⟩) n cap) xs l := by
  refine ⟨g, cap, by rw [hl], hg, fun i hi => ?_⟩
  have h1 := ptc_even xs l i hi
  have h2 := h.cells (g := g) rfl (2 * i) _ h1.1
  have h3 := h.cells (g := g) rfl (2 * i + 1) _ h1.2
  rw [addr_at] at h2 h3
  exact ⟨h2, h3⟩

theorem PointsIs.later {w w' : World} {v : Value} {xs : List Int} {l : List Nat} (h : PointsIs w v xs l) (hb : Below w.heap.size w w') : PointsIs w' v xs l := by
  obtain ⟨g, cap, hv, hg, hc⟩ := h
  refine ⟨g, cap, hv, Nat.lt_of_lt_of_le hg hb.size, fun i hi => ?_⟩
  have := hc i hi
  exact ⟨by rw [hb.cell (p := ⟨g, 2 * i, none⟩) hg]; exact this.1, by rw [hb.cell (p := ⟨g, 2 * i + 1, none⟩) hg]; exact this.2⟩

/-- Is there a shard? -/
def thereB (xs : List Int) (i : Nat) : Bool := !decide (nth xs i = -1)

set_option maxHeartbeats 4000000 in
set_option maxRecDepth 100000 in
theorem firstThere_any (w : World) (v : Value) (xs : List Int) (many : Nat) (hx : SliceIs w v xs) (hn : xs.length ≤ 16) (hm : many ≤ 16) :
    Calls Tryd.prog 22 #[v, .int .i64 (many : Int)] w fun e w' => ∃ v', e = .returned v' ∧ PointsIs w' v' xs (fst (thereB xs) many xs.length) ∧ Below w.heap.size w w' := by
  obtain ⟨a, c, b, o, hv, _, ha, hb, hc⟩ : ∃ a c b o, v = .slice a xs.length c ∧ xs.length ≤ maxLen ∧ (0 < xs.length → a = some ⟨b, o, none⟩) ∧ (0 < xs.length → b < w.heap.size) ∧ ∀ i, i < xs.length → w.cell? ⟨b, o + i, none⟩ = some (.int .i64 (nth xs i)) := by
    obtain ⟨a, c, hv, hl, hx⟩ := hx
    by_cases hne : xs = []
    · exact ⟨a, c, 0, 0, hv, hl, fun h => by rw [hne] at h; simp at h, fun h => by rw [hne] at h; simp at h, fun i hi => by rw [hne] at hi; simp at hi⟩
    · obtain ⟨b, o, h1, h2, h3⟩ := hx hne
      exact ⟨a, c, b, o, hv, hl, fun _ => h1, fun _ => h2, h3⟩
  subst hv
  obtain ⟨n, hxn⟩ : ∃ n, n = xs.length := ⟨_, rfl⟩
  have HX : Hid (n = xs.length) := hxn
  rw [← hxn] at hn ha hb hc ⊢
  have HC : Hid (∀ i, i < n → w.cell? ⟨b, o + i, none⟩ = some (.int .i64 (nth xs i))) := hc
  have HB0 : Hid (0 < n → b < w.heap.size) := hb
  clear hx hc hb hxn
  obtain ⟨ti, hti, hz0, hz1, hz2⟩ := info_parts Tryd.info50
  go_enter Tryd.func22, Tryd.ntmps22
  go_wp2_with (at_make; refine wpList_make_own _ rfl _ _ 42 rfl w.heap.size 50 ti (.agg #[.int .i64 0, .int .i64 0]) 2 Tryd.underlying42 hti hz0 hz1 _ _ _ many rfl rfl rfl ?b1 ?b2 ?b3 ?b4)
  case b1 => rw [hz2]; omega
  case b2 => unfold maxLen; omega
  case b3 => exact Nat.le_refl _
  case b4 =>
    intro w1 hown hgr
    have HO : Hid (w1.ownsRow w.heap.size 50 2 (.slice (some ⟨w.heap.size, 0, none⟩) 0 many) 0 []) := hown
    have HB : Hid (Below w.heap.size w w1) := (Below.refl _ _).grown hgr (Nat.le_refl _) (fun k e => by cases e)
    clear hown hgr
    go_wp2
    go_loopw [5, 12] (fun p i wr => ∃ k m : Nat, k ≤ n ∧ i = .int .i64 k ∧ m ≤ many ∧ m = (fst (thereB xs) many k).length ∧ p = .slice (some ⟨w.heap.size, 0, none⟩) m many ∧
        wr.ownsRow w.heap.size 50 2 (.slice (some ⟨w.heap.size, 0, none⟩) m many) m (ptc xs (fst (thereB xs) many k)) ∧ Below w.heap.size w wr) (fun _ i _ => n - (intOf i).toNat)
    case atStart => exact ⟨0, 0, Nat.zero_le _, rfl, Nat.zero_le _, rfl, rfl, HO.out, HB.out⟩
    case round =>
      obtain ⟨k, m, hk, rfl, hmm, hml, rfl, hown, hbel⟩ := hrel
      have HO1 : Hid (wr.ownsRow w.heap.size 50 2 (.slice (some ⟨w.heap.size, 0, none⟩) m many) m (ptc xs (fst (thereB xs) many k))) := hown
      have HB1 : Hid (Below w.heap.size w wr) := hbel
      have HL : Hid (m = (fst (thereB xs) many k).length) := hml
      clear hown hbel hml HO HB
      by_cases hlt : k < n
      · have haa := ha (by omega)
        subst haa
        clear ha
        have h1 : wr.cell? ⟨b, o + k, none⟩ = some (.int .i64 (nth xs k)) := by rw [HB1.out.cell (p := ⟨b, o + k, none⟩) (HB0.out (by omega))]; exact HC.out k hlt
        by_cases ht : nth xs k = -1
        · have HN : Hid (fst (thereB xs) many (k + 1) = fst (thereB xs) many k) := fst_no (.inl (by unfold thereB; simp [ht]))
          rw [ht] at h1
          clear ht
          go_wp2
          go_roundw
          case rel => exact ⟨k + 1, m, by omega, by go_num, hmm, by rw [HN.out]; exact HL.out, rfl, by rw [HN.out]; exact HO1.out, HB1.out⟩
          case measure => simp [intOf]; omega
        · by_cases hfull : m < many
          · have HN : Hid (fst (thereB xs) many (k + 1) = fst (thereB xs) many k ++ [k]) := fst_yes (by unfold thereB; simp [ht]) (by rw [← HL.out]; exact hfull)
            have hfull' : (m : Int) < (many : Int) := by omega
            go_wp2_with (at_builtin; refine wpList_append_fits _ rfl (.tmp 25) (.tmp 29) 42 rfl w.heap.size 50 ti 2 Tryd.underlying42 hti hz1 w.heap.size m many (ptc xs (fst (thereB xs) many k)) rfl (HO1.out.alloc _) ⟨wr.heap.size, 0, none⟩ 1 1 [.int .i64 (k : Int), .int .i64 (nth xs k)] rfl ?q1 ?q2 ?q3 ?q4 ?q5)
            case q5 =>
              intro w3 hown hgr
              have HO3 : Hid (w3.ownsRow w.heap.size 50 2 (.slice (some ⟨w.heap.size, 0, none⟩) (m + 1) many) (m + 1) (ptc xs (fst (thereB xs) many (k + 1)))) := by
                rw [ptc_snoc, ← HN.out] at hown
                exact hown
              have HB3 : Hid (Below w.heap.size w w3) := (HB1.out.alloc HB1.out.size _).grown hgr (by simp; have := HB1.out.size; omega) (fun k e => by cases e; exact Nat.le_refl _)
              clear hown hgr
              go_wp2
              go_roundw
              case rel => exact ⟨k + 1, m + 1, by omega, by go_num, hfull, by rw [HN.out, List.length_append, ← HL.out]; rfl, rfl, HO3.out, HB3.out⟩
              case measure => simp [intOf]; omega
            case q1 => rfl
            case q2 =>
              intro j u hj
              rw [addr_at, cell_new]
              simpa using hj
            case q3 => exact fun u hu => ptc_one xs [k] u hu
            case q4 => omega
          · have HN : Hid (fst (thereB xs) many (k + 1) = fst (thereB xs) many k) := fst_no (.inr (by rw [← HL.out]; exact hfull))
            have hfull' : ¬ (m : Int) < (many : Int) := by omega
            go_wp2
            go_roundw
            case rel => exact ⟨k + 1, m, by omega, by go_num, hmm, by rw [HN.out]; exact HL.out, rfl, by rw [HN.out]; exact HO1.out, HB1.out⟩
            case measure => simp [intOf]; omega
      · have hkn : k = n := by omega
        subst hkn
        go_wp2
        go_ret
        exact ⟨_, rfl, points_own HO1.out HL.out.symm (HO1.out.lt _ rfl).2, HB1.out⟩

end Go.Proofs.YtebjefgdjfjndaaDoor
