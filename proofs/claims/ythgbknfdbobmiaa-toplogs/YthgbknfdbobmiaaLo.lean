/- This text proves plain facts on lists of numbers that the call itself lays in memory; it speaks of no call; no condition. -/
import Derived.Test.YthgbknfdbobmiaaChecked
import Derived.Test.YthgbknfdbobmiaaWh
import Derived.OwnWalk
import Derived.Deep.QuietTactic
import Derived.BigQuiet
namespace Go.Proofs.Ythgbknfdbobmiaa
open Go.RowKit Go.Deep

theorem Try.info3 : (Try.prog.info? 3).map (fun i => (i.zero, i.size, i.bytes)) = some (some (.int .i64 0), 1, 8) := by kernel_rfl

theorem addr_at (g j : Nat) : (⟨g, 0, none⟩ : Addr).add j = ⟨g, j, none⟩ := by
  unfold Addr.add
  split
  · simp_all
  · simp

theorem addr_off (g o j : Nat) : (⟨g, o, none⟩ : Addr).add j = ⟨g, o + j, none⟩ := by
  unfold Addr.add
  split
  · simp_all
  · simp

theorem cell_new (w : World) (c : Array Value) (t : TypeId) (j : Nat) : (w.alloc (.cells c t)).cell? ⟨w.heap.size, j, none⟩ = c[j]? := by
  have h : (w.alloc (.cells c t)).heap[w.heap.size]? = some (.cells c t (0, 0)) := blk_alloc_new _ _
  simp only [World.cell?, h]
  rfl

theorem ints_lit (w : World) (xs : List Int) (hm : xs.length ≤ maxLen) (cap : Nat) :
    SliceIs (w.alloc (.cells (xs.map fun x => Value.int .i64 x).toArray 3)) (.slice (some ⟨w.heap.size, 0, none⟩) xs.length cap) xs := by
  refine ⟨_, cap, rfl, hm, fun _ => ⟨w.heap.size, 0, rfl, by simp, fun i hi => ?_⟩⟩
  rw [Nat.zero_add, cell_new, nth_lt hi]
  simp [hi]

theorem below_alloc (w : World) (o : Obj) : Below w.heap.size w (w.alloc o) := (Below.refl _ _).alloc (Nat.le_refl _) _
theorem below_drew (w : World) (B q : Nat) : Below B w (w.drewN q) := ⟨rfl, rfl, rfl, Nat.le_refl _, fun _ _ => rfl⟩

theorem nth_set {xs : List Int} {k : Nat} (hk : k < xs.length) (x : Int) (i : Nat) : nth (xs.set k x) i = if i = k then x else nth xs i := by
  by_cases hi : i < xs.length
  · rw [nth_lt (by simpa using hi), List.getElem_set]
    by_cases e : i = k
    · subst e; simp
    · rw [if_neg (fun h => e h.symm), if_neg e, nth_lt hi]
  · rw [if_neg (by omega)]
    unfold nth
    simp [List.getD, Nat.not_lt.1 hi]

def cellsOf (xs : List Int) : List Value := xs.map fun x => .int .i64 x

theorem cellsOf_len (xs : List Int) : (cellsOf xs).length = xs.length := by simp [cellsOf]
theorem cellsOf_one (xs : List Int) : ∀ u ∈ cellsOf xs, u.oneCell' = true := by
  intro u hu
  obtain ⟨x, _, rfl⟩ := List.mem_map.1 hu
  rfl
theorem cellsOf_get {xs : List Int} {i : Nat} (h : i < xs.length) : (cellsOf xs)[i]? = some (.int .i64 (nth xs i)) := by
  simp [cellsOf, h, nth_lt h]
theorem cellsOf_set (xs : List Int) (k : Nat) (x : Int) : (cellsOf xs).set k (.int .i64 x) = cellsOf (xs.set k x) := by simp [cellsOf, List.map_set]
theorem cellsOf_snoc (xs : List Int) (x : Int) : cellsOf xs ++ [.int .i64 x] = cellsOf (xs ++ [x]) := by simp [cellsOf]

/-- A slice's cells, as an append reads them. -/
theorem cells_read {w : World} {b o : Nat} {xs : List Int} (hc : ∀ i, i < xs.length → w.cell? ⟨b, o + i, none⟩ = some (.int .i64 (nth xs i))) : ∀ j u, (cellsOf xs)[j]? = some u → w.cell? ((⟨b, o, none⟩ : Addr).add j) = some u := by
  intro j u hj
  have hl : j < xs.length := by have := (List.getElem?_eq_some_iff.1 hj).1; rwa [cellsOf_len] at this
  rw [cellsOf_get hl] at hj
  rw [addr_off, hc j hl]
  exact hj

theorem slice_owned {w : World} {base g n cap : Nat} {xs : List Int} (h : w.ownsRow base 3 1 (.slice (some ⟨g, 0, none⟩) n cap) n (cellsOf xs)) (hm : n ≤ maxLen) (hg : g < w.heap.size) : SliceIs w (.slice (some ⟨g, 0, none⟩) n cap) xs := by
  have hl : xs.length = n := by have := h.1; rw [cellsOf_len] at this; omega
  refine ⟨_, cap, by rw [hl], by rw [hl]; exact hm, fun _ => ⟨g, 0, rfl, hg, fun i hi => ?_⟩⟩
  rw [Nat.zero_add, h.cellAt i (by omega), cellsOf_get hi]

theorem own_where {w : World} {base e n : Nat} {v : Value} {vs : List Value} (h : w.ownsRow base e 1 v n vs) (hn : 0 < n) : ∃ g cap, v = .slice (some ⟨g, 0, none⟩) n cap ∧ base ≤ g ∧ g < w.heap.size := by
  rcases h.2 with ⟨_, h0⟩ | ⟨g, cap, cur, h1, h2, h3, _⟩
  · omega
  · exact ⟨g, cap, h1, h2, (Array.getElem?_eq_some_iff.1 h3).1⟩

/-- A list of the call's own, empty or not, as a slice. -/
theorem slice_own {w : World} {base n : Nat} {v : Value} {xs : List Int} (h : w.ownsRow base 3 1 v n (cellsOf xs)) (hm : n ≤ maxLen) : SliceIs w v xs := by
  have hl : xs.length = n := by have := h.1; rw [cellsOf_len] at this; omega
  rcases h.2 with ⟨h0, h1⟩ | ⟨g, cap, cur, h1, h2, h3, _⟩
  · subst h0
    obtain rfl : xs = [] := List.length_eq_zero_iff.1 (by omega)
    exact ⟨none, 0, rfl, Nat.zero_le _, fun h => absurd rfl h⟩
  · subst h1
    exact slice_owned h hm (Array.getElem?_eq_some_iff.1 h3).1

/-- The first n numbers of a function, as a slice holds them. -/
def fl (n : Nat) (f : Nat → Nat) : List Int := (List.range n).map fun i => ((f i : Nat) : Int)

theorem fl_len (n : Nat) (f : Nat → Nat) : (fl n f).length = n := by simp [fl]
theorem fl_nth {n i : Nat} {f : Nat → Nat} (h : i < n) : nth (fl n f) i = (f i : Int) := by
  rw [nth_lt (by rw [fl_len]; exact h)]; simp [fl]
theorem fl_snoc (n : Nat) (f : Nat → Nat) : fl n f ++ [((f n : Nat) : Int)] = fl (n + 1) f := by simp [fl, List.range_succ]

end Go.Proofs.Ythgbknfdbobmiaa
