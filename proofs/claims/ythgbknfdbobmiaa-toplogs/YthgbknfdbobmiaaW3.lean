/- This text proves what New of package undo lays, what Busy and Values tell, what isTurn says of a number, and what putBack stores; nothing else is turned; the condition is that the disk lies there. -/
import Derived.Test.YthgbknfdbobmiaaW1
import Derived.BigQuiet
import Derived.Deep.RegionHeld3
import Derived.Deep.WholeRow
import Derived.Deep.RegionLaw
import Derived.Stop.Asserts
namespace Go.Proofs.Ythgbknfdbobmiaa
open Go.RowKit Go.Deep

/-- Whose a block is, of any number. -/
def ownI (L : List Nt) (b : Int) : Int := if 0 ≤ b then own L b.toNat else -1
theorem ownI_nat (L : List Nt) (b : Nat) : ownI L (b : Int) = own L b := by unfold ownI; rw [if_pos (by omega), Int.toNat_natCast]
theorem ownI_out {d : Ud} (h : GoodU d) {b : Int} (hb : ¬ (0 ≤ b ∧ b < 8)) : ownI d.L b = -1 := by
  unfold ownI
  by_cases k : 0 ≤ b
  · rw [if_pos k]; exact own_out h (by omega)
  · rw [if_neg k]
theorem own_first {b : Nat} : ∀ {L : List Nt} {k : Nat}, k < L.length → (∀ j, j < k → (ntAt L j).b ≠ b) → (ntAt L k).b = b → own L b = ((ntAt L k).t : Int)
  | [], k, h, _, _ => absurd h (by simp)
  | x :: L, 0, _, _, h => by
    show (if x.b = b then (x.t : Int) else own L b) = _
    rw [if_pos (show x.b = b from h)]; rfl
  | x :: L, k + 1, hk, hj, h => by
    show (if x.b = b then (x.t : Int) else own L b) = _
    rw [if_neg (show ¬ x.b = b from hj 0 (by omega))]
    exact own_first (L := L) (k := k) (by simpa using hk) (fun j h2 => hj (j + 1) (by omega)) h
theorem ownI_first {L : List Nt} {b : Int} {k : Nat} (hk : k < L.length) (hj : ∀ j, j < k → ((ntAt L j).b : Int) ≠ b) (h : ((ntAt L k).b : Int) = b) : ownI L b = ((ntAt L k).t : Int) := by
  subst h
  rw [ownI_nat]
  exact own_first hk (fun j h2 e => hj j h2 (by rw [e])) rfl
theorem ownI_no {L : List Nt} {b : Int} (hj : ∀ j, j < L.length → ((ntAt L j).b : Int) ≠ b) : ownI L b = -1 := by
  unfold ownI
  by_cases k : 0 ≤ b
  · rw [if_pos k]
    refine own_none.2 fun x hx e => ?_
    obtain ⟨j, h1, rfl⟩ := List.mem_iff_getElem.1 hx
    refine hj j h1 ?_
    rw [ntAt_lt h1]
    omega
  · rw [if_neg k]

/-- What was told of all blocks, in a block of memory. -/
def VlU (w : World) (B : Nat) (H : Nat → Nat) : Prop := w.heap[B]? = some (.cells (celN H 8) 51 (0, 0))
theorem VlU.lt {w : World} {B : Nat} {H : Nat → Nat} (h : VlU w B H) : B < w.heap.size := (Array.getElem?_eq_some_iff.1 h).1
theorem VlU.later {w w' : World} {B : Nat} {H : Nat → Nat} (h : VlU w B H) (hb : Below w.heap.size w w') : VlU w' B H := (hb.block B h.lt).trans h
theorem VlU.stay {S : Nat → Prop} {w w' : World} {B : Nat} {H : Nat → Nat} (h : VlU w B H) (hs : Stay S w w') (hn : ¬ S B) : VlU w' B H := (hs.block B h.lt hn).trans h
theorem VlU.cell {w : World} {B : Nat} {H : Nat → Nat} (h : VlU w B H) {i : Nat} (hi : i < 8) : w.cell? ⟨B, i, none⟩ = some (.int .i64 (H i : Int)) := (cell_in h i).1.trans (celN_get hi)

theorem new_any (w : World) : Calls Try.prog 17 #[] w fun e w' => e = .returned (ptrU w.heap.size) ∧ UndoM w' w.heap.size w.heap.size (.slice none 0 0) ud0 ∧ Below w.heap.size w w' := by
  have HF : Hid (UndoM (w.alloc (.cells (udC ud0 (.slice none 0 0)) 62)) w.heap.size w.heap.size (.slice none 0 0) ud0) :=
    ⟨blk_alloc_new _ _, World.ownsRow_nil _ _ _ _, (fun e => by cases e), good0, Nat.le_refl _⟩
  go_enter Try.func17, Try.ntmps17
  go_wp2
  go_ret
  exact ⟨rfl, HF.out, below_one _ _⟩

theorem turn_any (w : World) (t : Int) : Calls Try.prog 30 #[.int .i64 t] w fun e w' => e = .returned (.bool (decide (0 ≤ t ∧ t < 20))) ∧ w' = w := by
  by_cases h1 : 0 ≤ t
  · by_cases h2 : t < 20
    · have h3 : decide (0 ≤ t ∧ t < 20) = true := by simp [h1, h2]
      rw [h3]
      go_enter Try.func30, Try.ntmps30
      go_wp2
      go_ret
      exact ⟨rfl, rfl⟩
    · have h3 : decide (0 ≤ t ∧ t < 20) = false := by simp; omega
      rw [h3]
      go_enter Try.func30, Try.ntmps30
      go_wp2
      go_ret
      exact ⟨rfl, rfl⟩
  · have h3 : decide (0 ≤ t ∧ t < 20) = false := by simp; omega
    rw [h3]
    go_enter Try.func30, Try.ntmps30
    go_wp2
    go_ret
    exact ⟨rfl, rfl⟩

set_option maxHeartbeats 2000000 in
set_option maxRecDepth 100000 in
theorem busy_any (w : World) (base g : Nat) (v : Value) (d : Ud) (h : UndoM w base g v d) (x : Int) :
    Calls Try.prog 31 #[ptrU g, .int .i64 x] w fun e w' => e = .returned (.int .i64 (ownI d.L x)) ∧ Below w.heap.size w w' := by
  obtain ⟨c8, _⟩ := h.facts
  obtain ⟨a, c, b, rfl, hm, ha, hb, hc⟩ := h.nts.where
  obtain ⟨n, hn⟩ : ∃ n, n = d.L.length := ⟨_, rfl⟩
  have HN : Hid (n = d.L.length) := hn
  rw [← hn] at hm ha hb c8
  unfold maxLen at hm
  have HC : Hid (∀ i, i < n → w.cell? ⟨b, i * 3, none⟩ = some (.int .i64 ((ntAt d.L i).t : Int)) ∧ w.cell? ⟨b, i * 3 + 1, none⟩ = some (.int .i64 ((ntAt d.L i).b : Int)) ∧ w.cell? ⟨b, i * 3 + 2, none⟩ = some (.int .i64 ((ntAt d.L i).w : Int))) := fun i hi => hc i (by omega)
  clear hc hn h
  unfold ptrU
  go_enter Try.func31, Try.ntmps31
  go_wp2
  go_loopw [12] (fun i wr => ∃ k : Nat, k ≤ n ∧ i = .int .i64 k ∧ Below w.heap.size w wr ∧ ∀ j, j < k → ((ntAt d.L j).b : Int) ≠ x) (fun i _ => n - (intOf i).toNat)
  case atStart => exact ⟨0, Nat.zero_le _, rfl, Below.refl _ _, fun j hj => absurd hj (Nat.not_lt_zero _)⟩
  case round =>
    obtain ⟨k, hk, rfl, hbr, hall⟩ := hrel
    have HL : Hid (∀ j, j < k → ((ntAt d.L j).b : Int) ≠ x) := hall
    have HBr : Hid (Below w.heap.size w wr) := hbr
    clear hall
    by_cases hlt : k < n
    · have haa := ha (by omega)
      subst haa
      obtain ⟨q0, q1, q2⟩ := HC.out k hlt
      have c0 : wr.cell? ⟨b, k * 3, none⟩ = some (.int .i64 ((ntAt d.L k).t : Int)) := by rw [hbr.cell (p := ⟨b, k * 3, none⟩) (hb (by omega))]; exact q0
      have c1 : wr.cell? ⟨b, k * 3 + 1, none⟩ = some (.int .i64 ((ntAt d.L k).b : Int)) := by rw [hbr.cell (p := ⟨b, k * 3 + 1, none⟩) (hb (by omega))]; exact q1
      have c2 : wr.cell? ⟨b, k * 3 + 2, none⟩ = some (.int .i64 ((ntAt d.L k).w : Int)) := by rw [hbr.cell (p := ⟨b, k * 3 + 2, none⟩) (hb (by omega))]; exact q2
      clear q0 q1 q2 hbr
      by_cases he : ((ntAt d.L k).b : Int) = x
      · have HR : Hid (ownI d.L x = ((ntAt d.L k).t : Int)) := ownI_first (by rw [← HN.out]; exact hlt) HL.out he
        rw [he] at c1
        generalize ((ntAt d.L k).t : Int) = T1 at c0 HR
        generalize ((ntAt d.L k).w : Int) = W1 at c2
        clear he
        go_wp2
        go_ret
        exact ⟨by rw [HR.out]; rfl, HBr.out.alloc HBr.out.size _⟩
      · have HLn : Hid (∀ j, j < k + 1 → ((ntAt d.L j).b : Int) ≠ x) := fun j hj => by
          by_cases e : j = k
          · subst e; exact he
          · exact HL.out j (by omega)
        have hne : (((ntAt d.L k).b : Int) == x) = false := by simp [he]
        generalize ((ntAt d.L k).t : Int) = T1 at c0
        generalize ((ntAt d.L k).b : Int) = B1 at c1 hne
        generalize ((ntAt d.L k).w : Int) = W1 at c2
        clear he
        go_wp2
        go_roundw
        case rel => exact ⟨k + 1, by omega, by go_num, HBr.out.alloc HBr.out.size _, HLn.out⟩
        case measure => simp [intOf]; omega
    · have hkn : k = n := by omega
      subst hkn
      have HR : Hid (ownI d.L x = -1) := ownI_no (by rw [← HN.out]; exact HL.out)
      clear hbr
      go_wp2
      go_ret
      exact ⟨by rw [HR.out]; rfl, HBr.out⟩

set_option maxHeartbeats 1000000 in
theorem values_any (w : World) (base g : Nat) (v : Value) (d : Ud) (h : UndoM w base g v d) :
    Calls Try.prog 25 #[ptrU g] w fun e w' => e = .returned (.slice (some ⟨w.heap.size, 0, none⟩) 8 8) ∧ VlU w' w.heap.size d.H ∧ Below w.heap.size w w' := by
  have k0 := (h.val (i := 0) (by decide)).1
  have k1 := (h.val (i := 1) (by decide)).1
  have k2 := (h.val (i := 2) (by decide)).1
  have k3 := (h.val (i := 3) (by decide)).1
  have k4 := (h.val (i := 4) (by decide)).1
  have k5 := (h.val (i := 5) (by decide)).1
  have k6 := (h.val (i := 6) (by decide)).1
  have k7 := (h.val (i := 7) (by decide)).1
  have HV : Hid (∀ q0 q1 q2 q3 q4 q5 q6 q7, q0 = (d.H 0 : Int) → q1 = (d.H 1 : Int) → q2 = (d.H 2 : Int) → q3 = (d.H 3 : Int) → q4 = (d.H 4 : Int) → q5 = (d.H 5 : Int) → q6 = (d.H 6 : Int) → q7 = (d.H 7 : Int) →
      VlU (w.alloc (.cells #[.int .i64 q0, .int .i64 q1, .int .i64 q2, .int .i64 q3, .int .i64 q4, .int .i64 q5, .int .i64 q6, .int .i64 q7] 51)) w.heap.size d.H) := by
    rintro _ _ _ _ _ _ _ _ rfl rfl rfl rfl rfl rfl rfl rfl
    unfold VlU
    rw [celN8]
    exact blk_alloc_new _ _
  clear h
  unfold ptrU
  go_enter Try.func25, Try.ntmps25
  go_wp2
  go_ret
  exact ⟨rfl, HV.out _ _ _ _ _ _ _ _ rfl rfl rfl rfl rfl rfl rfl rfl, below_one _ _⟩

set_option maxHeartbeats 1000000 in
set_option maxRecDepth 100000 in
theorem putback_any (w : World) (base g : Nat) (v : Value) (d : Ud) (h : UndoM w base g v d) (t b x : Nat) (hb : b < 8) :
    Calls Try.prog 35 #[ptrU g, .agg #[.int .i64 (t : Int), .int .i64 (b : Int), .int .i64 (x : Int)]] w fun e w' => e = .returned (.tuple #[]) ∧ UndoM w' base g v ⟨putV d.H b x, d.L⟩ ∧ Stay (fun y => y = g) w w' := by
  have hbo := below_one w (.cells #[.int .i64 (t : Int), .int .i64 (b : Int), .int .i64 (x : Int)] 69)
  have hm := (h.later hbo).later (below_drew1 _ _)
  have HF : Hid (UndoM ((w.alloc (.cells #[.int .i64 (t : Int), .int .i64 (b : Int), .int .i64 (x : Int)] 69)).drew.setCell ⟨g, b, none⟩ (.int .i64 (x : Int))) base g v ⟨putV d.H b x, d.L⟩) := hm.put hb x
  have HS : Hid (Stay (fun y => y = g) w ((w.alloc (.cells #[.int .i64 (t : Int), .int .i64 (b : Int), .int .i64 (x : Int)] 69)).drew.setCell ⟨g, b, none⟩ (.int .i64 (x : Int)))) := ((Stay.of hbo).trans (Stay.drew _ _)).trans (Stay.set _ _ rfl)
  have hgl := h.lt
  obtain ⟨y, hy⟩ : ∃ y, (d.H b : Int) = y := ⟨_, rfl⟩
  obtain ⟨f1, f2⟩ := (h.later hbo).val hb
  rw [hy] at f1
  have p0 : (w.alloc (.cells #[.int .i64 (t : Int), .int .i64 (b : Int), .int .i64 (x : Int)] 69)).cell? ⟨w.heap.size, 1, none⟩ = some (.int .i64 (b : Int)) := cell_new _ _ _ _
  have p1 : (w.alloc (.cells #[.int .i64 (t : Int), .int .i64 (b : Int), .int .i64 (x : Int)] 69)).cell? ⟨w.heap.size, 2, none⟩ = some (.int .i64 (x : Int)) := cell_new _ _ _ _
  clear h hbo hm hy
  unfold ptrU
  go_enter Try.func35, Try.ntmps35
  go_wp2_with fail
  generalize w.alloc _ = W1 at *
  generalize w.heap.size = P at *
  go_region
  go_wp2
  go_end0
  exact ⟨rfl, HF.out, HS.out⟩

end Go.Proofs.Ythgbknfdbobmiaa
