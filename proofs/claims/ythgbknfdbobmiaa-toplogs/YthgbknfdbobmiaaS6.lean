/- This text proves that the law's closed fact on shadows holds, and what beside returns: a disk in memory of its own; old memory is as it was; the condition is that the steps' rows lie there. -/
import Derived.Test.YthgbknfdbobmiaaS5
import Derived.Test.YthgbknfdbobmiaaLj
import Derived.Test.YthgbknfdbobmiaaIn3
import Derived.Deep.RegionWith
namespace Go.Proofs.Ythgbknfdbobmiaa
open Go.RowKit Go.Deep

theorem eqB_is (xs : List Int) : eqB xs xs = true := by simp [eqB]
/-- A disk in memory that was made behind a world, whose memory is as it was. -/
structure OnS (w wr : World) (g : Nat) (C : Nat → Int) : Prop where
  disk : ShaM wr w.heap.size g C
  old : Below w.heap.size w wr
theorem OnS.later {w wr w' : World} {g : Nat} {C : Nat → Int} (h : OnS w wr g C) (hb : Below wr.heap.size wr w') : OnS w w' g C := ⟨h.disk.later hb, h.old.trans (hb.mono h.old.size)⟩
theorem OnS.step {w wr w' : World} {g : Nat} {C D : Nat → Int} (h : OnS w wr g C) (hs : TurnS wr w' w.heap.size g D) : OnS w w' g D :=
  ⟨hs.disk, h.old.trans (hs.stay.below (fun _ hx => by subst hx; exact h.disk.low) h.old.size)⟩
/-- Numbers that were told lie in memory, and a disk elsewhere. -/
structure SeenS (w : World) (g B : Nat) (F : Nat → Int) : Prop where
  at' : VlI w B F
  ap : B ≠ g
theorem SeenS.step {w w' : World} {base g B : Nat} {D F : Nat → Int} (h : SeenS w g B F) (hs : TurnS w w' base g D) : SeenS w' g B F := ⟨h.at'.stay hs.stay h.ap, h.ap⟩
theorem SeenS.later {w w' : World} {g B : Nat} {F : Nat → Int} (h : SeenS w g B F) (hb : Below w.heap.size w w') : SeenS w' g B F := ⟨h.at'.later hb, h.ap⟩
theorem SeenS.new {w w' : World} {base g B : Nat} {C F : Nat → Int} (h : ShaM w base g C) (hv : VlI w' B F) (hB : w.heap.size ≤ B) : SeenS w' g B F := ⟨hv, fun e => by subst e; have := h.lt; omega⟩

/-- Two lists of eight numbers that are the same. -/
theorem sameS_any (w : World) (A B : Nat) (F G : Nat → Int) (hA : VlI w A F) (hB : VlI w B G) (e : ∀ i, i < 8 → F i = G i) :
    Calls Try.prog 11 #[.slice (some ⟨A, 0, none⟩) 8 8, .slice (some ⟨B, 0, none⟩) 8 8] w fun e w' => e = .returned (.bool true) ∧ Below w.heap.size w w' := by
  have h2 := hB.is
  rw [← lsI_same e] at h2
  have H1 := ints_any w _ _ _ _ hA.is h2
  rw [eqB_is] at H1
  refine H1.mono ?_
  rintro e w' ⟨rfl, q, rfl⟩
  exact ⟨rfl, below_drew _ _ _⟩

theorem fS_at : toS sh0 3 7 = 0 := by decide
theorem fS_er : erS 3 7 = 0 := by decide
theorem fS_now : vlS (noS sh0 3 7) 24 3 = 7 := by decide
theorem fS_old : vlS (noS sh0 3 7) 16 3 = 0 := by decide
theorem fS_end : cnS (noS sh0 3 7) 8 = 1 := by decide

set_option maxHeartbeats 4000000 in
set_option maxRecDepth 100000 in
theorem factS_any (w : World) : Calls Try.prog 7 #[] w fun e w' => e = .returned (.bool true) ∧ Below w.heap.size w w' := by
  go_enter Try.func7, Try.ntmps7
  go_wp2_with fail
  refine (new_shadow _).mono ?_
  rintro e w1 ⟨g, rfl, hT, hb⟩
  have S1 : Hid (OnS w w1 g sh0) := ⟨hT, hb⟩
  clear hT hb
  go_wp2_with fail
  refine (writeS_any w1 _ _ _ S1.out.disk 3 7).mono ?_
  rintro e w2 ⟨rfl, hst⟩
  rw [fS_at, fS_er, errV_zero]
  have S2 : Hid (OnS w w2 g (noS sh0 3 7)) := S1.out.step hst
  clear hst
  go_wp2_with fail
  refine (valuesS_any w2 _ _ _ S2.out.disk).mono ?_
  rintro e w3 ⟨A, B, rfl, hA, hB, hb, hA1, hB1⟩
  have S3 : Hid (OnS w w3 g (noS sh0 3 7)) := S2.out.later hb
  have a3 : w3.cell? ⟨A, 3, none⟩ = some (.int .i64 7) := by have := hA.cell (i := 3) (by decide); rw [fS_now] at this; exact this
  have b3 : w3.cell? ⟨B, 3, none⟩ = some (.int .i64 0) := by have := hB.cell (i := 3) (by decide); rw [fS_old] at this; exact this
  have HE : Hid _ := fun (_ : Nat) => endS_any w3 _ _ _ S3.out.disk
  rw [fS_end] at HE
  clear hA hB hb hA1 hB1
  go_wp2_with (go_at_call 13; refine (HE.out 0).mono ?_; rintro e w4 ⟨rfl, hst⟩; have S4 : Hid (OnS w w4 g _) := S3.out.step hst; clear hst)
  go_ret
  exact ⟨rfl, S4.out.old⟩

set_option maxHeartbeats 8000000 in
set_option maxRecDepth 100000 in
theorem beside_any (w : World) (v : Value) (rs : List (List Int)) (hr : RowsIs w v rs) :
    Calls Try.prog 8 #[v] w fun e w' => ∃ g C, e = .returned (ptrS g) ∧ OnS w w' g C := by
  have HR : Hid (RowsIs w v rs) := hr
  obtain ⟨a, c, hv, hl, _⟩ := hr
  obtain ⟨n, hn⟩ : ∃ n, n = rs.length := ⟨_, rfl⟩
  rw [← hn] at hv hl
  unfold maxLen at hl
  subst hv
  clear hn
  go_enter Try.func8, Try.ntmps8
  go_wp2_with fail
  refine (new_shadow _).mono ?_
  rintro e w1 ⟨g, rfl, hT, hb⟩
  have HS0 : Hid (OnS w w1 g sh0) := ⟨hT, hb⟩
  clear hT hb
  unfold ptrS
  go_wp2
  go_loopw [4] (fun i wr => ∃ k C, k ≤ n ∧ k ≤ 60 ∧ i = .int .i64 ((k : Nat) : Int) ∧ OnS w wr g C) (fun i _ => 60 - (Go.RowKit.intOf i).toNat)
  case atStart => exact ⟨0, _, Nat.zero_le _, by omega, rfl, HS0.out⟩
  case round =>
    obtain ⟨k, C, hkn, hk, rfl, hst⟩ := hrel
    have ST : Hid (OnS w wr g C) := hst
    clear hst HS0
    by_cases hlt : k < n
    · have hl1 : (k : Int) < (n : Int) := by omega
      by_cases hs : k < 60
      · have hs1 : (k : Int) < 60 := by omega
        obtain ⟨b, o, vk, ha, hbs, hck, hsk⟩ := HR.out.row k hlt
        subst ha
        have hc0 : wr.cell? ⟨b, o + k, none⟩ = some vk := by rw [ST.out.old.cell (p := ⟨b, o + k, none⟩) hbs]; exact hck
        clear hck
        obtain ⟨z, hz⟩ : ∃ z, (rowAt rs k).length = z := ⟨_, rfl⟩
        by_cases h2 : z = 2
        · subst h2
          obtain ⟨b1, o1, c1, rfl, hb1, hx⟩ := row_cells hsk hz (by omega)
          have HXs : Hid (∀ w2, Below w.heap.size w w2 → w2.cell? ⟨b, o + k, none⟩ = some (.slice (some ⟨b1, o1, none⟩) 2 c1) ∧ w2.cell? ⟨b1, o1, none⟩ = some (.int .i64 (nth (rowAt rs k) 0)) ∧ w2.cell? ⟨b1, o1 + 1, none⟩ = some (.int .i64 (nth (rowAt rs k) 1))) := fun w2 h =>
            ⟨by rw [h.cell (p := ⟨b, o + k, none⟩) hbs, ← ST.out.old.cell (p := ⟨b, o + k, none⟩) hbs]; exact hc0, by rw [h.cell (p := ⟨b1, o1, none⟩) hb1]; exact hx 0 (by omega), by rw [h.cell (p := ⟨b1, o1 + 1, none⟩) hb1]; exact hx 1 (by omega)⟩
          have STd : Hid (OnS w wr.drew g C) := ST.out.later (below_drew1 _ _)
          have HWr : Hid _ := fun (_ : Nat) => writeS_any wr.drew w.heap.size g C STd.out.disk (nth (rowAt rs k) 0) (nth (rowAt rs k) 1)
          unfold ptrS at HWr
          generalize nth (rowAt rs k) 0 = X0 at HXs HWr
          generalize nth (rowAt rs k) 1 = X1 at HXs HWr
          obtain ⟨_, x0, x1⟩ := HXs.out wr ST.out.old
          clear hx hsk hz
          go_wp2_with fail
          go_region_held3 (fun w' => w'.cell? ⟨b, o + k, none⟩ = some (.slice (some ⟨b1, o1, none⟩) 2 c1) ∧ w'.cell? ⟨b1, o1, none⟩ = some (.int .i64 X0) ∧ w'.cell? ⟨b1, o1 + 1, none⟩ = some (.int .i64 X1))
            (first | (go_split_ands; exact HXs.out _ ST2.out.old) | go_keep)
            (first | (go_at_call 10; refine (HWr.out 0).mono ?_; rintro e w2 ⟨rfl, hst2⟩; have ST2 : Hid (OnS w w2 g (noS C X0 X1)) := STd.out.step hst2; clear hst2))
          go_wp2
          go_roundw
          case rel => exact ⟨k + 1, _, by omega, by omega, by go_num, ST2.out⟩
          case measure => simp [Go.RowKit.intOf]; omega
        · obtain ⟨a1, c1, hv1, _, _⟩ := hsk
          rw [hz] at hv1
          subst hv1
          have b2 : ((z : Int) == 2) = false := by simp; omega
          by_cases h1 : z = 1
          · subst h1
            have HE : Hid _ := fun (_ : Nat) => endS_any wr w.heap.size g C ST.out.disk
            unfold ptrS at HE
            clear hz
            go_wp2_with (go_at_call 13; refine (HE.out 0).mono ?_; rintro e w2 ⟨rfl, hst2⟩; have ST2 : Hid (OnS w w2 g (endS C)) := ST.out.step hst2; clear hst2)
            go_roundw
            case rel => exact ⟨k + 1, _, by omega, by omega, by go_num, ST2.out⟩
            case measure => simp [Go.RowKit.intOf]; omega
          · have b1 : ((z : Int) == 1) = false := by simp; omega
            clear hz
            go_wp2
            go_roundw
            case rel => exact ⟨k + 1, C, by omega, by omega, by go_num, ST.out⟩
            case measure => simp [Go.RowKit.intOf]; omega
      · have hs1 : ¬ (k : Int) < 60 := by omega
        go_wp2
        go_ret
        exact ⟨g, rfl, C, ST.out⟩
    · have hl1 : ¬ (k : Int) < (n : Int) := by omega
      go_wp2
      go_ret
      exact ⟨g, rfl, C, ST.out⟩

end Go.Proofs.Ythgbknfdbobmiaa
