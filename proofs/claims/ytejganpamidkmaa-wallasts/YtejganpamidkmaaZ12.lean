/- This text says what it means that values which were told lie in memory beside a disk, and proves that the law's closed fact on logs holds: walFact returns true; old memory is as it was; no condition. -/
import Derived.Test.YtejganpamidkmaaZ11
import Derived.Test.YtejganpamidkmaaIn2
namespace Go.Proofs.Ytejganpamidkmaa
open Go.RowKit Go.Deep Go.Maps

/-- Values as a list. -/
def lst (H : Nat → Nat) : List Int := (List.range 8).map fun i => (H i : Int)
theorem lst_len (H : Nat → Nat) : (lst H).length = 8 := by simp [lst]
theorem lst_nth {H : Nat → Nat} {i : Nat} (hi : i < 8) : nth (lst H) i = (H i : Int) := by
  rw [nth_lt (by rw [lst_len]; exact hi)]
  simp [lst]
theorem eqB_self (xs : List Int) : eqB xs xs = true := by simp [eqB]

/-- Values that were told lie in memory, and the disk elsewhere. -/
structure Seen (w : World) (g : Nat) (v : Value) (B : Nat) (H : Nat → Nat) : Prop where
  at' : VlAt w B H
  ap : ¬ Fp g v B
theorem Seen.step {w w' : World} {base g B : Nat} {v v' : Value} {d : Dk} {H : Nat → Nat} (h : Seen w g v B H) (hs : Step w w' base g v v' d) : Seen w' g v' B H :=
  ⟨h.at'.stay hs.stay h.ap, fun e => by rcases hs.fp B e with k | k; exact h.ap k; have := h.at'.lt; omega⟩
theorem Seen.later {w w' : World} {g B : Nat} {v : Value} {H : Nat → Nat} (h : Seen w g v B H) (hb : Below w.heap.size w w') : Seen w' g v B H := ⟨h.at'.later hb, h.ap⟩
theorem Seen.sync {w w' : World} {g B : Nat} {v : Value} {H : Nat → Nat} (h : Seen w g v B H) (hs : Stay (fun x => x = g) w w') : Seen w' g v B H := ⟨h.at'.stay hs fun e => h.ap (.inl e), h.ap⟩
theorem Seen.new {w w' : World} {base g : Nat} {v : Value} {d : Dk} {H : Nat → Nat} (h : DiskM w base g v d) (hv : VlAt w' w.heap.size H) : Seen w' g v w.heap.size H := ⟨hv, fun e => by have := (h.fp e).2; omega⟩
theorem VlAt.is {w : World} {B : Nat} {H : Nat → Nat} (h : VlAt w B H) : SliceIs w (.slice (some ⟨B, 0, none⟩) 8 8) (lst H) :=
  ⟨_, 8, by rw [lst_len], by rw [lst_len]; unfold maxLen; omega, fun _ => ⟨B, 0, rfl, h.lt, fun i hi => by rw [lst_len] at hi; rw [Nat.zero_add, h.cell hi, lst_nth hi]⟩⟩
/-- Two that were told, of which one is as the other. -/
theorem same_any (w : World) (B C : Nat) (H K : Nat → Nat) (hB : VlAt w B H) (hC : VlAt w C K) (e : H = K) :
    Calls Try.prog 15 #[.slice (some ⟨B, 0, none⟩) 8 8, .slice (some ⟨C, 0, none⟩) 8 8] w fun e w' => e = .returned (.bool true) ∧ Below w.heap.size w w' := by
  subst e
  have H1 := ints_any w _ _ _ _ hB.is hC.is
  rw [eqB_self] at H1
  refine H1.mono ?_
  rintro e w' ⟨rfl, q, rfl⟩
  exact ⟨rfl, below_drew _ _ _⟩

theorem f_w1 : wrE dk0.L 1 2 9 = 0 := by decide
theorem f_e1 : enE (wrD dk0 1 2 9).L 1 = 0 := by decide
theorem f_v1 : vals (wrD dk0 1 2 9).L (wrD dk0 1 2 9).H 2 = 0 := by decide
theorem f_v2 : vals (enD (wrD dk0 1 2 9) 1).L (enD (wrD dk0 1 2 9) 1).H 2 = 9 := by decide

set_option maxHeartbeats 4000000 in
set_option maxRecDepth 100000 in
theorem fact_any (w : World) : Calls Try.prog 6 #[] w fun e w' => e = .returned (.bool true) ∧ Below w.heap.size w w' := by
  go_enter Try.func6, Try.ntmps6
  go_wp2_with fail
  refine (new_any _).mono ?_
  rintro e w1 ⟨rfl, hT, hb⟩
  have S1 : Hid (OnD w w1 w.heap.size (.slice none 0 0) dk0) := ⟨hT, hb⟩
  clear hT hb
  go_wp2_with fail
  refine (write_any w1 _ _ _ _ S1.out.disk 1 2 9).mono ?_
  rintro e w2 ⟨rfl, v2, hst⟩
  rw [f_w1, errV_zero]
  have S2 : Hid (OnD w w2 w.heap.size v2 (wrD dk0 1 2 9)) := S1.out.step hst
  clear hst
  go_wp2_with fail
  refine (values_any w2 _ _ _ _ S2.out.disk).mono ?_
  rintro e w3 ⟨rfl, hv, hb⟩
  have V3 : Hid (Seen w3 w.heap.size v2 w2.heap.size (vals (wrD dk0 1 2 9).L (wrD dk0 1 2 9).H)) := Seen.new S2.out.disk hv
  have S3 : Hid (OnD w w3 w.heap.size v2 (wrD dk0 1 2 9)) := S2.out.later hb
  clear hv hb
  go_wp2_with fail
  refine (end_any w3 _ _ _ _ S3.out.disk 1).mono ?_
  rintro e w4 ⟨rfl, v4, hst⟩
  rw [f_e1, errV_zero]
  have V4 : Hid (Seen w4 w.heap.size v4 w2.heap.size (vals (wrD dk0 1 2 9).L (wrD dk0 1 2 9).H)) := V3.out.step hst
  have S4 : Hid (OnD w w4 w.heap.size v4 (enD (wrD dk0 1 2 9) 1)) := S3.out.step hst
  clear hst
  go_wp2_with fail
  refine (values_any w4 _ _ _ _ S4.out.disk).mono ?_
  rintro e w5 ⟨rfl, hv, hb⟩
  have m2 : w5.cell? ⟨w4.heap.size, 2, none⟩ = some (.int .i64 9) := by have := hv.cell (i := 2) (by decide); rw [f_v2] at this; exact this
  have l2 : w5.cell? ⟨w2.heap.size, 2, none⟩ = some (.int .i64 0) := by have := (V4.out.later hb).at'.cell (i := 2) (by decide); rw [f_v1] at this; exact this
  have S5 : Hid (OnD w w5 w.heap.size v4 (enD (wrD dk0 1 2 9) 1)) := S4.out.later hb
  clear hv hb
  go_wp2
  go_ret
  exact ⟨rfl, S5.out.old⟩

end Go.Proofs.Ytejganpamidkmaa
