/- This text proves what New and the law's grown answer: a tree, its root alone, and a tree in which some steps were done; old memory is as it was; the conditions are that the steps' texts lie there. -/
import Derived.Test.YtdlmkienogimgaaGreatDoorT20
namespace Go.Proofs.YtdlmkienogimgaaGreatDoor
open Go.RowKit Go.Deep Go.Shelf Go.Maps

theorem root_good (r : Nat) (M : Nat → Option Nat) (h : (M r).isSome = true) : Good [([], r)] M := by
  refine ⟨by simp [Uni], ⟨r, [], rfl, h⟩, fun p i hi => ?_, fun p k i hi => ?_, fun p q i hp hq _ => ?_, by simp⟩
  · rw [List.mem_singleton] at hi
    cases hi
    simp
  · rw [List.mem_singleton] at hi
    simp at hi
  · rw [List.mem_singleton] at hp hq
    cases hp
    cases hq
    rfl
theorem root_look0 {r : Nat} {k : List UInt8} : look [(([] : List (List UInt8)), r)] ([] ++ [k]) = none := by simp [look]

set_option maxRecDepth 100000 in
theorem new_any (w : World) (base : Nat) (hbw : base ≤ w.heap.size) : Calls Tryz.prog 17 #[] w fun e w' => ∃ t r M, e = .returned (ptr t) ∧ (M r).isSome = true ∧ TreeAt w' base t [([], r)] M ∧ Below w.heap.size w w' := by
  go_enter Tryz.func17, Tryz.ntmps17
  go_wp2_with (first | (go_at_call 45; refine (newDir_any _).mono ?_; unfold ptr; rintro e w1 ⟨rfl, rfl⟩))
  go_ret
  have b1 : Below w.heap.size w ((w.alloc (.map #[] 0)).alloc (.cells #[.map (some w.heap.size)] 77)) := (below_alloc w _).trans ((below_alloc _ _).mono (by simp))
  have hn := boxed_two w (.map #[] 0) 77 (.map (some w.heap.size))
  have hm := (MapIs.made w).block (w' := ((w.alloc (.map #[] 0)).alloc (.cells #[.map (some w.heap.size)] 77)).alloc (.cells #[ptr (w.heap.size + 1)] 61)) (((below_alloc _ _).block _ (by simp; omega)).trans ((below_alloc (w.alloc (.map #[] 0)) _).block _ (by simp)))
  have ht : Boxed (((w.alloc (.map #[] 0)).alloc (.cells #[.map (some w.heap.size)] 77)).alloc (.cells #[ptr (w.heap.size + 1)] 61)) (w.heap.size + 2) 61 (ptr (w.heap.size + 1)) := by
    have := Boxed.new ((w.alloc (.map #[] 0)).alloc (.cells #[.map (some w.heap.size)] 77)) 61 (ptr (w.heap.size + 1))
    simpa using this
  have hmem : ∀ (p : List (List UInt8)) (i : Nat), (p, i) ∈ [(([] : List (List UInt8)), w.heap.size + 1)] → p = [] ∧ i = w.heap.size + 1 := fun p i hi => by
    rw [List.mem_singleton] at hi
    cases hi
    exact ⟨rfl, rfl⟩
  refine ⟨w.heap.size + 2, w.heap.size + 1, fun _ => some w.heap.size, by simp [ptr], rfl, ⟨root_good _ _ rfl, by omega, fun r hr => ?_, fun p i hi => ?_, fun p i m hi hmi => ?_, fun p i q j m hi hj _ _ => ?_⟩, b1.trans ((below_alloc _ _).mono (by simp; omega))⟩
  · obtain ⟨_, rfl⟩ := hmem _ _ hr
    exact ht
  · obtain ⟨_, rfl⟩ := hmem _ _ hi
    exact ⟨hn.alloc _, by omega⟩
  · obtain ⟨rfl, rfl⟩ := hmem _ _ hi
    cases hmi
    exact ⟨hm.congr fun k => root_look0.symm, hbw⟩
  · rw [(hmem _ _ hi).2, (hmem _ _ hj).2]

/-- The texts of a step at a place. -/
def tat (ls : List (List (List UInt8))) (i : Nat) : List (List UInt8) := ls.getD i []
/-- The value is a slice of slices of texts. -/
def TxtsIs (w : World) (v : Value) (ls : List (List (List UInt8))) : Prop :=
  ∃ a c, v = .slice a ls.length c ∧ ls.length ≤ maxLen ∧ (ls ≠ [] → ∃ b o, a = some ⟨b, o, none⟩ ∧ b < w.heap.size ∧ ∀ i, i < ls.length → ∃ u, w.cell? ⟨b, o + i, none⟩ = some u ∧ StrsIs w u (tat ls i) ∧ ∀ x ∈ tat ls i, x.length ≤ maxLen)
theorem TxtsIs.later {w w' : World} {v : Value} {ls : List (List (List UInt8))} (h : TxtsIs w v ls) (hb : Below w.heap.size w w') : TxtsIs w' v ls := by
  obtain ⟨a, c, h1, h2, h3⟩ := h
  refine ⟨a, c, h1, h2, fun hne => ?_⟩
  obtain ⟨b, o, ha, hlt, hc⟩ := h3 hne
  refine ⟨b, o, ha, Nat.lt_of_lt_of_le hlt hb.size, fun i hi => ?_⟩
  obtain ⟨u, k1, k2, k3⟩ := hc i hi
  exact ⟨u, by rw [hb.cell (p := ⟨b, o + i, none⟩) hlt]; exact k1, k2.later (Nat.le_refl _) hb, k3⟩
theorem TxtsIs.where {w : World} {v : Value} {ls : List (List (List UInt8))} (h : TxtsIs w v ls) :
    ∃ a c b o, v = .slice a ls.length c ∧ ls.length ≤ maxLen ∧ (0 < ls.length → a = some ⟨b, o, none⟩ ∧ b < w.heap.size) ∧ ∀ i, i < ls.length → ∃ u, w.cell? ⟨b, o + i, none⟩ = some u ∧ StrsIs w u (tat ls i) ∧ ∀ x ∈ tat ls i, x.length ≤ maxLen := by
  obtain ⟨a, c, rfl, hm, hi⟩ := h
  by_cases hx : ls = []
  · subst hx
    exact ⟨a, c, 0, 0, rfl, hm, fun h => absurd h (by simp), fun i h => absurd h (by simp)⟩
  · obtain ⟨b, o, ha, hb, hc⟩ := hi hx
    exact ⟨a, c, b, o, rfl, hm, fun _ => ⟨ha, hb⟩, hc⟩

set_option maxHeartbeats 4000000 in
set_option maxRecDepth 100000 in
theorem grown_any (w : World) (v : Value) (ls : List (List (List UInt8))) (hv : TxtsIs w v ls) (hm : Mx w) :
    Calls Tryz.prog 7 #[v] w fun e w' => ∃ t L M, e = .returned (ptr t) ∧ TreeAt w' w.heap.size t L M ∧ Turned w.heap.size w w' := by
  obtain ⟨a, c, b, o, rfl, hlm, ha, hc⟩ := hv.where
  have HC : Hid (∀ i, i < ls.length → ∃ u, w.cell? ⟨b, o + i, none⟩ = some u ∧ StrsIs w u (tat ls i) ∧ ∀ x ∈ tat ls i, x.length ≤ maxLen) := hc
  have HA : Hid (0 < ls.length → a = some ⟨b, o, none⟩ ∧ b < w.heap.size) := ha
  have HM : Hid (Mx w) := hm
  unfold maxLen at hlm
  clear ha hc hv hm
  go_enter Tryz.func7, Tryz.ntmps7
  go_wp2_with (go_at_call 17; refine (new_any w w.heap.size (Nat.le_refl _)).mono ?_; rintro e w1 ⟨t, r, M0, rfl, _, hT1, hb1⟩)
  have HT1 : Hid (TreeAt w1 w.heap.size t [([], r)] M0) := hT1
  have HB1 : Hid (Turned w.heap.size w w1) := Turned.of_below hb1 (Nat.le_refl _)
  clear hT1 hb1
  unfold ptr
  go_loopw [4] (fun s wr => ∃ (k : Nat) (L : List Ent) (M : Nat → Option Nat), k ≤ 40 ∧ k ≤ ls.length ∧ s = .int .i64 k ∧ Hid (TreeAt wr w.heap.size t L M) ∧ Hid (Turned w.heap.size w wr)) (fun s _ => 40 - (intOf s).toNat)
  case atStart => exact ⟨0, _, _, by omega, by omega, rfl, HT1, HB1⟩
  case round =>
    obtain ⟨k, L, M, hk, hkl, rfl, HT, HB⟩ := hrel
    by_cases hlt : k < ls.length
    · by_cases h40 : k < 40
      · obtain ⟨haa, hbl⟩ := HA.out (by omega)
        subst haa
        obtain ⟨u, hu, hs, hsm⟩ := HC.out k hlt
        have hcu : wr.cell? ⟨b, o + k, none⟩ = some u := HB.out.cell hu
        have HD : Hid _ := fun (_ : Nat) => did_any wr w.heap.size t L M HT.out u (tat ls k) (hs.later (Nat.le_refl _) HB.out.below) hsm (HM.out.turned HB.out) HB.out.below.size
        unfold ptr at HD
        clear hu hs hsm
        go_wp2_with (go_at_call 23; refine (HD.out 0).mono ?_; rintro e w2 ⟨n, L', M', rfl, k1, k2, k3⟩)
        have HT2 : Hid (TreeAt w2 w.heap.size t L' M') := k2
        have HB2 : Hid (Turned w.heap.size w w2) := HB.out.trans k3
        clear k1 k2 k3 HT HB HD
        go_roundw
        case rel => exact ⟨k + 1, L', M', by omega, by omega, by go_num, HT2, HB2⟩
        case measure => simp [intOf]; omega
      · go_wp2_with fail
        go_ret
        exact ⟨t, L, M, rfl, HT.out, HB.out⟩
    · go_wp2_with fail
      go_ret
      exact ⟨t, L, M, rfl, HT.out, HB.out⟩

end Go.Proofs.YtdlmkienogimgaaGreatDoor
