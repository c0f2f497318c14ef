/- This text proves what the law's did does with a tree: one step, or nothing; old memory but the tree's maps is as it was; the conditions are that the tree and the step's texts lie there. -/
import Derived.Test.YtdlmkienogimgaaGreatDoorT18
namespace Go.Proofs.YtdlmkienogimgaaGreatDoor
open Go.RowKit Go.Deep Go.Shelf Go.Maps

/-- One step. -/
def Stp (L : List Ent) (M : Nat → Option Nat) (l : List (List UInt8)) (e : Nat) (L' : List Ent) (M' : Nat → Option Nat) : Prop :=
  if l.length = 2 ∧ sth l 0 = [100] then MkS true L M (sth l 1) e L' M'
  else if l.length = 2 ∧ sth l 0 = [102] then MkS false L M (sth l 1) e L' M'
  else if l.length = 2 ∧ sth l 0 = [120] then e = drE L M (sth l 1) ∧ L' = drL L M (sth l 1) ∧ M' = M
  else if l.length = 3 ∧ sth l 0 = [108] then e = lkE L M (sth l 1) (sth l 2) ∧ L' = lkL L M (sth l 1) (sth l 2) ∧ M' = M
  else if l.length = 3 ∧ sth l 0 = [109] then e = mvE L M (sth l 1) (sth l 2) ∧ L' = mvL L M (sth l 1) (sth l 2) ∧ M' = M
  else e = 0 ∧ L' = L ∧ M' = M

theorem Turned.cell {base : Nat} {w w' : World} (hT : Turned base w w') {a : Addr} {v : Value} (h : w.cell? a = some v) : w'.cell? a = some v := by
  rw [World.cell?_of_block (w := w) (hT.rows a.block (World.block_lt_of_cell? _ _ h) fun es c e => by simp [World.cell?, e] at h)]
  exact h
theorem undrewT {base : Nat} {w w' : World} (h : Turned base w.drew w') : Turned base w w' := ⟨undrewB h.below, h.rows⟩
theorem bs_list (x : List UInt8) : (bs x).toList = x := by rw [ByteArray.toList_eq, data_bs]
theorem bs_size {x : List UInt8} {n : Nat} (h : x.length ≤ n) : (bs x).size ≤ n := by rw [Lib.size_eq, data_bs]; exact h

set_option maxHeartbeats 4000000 in
set_option maxRecDepth 100000 in
theorem did_any (w : World) (base t : Nat) (L : List Ent) (M : Nat → Option Nat) (h : TreeAt w base t L M) (u : Value) (l : List (List UInt8)) (hu : StrsIs w u l) (hl : ∀ x ∈ l, x.length ≤ maxLen) (hm : Mx w) (hbw : base ≤ w.heap.size) :
    Calls Tryz.prog 23 #[ptr t, u] w fun e w' => ∃ n L' M', e = .returned (errV n) ∧ Stp L M l n L' M' ∧ TreeAt w' base t L' M' ∧ Turned base w w' := by
  obtain ⟨a, c, b, o, rfl, _, hlm, ha, hc⟩ := hu.where
  have HT : Hid (TreeAt w base t L M) := h
  unfold maxLen at hlm
  by_cases h2 : l.length = 2
  · obtain ⟨haa, _⟩ := ha (by omega)
    subst haa
    have h0 := hc 0 (by omega)
    have h1 := hc 1 (by omega)
    rw [Nat.add_zero] at h0
    have hs1 : (bs (sth l 1)).size ≤ maxLen := bs_size (hl _ (sth_mem (by omega)))
    have ed := bs_list (sth l 0)
    by_cases e1 : sth l 0 = [100]
    · have HD : Hid _ := fun (_ : Nat) => dir_any w base t L M h (bs (sth l 1)) hs1 hm hbw
      rw [data_bs] at HD
      have HS : Hid (∀ n L' M', MkS true L M (sth l 1) n L' M' → Stp L M l n L' M') := fun n L' M' h => by unfold Stp; rw [if_pos ⟨h2, e1⟩]; exact h
      have q1 : ((bs (sth l 0)).toList == [100]) = true := by rw [ed, e1]; rfl
      rw [h2]
      generalize bs (sth l 0) = x at *
      generalize bs (sth l 1) = y at *
      unfold ptr at HD ⊢
      clear hu hl ha hc h2 ed e1 h
      go_enter Tryz.func23, Tryz.ntmps23
      go_wp2_with (go_at_call 14; refine (HD.out 0).mono ?_; rintro e w1 ⟨n, L', M', rfl, k1, k2, k3⟩)
      go_ret
      exact ⟨n, L', M', rfl, HS.out _ _ _ k1, k2, k3⟩
    · by_cases e2 : sth l 0 = [102]
      · have HD : Hid _ := fun (_ : Nat) => file_any w base t L M h (bs (sth l 1)) hs1 hm hbw
        rw [data_bs] at HD
        have HS : Hid (∀ n L' M', MkS false L M (sth l 1) n L' M' → Stp L M l n L' M') := fun n L' M' h => by unfold Stp; rw [if_neg (fun h => e1 h.2), if_pos ⟨h2, e2⟩]; exact h
        have q1 : ((bs (sth l 0)).toList == [100]) = false := by rw [ed, e2]; rfl
        have q2 : ((bs (sth l 0)).toList == [102]) = true := by rw [ed, e2]; rfl
        rw [h2]
        generalize bs (sth l 0) = x at *
        generalize bs (sth l 1) = y at *
        unfold ptr at HD ⊢
        clear hu hl ha hc h2 ed e1 e2 h
        go_enter Tryz.func23, Tryz.ntmps23
        go_wp2_with (go_at_call 12; refine (HD.out 0).mono ?_; rintro e w1 ⟨n, L', M', rfl, k1, k2, k3⟩)
        go_ret
        exact ⟨n, L', M', rfl, HS.out _ _ _ k1, k2, k3⟩
      · by_cases e3 : sth l 0 = [120]
        · have HD : Hid _ := fun (_ : Nat) => drop_any w base t L M h (bs (sth l 1)) hs1 hm hbw
          rw [data_bs] at HD
          have HS : Hid (Stp L M l (drE L M (sth l 1)) (drL L M (sth l 1)) M) := by
            show Stp L M l (drE L M (sth l 1)) (drL L M (sth l 1)) M
            unfold Stp; rw [if_neg (fun h => e1 h.2), if_neg (fun h => e2 h.2), if_pos ⟨h2, e3⟩]; exact ⟨rfl, rfl, rfl⟩
          have q1 : ((bs (sth l 0)).toList == [100]) = false := by rw [ed, e3]; rfl
          have q2 : ((bs (sth l 0)).toList == [102]) = false := by rw [ed, e3]; rfl
          have q3 : ((bs (sth l 0)).toList == [120]) = true := by rw [ed, e3]; rfl
          rw [h2]
          generalize bs (sth l 0) = x at *
          generalize bs (sth l 1) = y at *
          unfold ptr at HD ⊢
          clear hu hl ha hc h2 ed e1 e2 e3 h
          go_enter Tryz.func23, Tryz.ntmps23
          go_wp2_with (go_at_call 13; refine (HD.out 0).mono ?_; rintro e w1 ⟨rfl, k2, k3⟩)
          go_ret
          exact ⟨_, _, _, rfl, HS.out, k2, k3⟩
        · have HS : Hid (Stp L M l 0 L M) := by
            show Stp L M l 0 L M
            unfold Stp; rw [if_neg (fun h => e1 h.2), if_neg (fun h => e2 h.2), if_neg (fun h => e3 h.2), if_neg (fun h => by omega), if_neg (fun h => by omega)]; exact ⟨rfl, rfl, rfl⟩
          have q1 : ((bs (sth l 0)).toList == [100]) = false := by rw [ed]; simp [e1]
          have q2 : ((bs (sth l 0)).toList == [102]) = false := by rw [ed]; simp [e2]
          have q3 : ((bs (sth l 0)).toList == [120]) = false := by rw [ed]; simp [e3]
          rw [h2]
          generalize bs (sth l 0) = x at *
          unfold ptr
          clear hu hl ha hc h2 ed e1 e2 e3 h
          go_enter Tryz.func23, Tryz.ntmps23
          go_wp2
          go_ret
          exact ⟨0, L, M, rfl, HS.out, HT.out, Turned.refl _ _⟩
  · by_cases h3 : l.length = 3
    · obtain ⟨haa, _⟩ := ha (by omega)
      subst haa
      have h0 := hc 0 (by omega)
      have h1 := hc 1 (by omega)
      have h22 := hc 2 (by omega)
      rw [Nat.add_zero] at h0
      have hs1 : (bs (sth l 1)).size ≤ maxLen := bs_size (hl _ (sth_mem (by omega)))
      have hs2 : (bs (sth l 2)).size ≤ maxLen := bs_size (hl _ (sth_mem (by omega)))
      have ed := bs_list (sth l 0)
      by_cases e1 : sth l 0 = [108]
      · have HD : Hid _ := fun (w1 : World) (hb : Below w.heap.size w w1) => link_any w1 base t L M (h.later hb) (bs (sth l 1)) (bs (sth l 2)) hs1 hs2 (hm.later hb) (by have := hb.size; omega)
        rw [data_bs, data_bs] at HD
        have HS : Hid (Stp L M l (lkE L M (sth l 1) (sth l 2)) (lkL L M (sth l 1) (sth l 2)) M) := by
          show Stp L M l (lkE L M (sth l 1) (sth l 2)) (lkL L M (sth l 1) (sth l 2)) M
          unfold Stp; rw [if_neg (fun h => h2 h.1), if_neg (fun h => h2 h.1), if_neg (fun h => h2 h.1), if_pos ⟨h3, e1⟩]; exact ⟨rfl, rfl, rfl⟩
        have q1 : ((bs (sth l 0)).toList == [108]) = true := by rw [ed, e1]; rfl
        rw [h3]
        generalize bs (sth l 0) = x at *
        generalize bs (sth l 1) = y at *
        generalize bs (sth l 2) = z at *
        unfold ptr at HD ⊢
        clear hu hl ha hc h2 h3 ed e1 h
        go_enter Tryz.func23, Tryz.ntmps23
        go_wp2_with fail
        have HK : Hid (∀ w1, Turned base w w1 → w1.cell? ⟨b, o + 1, none⟩ = some (.string y) ∧ w1.cell? ⟨b, o + 2, none⟩ = some (.string z)) := fun w1 hT => ⟨hT.cell h1, hT.cell h22⟩
        go_region_held3 (fun w' => w'.cell? ⟨b, o + 1, none⟩ = some (.string y) ∧ w'.cell? ⟨b, o + 2, none⟩ = some (.string z))
          (first | go_keep | (go_split_ands; exact HK.out _ HB1.out))
          (first | (go_at_call 29; refine (HD.out _ (below_draw _ _)).mono ?_; rintro e w1 ⟨rfl, k2, k3⟩; have HB1 : Hid (Turned base w w1) := undrewT k3))
        go_wp2_with fail
        go_ret
        exact ⟨_, _, _, rfl, HS.out, k2, HB1.out⟩
      · by_cases e2 : sth l 0 = [109]
        · have HD : Hid _ := fun (w1 : World) (hb : Below w.heap.size w w1) => move_any w1 base t L M (h.later hb) (bs (sth l 1)) (bs (sth l 2)) hs1 hs2 (hm.later hb) (by have := hb.size; omega)
          rw [data_bs, data_bs] at HD
          have HS : Hid (Stp L M l (mvE L M (sth l 1) (sth l 2)) (mvL L M (sth l 1) (sth l 2)) M) := by
            show Stp L M l (mvE L M (sth l 1) (sth l 2)) (mvL L M (sth l 1) (sth l 2)) M
            unfold Stp; rw [if_neg (fun h => h2 h.1), if_neg (fun h => h2 h.1), if_neg (fun h => h2 h.1), if_neg (fun h => e1 h.2), if_pos ⟨h3, e2⟩]; exact ⟨rfl, rfl, rfl⟩
          have q1 : ((bs (sth l 0)).toList == [108]) = false := by rw [ed, e2]; rfl
          have q2 : ((bs (sth l 0)).toList == [109]) = true := by rw [ed, e2]; rfl
          rw [h3]
          generalize bs (sth l 0) = x at *
          generalize bs (sth l 1) = y at *
          generalize bs (sth l 2) = z at *
          unfold ptr at HD ⊢
          clear hu hl ha hc h2 h3 ed e1 e2 h
          go_enter Tryz.func23, Tryz.ntmps23
          go_wp2_with fail
          have HK : Hid (∀ w1, Turned base w w1 → w1.cell? ⟨b, o + 1, none⟩ = some (.string y) ∧ w1.cell? ⟨b, o + 2, none⟩ = some (.string z)) := fun w1 hT => ⟨hT.cell h1, hT.cell h22⟩
          go_region_held3 (fun w' => w'.cell? ⟨b, o + 1, none⟩ = some (.string y) ∧ w'.cell? ⟨b, o + 2, none⟩ = some (.string z))
            (first | go_keep | (go_split_ands; exact HK.out _ HB1.out))
            (first | (go_at_call 52; refine (HD.out _ (below_draw _ _)).mono ?_; rintro e w1 ⟨rfl, k2, k3⟩; have HB1 : Hid (Turned base w w1) := undrewT k3))
          go_wp2_with fail
          go_ret
          exact ⟨_, _, _, rfl, HS.out, k2, HB1.out⟩
        · have HS : Hid (Stp L M l 0 L M) := by
            show Stp L M l 0 L M
            unfold Stp; rw [if_neg (fun h => h2 h.1), if_neg (fun h => h2 h.1), if_neg (fun h => h2 h.1), if_neg (fun h => e1 h.2), if_neg (fun h => e2 h.2)]; exact ⟨rfl, rfl, rfl⟩
          have q1 : ((bs (sth l 0)).toList == [108]) = false := by rw [ed]; simp [e1]
          have q2 : ((bs (sth l 0)).toList == [109]) = false := by rw [ed]; simp [e2]
          rw [h3]
          generalize bs (sth l 0) = x at *
          unfold ptr
          clear hu hl ha hc h2 h3 ed e1 e2 h
          go_enter Tryz.func23, Tryz.ntmps23
          go_wp2
          go_ret
          exact ⟨0, L, M, rfl, HS.out, HT.out, Turned.refl _ _⟩
    · have HS : Hid (Stp L M l 0 L M) := by
        show Stp L M l 0 L M
        unfold Stp; rw [if_neg (fun h => h2 h.1), if_neg (fun h => h2 h.1), if_neg (fun h => h2 h.1), if_neg (fun h => h3 h.1), if_neg (fun h => h3 h.1)]; exact ⟨rfl, rfl, rfl⟩
      have q1 : ((l.length : Int) == 2) = false := by simp; omega
      have q2 : ((l.length : Int) == 3) = false := by simp; omega
      unfold ptr
      clear hu hl ha hc h2 h3 h
      generalize l.length = n at *
      go_enter Tryz.func23, Tryz.ntmps23
      go_wp2
      go_ret
      exact ⟨0, L, M, rfl, HS.out, HT.out, Turned.refl _ _⟩

end Go.Proofs.YtdlmkienogimgaaGreatDoor
