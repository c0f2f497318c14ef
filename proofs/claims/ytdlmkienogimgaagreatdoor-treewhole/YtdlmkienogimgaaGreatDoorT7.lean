/- This text proves what freeSpotOf answers: the spot of a path whose name is not there, or what is wrong; old memory is as it was; the conditions are those of at. -/
import Derived.Test.YtdlmkienogimgaaGreatDoorT6
namespace Go.Proofs.YtdlmkienogimgaaGreatDoor
open Go.RowKit Go.Deep Go.Shelf Go.Maps

def frE (L : List Ent) (M : Nat → Option Nat) (l : List UInt8) : Nat := if spE L M l ≠ 0 then spE L M l else if (look L (pN l)).isSome then 6 else 0
def frV (L : List Ent) (M : Nat → Option Nat) (l : List UInt8) : Value := if frE L M l = 0 then spV L M l else noSpot

theorem Box3.alloc {w : World} {b : Nat} {x y z : Value} (h : Box3 w b x y z) (o : Obj) : Box3 (w.alloc o) b x y z := by
  have hl : b < w.heap.size := (Array.getElem?_eq_some_iff.1 h).1
  exact ((below_alloc w o).block b hl).trans h
theorem Box3.later {w w' : World} {b : Nat} {x y z : Value} (h : Box3 w b x y z) (hb : Below w.heap.size w w') : Box3 w' b x y z :=
  (hb.block b (Array.getElem?_eq_some_iff.1 h).1).trans h
theorem box3_lt {w : World} {b : Nat} {x y z : Value} (h : Box3 w b x y z) : b < w.heap.size := (Array.getElem?_eq_some_iff.1 h).1
/-- The cells of a block, in every world with one block more. -/
theorem Box3.ahead {w : World} {b : Nat} {x y z : Value} (h : Box3 w b x y z) : (∀ o, (w.alloc o).cell? ⟨b, 0, none⟩ = some x) ∧ (∀ o, (w.alloc o).cell? ⟨b, 1, none⟩ = some y) ∧ (∀ o, (w.alloc o).cell? ⟨b, 2, none⟩ = some z) ∧ (∀ o, (w.alloc o).frozen? ⟨b, 0, none⟩ = false) ∧ (∀ o, (w.alloc o).frozen? ⟨b, 1, none⟩ = false) ∧ (∀ o, (w.alloc o).frozen? ⟨b, 2, none⟩ = false) :=
  ⟨fun o => (h.alloc o).facts.1, fun o => (h.alloc o).facts.2.1, fun o => (h.alloc o).facts.2.2.1, fun o => (h.alloc o).facts.2.2.2.1, fun o => (h.alloc o).facts.2.2.2.2.1, fun o => (h.alloc o).facts.2.2.2.2.2⟩
theorem box3_here {w w2 : World} {x y z : Value} (hb : Below (w.alloc (.cells #[x, y, z] 79)).heap.size (w.alloc (.cells #[x, y, z] 79)) w2) : Box3 w2 w.heap.size x y z := (box3_new hb).1

set_option maxHeartbeats 4000000 in
set_option maxRecDepth 100000 in
theorem freeSpotOf_any (w : World) (base t : Nat) (L : List Ent) (M : Nat → Option Nat) (h : TreeAt w base t L M) (s : ByteArray) (hs : s.size ≤ maxLen) (hm : Mx w) :
    Calls Tryz.prog 70 #[ptr t, .string s] w fun e w' => e = .returned (.tuple #[frV L M s.data.toList, errV (frE L M s.data.toList)]) ∧ Below w.heap.size w w' := by
  have HP : Hid _ := fun (o : Obj) => spotOf_any (w.alloc o) base t L M (h.later (below_alloc w o)) s hs (hm.later (below_alloc w o))
  have HT : Hid (TreeAt w base t L M) := h
  clear h hs hm
  by_cases he : spE L M s.data.toList = 0
  · obtain ⟨q, k, d, m, hp, hqk, hk, hl, hM, hV⟩ := spE_zero HT.out.good he
    obtain ⟨hmap, _⟩ := HT.out.maps _ _ _ (look_mem hl) hM
    obtain ⟨hnode, _⟩ := HT.out.node _ _ (look_mem hl)
    rw [hM] at hnode
    have hkl := isN_len hk
    have HW : Hid _ := fun (w' : World) (n : Int) (hb : Below w.heap.size w w') => what_any w' d m k n _ ((hb.block _ hnode.lt).trans hnode) (hmap.block (hb.block _ hmap.lt)) (by omega)
    rw [he, hV, errV_zero] at HP
    cases hf : look L (q ++ [k]) with
    | some j =>
      have hE : frE L M s.data.toList = 6 := by unfold frE; rw [if_neg (by simp [he]), hqk, hf]; rfl
      unfold frV
      rw [if_neg (by rw [hE]; decide), hE, errV_pos (by decide)]
      unfold noSpot
      rw [hf] at HW
      simp only [valO] at HW
      generalize hN : ((q.length : Int) + 1) = n at *
      unfold ptr at HW HP ⊢
      clear hV hE hl hM hmap hnode hqk hp he hN hk hkl hf
      go_enter Tryz.func70, Tryz.ntmps70
      go_wp2_with (first
        | (go_at_call 42; refine (HP.out _).mono ?_; rintro e w' ⟨rfl, hb⟩; obtain ⟨hx, hb2⟩ := box3_new hb; obtain ⟨c0, c1, c2, f0, f1, f2⟩ := hx.ahead)
        | (go_at_call 43; refine (HW.out _ _ (hb2.trans ((below_alloc w' _).mono hb2.size))).mono ?_; rintro e w2 ⟨rfl, hb3⟩; obtain ⟨d0, d1, d2, _⟩ := (box3_here hb3).facts; obtain ⟨e0, e1, e2, g0, g1, g2⟩ := ((hx.alloc _).later hb3).facts))
      refine bodyPost_ret (v := .tuple #[.agg #[.pointer none, .string ⟨#[]⟩, .int .i64 0], .iface 65 (.int .i64 6)]) ?_ rfl ?_
      · rw [results_cell_tmp rfl]
        go_simp
      · exact ⟨rfl, below_set3 (hb2.trans (((below_alloc w' _).trans (hb3.mono (by simp))).mono hb2.size)) (Nat.le_refl _) _ _ _⟩
    | none =>
      have hE : frE L M s.data.toList = 0 := by unfold frE; rw [if_neg (by simp [he]), hqk, hf]; rfl
      unfold frV
      rw [if_pos hE, hE, hV, errV_zero]
      rw [hf] at HW
      simp only [valO] at HW
      generalize hN : ((q.length : Int) + 1) = n at *
      unfold ptr at HW HP ⊢
      clear hV hE hl hM hmap hnode hqk hp he hN hk hkl hf
      go_enter Tryz.func70, Tryz.ntmps70
      go_wp2_with (first
        | (go_at_call 42; refine (HP.out _).mono ?_; rintro e w' ⟨rfl, hb⟩; obtain ⟨hx, hb2⟩ := box3_new hb; obtain ⟨c0, c1, c2, f0, f1, f2⟩ := hx.ahead)
        | (go_at_call 43; refine (HW.out _ _ (hb2.trans ((below_alloc w' _).mono hb2.size))).mono ?_; rintro e w2 ⟨rfl, hb3⟩; obtain ⟨d0, d1, d2, _⟩ := (box3_here hb3).facts; obtain ⟨e0, e1, e2, g0, g1, g2⟩ := ((hx.alloc _).later hb3).facts))
      refine bodyPost_ret (v := .tuple #[.agg #[.pointer (some ⟨d, 0, none⟩), .string (bs k), .int .i64 n], .nilIface]) ?_ rfl ?_
      · rw [results_cell_tmp rfl]
        go_simp
      · exact ⟨rfl, below_set3 (hb2.trans (((below_alloc w' _).trans (hb3.mono (by simp))).mono hb2.size)) (Nat.le_refl _) _ _ _⟩
  · have hE : frE L M s.data.toList = spE L M s.data.toList := if_pos he
    unfold frV
    rw [if_neg (by rw [hE]; exact he), hE, errV_pos he]
    rw [errV_pos he, spV_no he] at HP
    unfold noSpot at HP ⊢
    generalize spE L M s.data.toList = E at *
    unfold ptr at HP ⊢
    clear he hE
    go_enter Tryz.func70, Tryz.ntmps70
    go_wp2_with (go_at_call 42; refine (HP.out _).mono ?_; rintro e w' ⟨rfl, hb⟩; obtain ⟨hx, hb2⟩ := box3_new hb; obtain ⟨c0, c1, c2, f0, f1, f2⟩ := hx.ahead)
    refine bodyPost_ret (v := .tuple #[.agg #[.pointer none, .string ⟨#[]⟩, .int .i64 0], .iface 65 (.int .i64 (E : Int))]) ?_ rfl ?_
    · rw [results_cell_tmp rfl]
      go_simp
    · exact ⟨rfl, below_set3 (hb2.trans ((below_alloc w' _).mono hb2.size)) (Nat.le_refl _) _ _ _⟩

end Go.Proofs.YtdlmkienogimgaaGreatDoor
