/- This text proves what spotOf answers: the spot of a path, or what is wrong; old memory is as it was; the conditions are those of at. -/
import Derived.Test.YtdlmkienogimgaaGreatDoorT5
namespace Go.Proofs.YtdlmkienogimgaaGreatDoor
open Go.RowKit Go.Deep Go.Shelf Go.Maps

theorem spE_path {L : List Ent} {M : Nat → Option Nat} {l : List UInt8} (h : pE l ≠ 0) : spE L M l = pE l := if_pos h
theorem spE_root {L : List Ent} {M : Nat → Option Nat} {l : List UInt8} (h : pE l = 0) (h2 : pN l = []) : spE L M l = 7 := by
  unfold spE; rw [if_neg (by simp [h]), if_pos h2]
theorem spE_at {L : List Ent} {M : Nat → Option Nat} {l : List UInt8} {q : List (List UInt8)} {k : List UInt8} {e : Nat} {o : Option Nat} (h : pE l = 0) (h2 : pN l = q ++ [k]) (h3 : atF L M q = (e, o)) (h4 : e ≠ 0) : spE L M l = e := by
  unfold spE
  rw [if_neg (by simp [h]), if_neg (by simp [h2]), h2, List.dropLast_concat, h3, if_pos h4]
theorem spE_file {L : List Ent} {M : Nat → Option Nat} {l : List UInt8} {q : List (List UInt8)} {k : List UInt8} {j : Nat} (h : pE l = 0) (h2 : pN l = q ++ [k]) (h3 : atF L M q = (0, some j)) (h4 : M j = none) : spE L M l = 3 := by
  unfold spE
  rw [if_neg (by simp [h]), if_neg (by simp [h2]), h2, List.dropLast_concat, h3, if_neg (by simp), Option.getD_some, if_pos h4]
theorem spE_good {L : List Ent} {M : Nat → Option Nat} {l : List UInt8} {q : List (List UInt8)} {k : List UInt8} {j m : Nat} (h : pE l = 0) (h2 : pN l = q ++ [k]) (h3 : atF L M q = (0, some j)) (h4 : M j = some m) : spE L M l = 0 ∧ spV L M l = .agg #[ptr j, .string (bs k), .int .i64 ((q.length : Int) + 1)] := by
  have h0 : spE L M l = 0 := by
    unfold spE
    rw [if_neg (by simp [h]), if_neg (by simp [h2]), h2, List.dropLast_concat, h3, if_neg (by simp), Option.getD_some, if_neg (by rw [h4]; simp)]
  refine ⟨h0, ?_⟩
  unfold spV lastN
  rw [if_pos h0, h2, List.dropLast_concat, h3]
  simp
theorem spV_no {L : List Ent} {M : Nat → Option Nat} {l : List UInt8} (h : spE L M l ≠ 0) : spV L M l = noSpot := if_neg h

/-- A block of three cells. -/
abbrev Box3 (w : World) (b : Nat) (x y z : Value) : Prop := w.heap[b]? = some (.cells #[x, y, z] 79 (0, 0))
theorem Box3.facts {w : World} {b : Nat} {x y z : Value} (h : Box3 w b x y z) : w.cell? ⟨b, 0, none⟩ = some x ∧ w.cell? ⟨b, 1, none⟩ = some y ∧ w.cell? ⟨b, 2, none⟩ = some z ∧ w.frozen? ⟨b, 0, none⟩ = false ∧ w.frozen? ⟨b, 1, none⟩ = false ∧ w.frozen? ⟨b, 2, none⟩ = false := by
  have h' : w.heap[b]? = _ := h
  simp [World.cell?, World.frozen?, h']
theorem box3_new {w w' : World} {x y z : Value} (hb : Below (w.alloc (.cells #[x, y, z] 79)).heap.size (w.alloc (.cells #[x, y, z] 79)) w') : Box3 w' w.heap.size x y z ∧ Below w.heap.size w w' :=
  ⟨(hb.block _ (by simp)).trans (blk_alloc_new _ _), (below_alloc w _).trans (hb.mono (by simp))⟩
theorem below_set3 {w w' : World} {b : Nat} (hb : Below w.heap.size w w') (hle : w.heap.size ≤ b) (x y z : Value) : Below w.heap.size w (((w'.setCell ⟨b, 0, none⟩ x).setCell ⟨b, 1, none⟩ y).setCell ⟨b, 2, none⟩ z) :=
  ((hb.setCell (p := ⟨b, 0, none⟩) hle x).setCell (p := ⟨b, 1, none⟩) hle y).setCell (p := ⟨b, 2, none⟩) hle z

set_option maxHeartbeats 4000000 in
set_option maxRecDepth 100000 in
theorem spotOf_any (w : World) (base t : Nat) (L : List Ent) (M : Nat → Option Nat) (h : TreeAt w base t L M) (s : ByteArray) (hs : s.size ≤ maxLen) (hm : Mx w) :
    Calls Tryz.prog 42 #[ptr t, .string s] w fun e w' => e = .returned (.tuple #[spV L M s.data.toList, errV (spE L M s.data.toList)]) ∧ Below w.heap.size w w' := by
  have HP : Hid _ := fun (o : Obj) => parts_any (w.alloc o) s hs (hm.later (below_alloc w o))
  have HT : Hid (TreeAt w base t L M) := h
  clear h hs hm
  unfold ptr
  by_cases he : pE s.data.toList = 0
  · by_cases hn : pN s.data.toList = []
    · rw [spV_no (by rw [spE_root he hn]; decide), spE_root he hn]
      unfold noSpot
      rw [errV_pos (by decide)]
      rw [he, errV_zero] at HP
      have HN : Hid (nms s.data.toList = []) := by show nms s.data.toList = []; unfold nms; rw [if_pos he]; exact hn
      rw [HN.out] at HP
      clear HN he hn
      go_enter Tryz.func42, Tryz.ntmps42
      go_wp2_with (go_at_call 9; refine (HP.out _).mono ?_; rintro e w' ⟨v, rfl, hv, hb⟩; obtain ⟨hx, hb2⟩ := box3_new hb; obtain ⟨c0, c1, c2, f0, f1, f2⟩ := hx.facts; obtain ⟨a, c, rfl, _⟩ := id hv)
      refine bodyPost_ret (v := .tuple #[.agg #[.pointer none, .string ⟨#[]⟩, .int .i64 0], .iface 65 (.int .i64 7)]) ?_ rfl ?_
      · rw [results_cell_tmp rfl]
        go_simp
      · exact ⟨rfl, below_set3 hb2 (Nat.le_refl _) _ _ _⟩
    · obtain ⟨q, k, hqk⟩ : ∃ q k, pN s.data.toList = q ++ [k] := ⟨_, _, (List.dropLast_concat_getLast hn).symm⟩
      have hnm : nms s.data.toList = q ++ [k] := by unfold nms; rw [if_pos he]; exact hqk
      have HN : Hid (∀ x ∈ q, x.length ≤ 1000) := by
        show ∀ x ∈ q, x.length ≤ 1000
        intro x hx
        have := isN_len (fol_names (spl (s.data.toList.drop 1)) x (by rw [show fol (spl (s.data.toList.drop 1)) = pN s.data.toList from rfl, hqk]; exact List.mem_append_left _ hx))
        omega
      have H8 : Hid (q.length ≤ 8) := by
        show q.length ≤ 8
        have := (pE_ok he).2.2.2
        rw [hqk, List.length_append, List.length_singleton] at this
        omega
      rw [hnm, he, errV_zero] at HP
      obtain ⟨n, hql⟩ : ∃ n, q.length = n := ⟨_, rfl⟩
      have HF : Hid _ := fun (w' : World) (a : Option Addr) (c : Nat) (hb : Below w.heap.size w w') (hv : StrsIs w' (.slice a n c) q) => follow_any w' base t L M (HT.out.later hb) _ q hv HN.out
      have HV : Hid (∀ (w' : World) (v : Value), StrsIs w' v (q ++ [k]) → ∃ a c b o, v = .slice a (n + 1) c ∧ n + 1 ≤ c ∧ a = some ⟨b, o, none⟩ ∧ StrsIs w' (.slice a n c) q ∧ w'.cell? ⟨b, o + n, none⟩ = some (.string (bs k))) := by
        show ∀ (w' : World) (v : Value), StrsIs w' v (q ++ [k]) → ∃ a c b o, v = .slice a (n + 1) c ∧ n + 1 ≤ c ∧ a = some ⟨b, o, none⟩ ∧ StrsIs w' (.slice a n c) q ∧ w'.cell? ⟨b, o + n, none⟩ = some (.string (bs k))
        intro w' v hv
        obtain ⟨a, c, b, o, rfl, hc, _, ha, hcs⟩ := hv.where
        have hlen : (q ++ [k]).length = n + 1 := by rw [List.length_append, List.length_singleton, hql]
        have hl := hv.less
        rw [hlen, List.dropLast_concat, Nat.add_sub_cancel] at hl
        rw [hlen] at hc ha hcs ⊢
        refine ⟨a, c, b, o, rfl, hc, (ha (by omega)).1, hl, ?_⟩
        have := hcs n (by omega)
        rw [sth_lt (by rw [hlen]; omega), List.getElem_append_right (by omega)] at this
        simpa using this
      rcases atF_cases HT.out.good q with ⟨j, hj, hl⟩ | ⟨e, hee, hj, hl⟩
      · obtain ⟨hnode, _⟩ := HT.out.node _ _ (look_mem hl)
        have HI : Hid _ := fun (w' : World) (hb : Below w.heap.size w w') => isDir_any w' j (M j) ((hb.block _ hnode.lt).trans hnode)
        rw [hj] at HF
        cases hM : M j with
        | none =>
          rw [spV_no (by rw [spE_file he hqk hj hM]; decide), spE_file he hqk hj hM, errV_pos (by decide)]
          rw [hM] at HI
          unfold noSpot
          have h8 := H8.out
          rw [hql] at h8
          simp only [valO, errV_zero] at HF
          unfold ptr at HF HI
          clear HN hnm hqk he hn hj hl hM hnode H8 hql
          go_enter Tryz.func42, Tryz.ntmps42
          go_wp2_with (first
            | (go_at_call 9; refine (HP.out _).mono ?_; rintro e w' ⟨v, rfl, hv, hb⟩; obtain ⟨hx, hb2⟩ := box3_new hb; obtain ⟨c0, c1, c2, f0, f1, f2⟩ := hx.facts; obtain ⟨a, c, b, o, rfl, hcn, rfl, hv2, hck⟩ := HV.out _ _ hv)
            | (go_at_call 67; refine (HF.out _ _ _ hb2 hv2).mono ?_; rintro e w' ⟨rfl, rfl⟩)
            | (go_at_call 33; refine (HI.out _ hb2).mono ?_; rintro e w' ⟨rfl, rfl⟩))
          refine bodyPost_ret (v := .tuple #[.agg #[.pointer none, .string ⟨#[]⟩, .int .i64 0], .iface 65 (.int .i64 3)]) ?_ rfl ?_
          · rw [results_cell_tmp rfl]
            go_simp
          · exact ⟨rfl, below_set3 hb2 (Nat.le_refl _) _ _ _⟩
        | some m =>
          obtain ⟨hE, hV⟩ := spE_good he hqk hj hM
          rw [hE, hV, hql, errV_zero]
          rw [hM] at HI
          have h8 := H8.out
          rw [hql] at h8
          simp only [valO, errV_zero] at HF
          unfold ptr at HF HI ⊢
          clear HN hnm hqk he hn hj hl hM hnode H8 hql hE hV
          go_enter Tryz.func42, Tryz.ntmps42
          go_wp2_with (first
            | (go_at_call 9; refine (HP.out _).mono ?_; rintro e w' ⟨v, rfl, hv, hb⟩; obtain ⟨hx, hb2⟩ := box3_new hb; obtain ⟨c0, c1, c2, f0, f1, f2⟩ := hx.facts; obtain ⟨a, c, b, o, rfl, hcn, rfl, hv2, hck⟩ := HV.out _ _ hv)
            | (go_at_call 67; refine (HF.out _ _ _ hb2 hv2).mono ?_; rintro e w' ⟨rfl, rfl⟩)
            | (go_at_call 33; refine (HI.out _ hb2).mono ?_; rintro e w' ⟨rfl, rfl⟩))
          refine bodyPost_ret (v := .tuple #[.agg #[.pointer (some ⟨j, 0, none⟩), .string (bs k), .int .i64 ((n : Int) + 1)], .nilIface]) ?_ rfl ?_
          · rw [results_cell_tmp rfl]
            go_simp
          · exact ⟨rfl, below_set3 hb2 (Nat.le_refl _) _ _ _⟩
      · have he0 : e ≠ 0 := by rcases hee with rfl | rfl <;> decide
        rw [spV_no (by rw [spE_at he hqk hj he0]; exact he0), spE_at he hqk hj he0, errV_pos he0]
        unfold noSpot
        have h8 := H8.out
        rw [hql] at h8
        rw [hj] at HF
        simp only [valO] at HF
        rw [errV_pos he0] at HF
        unfold ptr at HF
        clear HN hnm hqk he hn hj hl H8 hql hee he0
        go_enter Tryz.func42, Tryz.ntmps42
        go_wp2_with (first
          | (go_at_call 9; refine (HP.out _).mono ?_; rintro e w' ⟨v, rfl, hv, hb⟩; obtain ⟨hx, hb2⟩ := box3_new hb; obtain ⟨c0, c1, c2, f0, f1, f2⟩ := hx.facts; obtain ⟨a, c, b, o, rfl, hcn, rfl, hv2, hck⟩ := HV.out _ _ hv)
          | (go_at_call 67; refine (HF.out _ _ _ hb2 hv2).mono ?_; rintro e w' ⟨rfl, rfl⟩))
        refine bodyPost_ret (v := .tuple #[.agg #[.pointer none, .string ⟨#[]⟩, .int .i64 0], .iface 65 (.int .i64 (e : Int))]) ?_ rfl ?_
        · rw [results_cell_tmp rfl]
          go_simp
        · exact ⟨rfl, below_set3 hb2 (Nat.le_refl _) _ _ _⟩
  · rw [spV_no (by rw [spE_path he]; exact he), spE_path he]
    unfold noSpot
    rw [errV_pos he]
    rw [errV_pos he] at HP
    generalize pE s.data.toList = E at *
    clear he
    go_enter Tryz.func42, Tryz.ntmps42
    go_wp2_with (go_at_call 9; refine (HP.out _).mono ?_; rintro e w' ⟨v, rfl, hv, hb⟩; obtain ⟨hx, hb2⟩ := box3_new hb; obtain ⟨c0, c1, c2, f0, f1, f2⟩ := hx.facts)
    refine bodyPost_ret (v := .tuple #[.agg #[.pointer none, .string ⟨#[]⟩, .int .i64 0], .iface 65 (.int .i64 (E : Int))]) ?_ rfl ?_
    · rw [results_cell_tmp rfl]
      go_simp
    · exact ⟨rfl, below_set3 hb2 (Nat.le_refl _) _ _ _⟩

end Go.Proofs.YtdlmkienogimgaaGreatDoor
