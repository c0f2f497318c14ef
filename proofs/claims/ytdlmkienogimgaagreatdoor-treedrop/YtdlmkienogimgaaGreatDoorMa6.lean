/- This text joins 4 parts of a proof. (1) This text proves what New, newDir, and a spot's what, set and clear do; the conditions are that the spot's directory lies there, and that there is room in it. (2) This text proves what at and spotOf answer: what is at a path, and the spot of a path, or what is wrong; old memory is as it was; the conditions are that the tree lies there, that a text is no longer than texts can be, and that the library's variable internal/bytealg.MaxLen holds some number. (3) This text proves what spotOf answers: the spot of a path, or what is wrong; old memory is as it was; the conditions are those of at. (4) This text proves what freeSpotOf answers: the spot of a path whose name is not there, or what is wrong; old memory is as it was; the conditions are those of at. -/
import Derived.Test.YtdlmkienogimgaaGreatDoorMa5
import Derived.Laws.ResultCell
namespace Go.Proofs.YtdlmkienogimgaaGreatDoor
open Go.RowKit Go.Deep Go.Shelf Go.Maps

set_option maxRecDepth 100000 in
theorem newDir_any (w : World) : Calls Tryz.prog 45 #[] w fun e w' => e = .returned (ptr (w.heap.size + 1)) ∧ w' = (w.alloc (.map #[] 0)).alloc (.cells #[.map (some w.heap.size)] 77) := by
  have hmm := @run_makeMap Tryz.prog
  go_enter Tryz.func45, Tryz.ntmps45
  go_wp2
  go_ret
  exact ⟨by simp [ptr], rfl⟩

theorem below_draw (w : World) (B : Nat) : Below B w w.drew := ⟨rfl, rfl, rfl, Nat.le_refl _, fun _ _ => rfl⟩

set_option maxRecDepth 100000 in
theorem what_any (w : World) (d m : Nat) (k : List UInt8) (n : Int) (f : List UInt8 → Option Nat) (hd : NodeAt w d (some m)) (hM : MapIs w m f) (hk : k.length ≤ 1000) :
    Calls Tryz.prog 43 #[.agg #[ptr d, .string (bs k), .int .i64 n]] w fun e w' => e = .returned (.tuple #[valO (f k), .bool (f k).isSome]) ∧ Below w.heap.size w w' := by
  obtain ⟨O, hO⟩ : ∃ O, (Obj.cells #[ptr d, .string (bs k), .int .i64 n] 79) = O := ⟨_, rfl⟩
  have hd2 := (hd.alloc O).cell
  have hM2 := (hM.block (w' := (w.alloc O).drew) ((Below.refl w.heap.size w).alloc (Nat.le_refl _) O |>.block m hM.lt)).look (bs_short hk)
  simp only [data_bs] at hM2
  subst hO
  unfold ptr at hd2 hM2 ⊢
  clear hd hM
  go_enter Tryz.func43, Tryz.ntmps43
  go_wp2
  go_region
  go_wp2
  go_ret2
  exact ⟨rfl, (below_alloc w _).trans (below_draw _ _)⟩

/-- Nothing but maps is turned, and nothing below base. -/
structure Turned (base : Nat) (w w' : World) : Prop where
  below : Below base w w'
  rows : ∀ b, b < w.heap.size → (∀ es c, w.heap[b]? ≠ some (.map es c)) → w'.heap[b]? = w.heap[b]?

theorem Turned.of_below {w w' : World} {base : Nat} (h : Below w.heap.size w w') (hb : base ≤ w.heap.size) : Turned base w w' := ⟨h.mono hb, fun b hl _ => h.block b hl⟩
theorem Turned.trans {base : Nat} {a b c : World} (h : Turned base a b) (k : Turned base b c) : Turned base a c :=
  ⟨h.below.trans k.below, fun i hi hn => by
    have e := h.rows i hi hn
    rw [← e]
    exact k.rows i (Nat.lt_of_lt_of_le hi h.below.size) (fun es c => by rw [e]; exact hn es c)⟩
theorem Turned.refl (base : Nat) (w : World) : Turned base w w := ⟨Below.refl _ _, fun _ _ _ => rfl⟩
theorem turned_map {w w' : World} {base m : Nat} (h : w.mapTurned w' m) (hb : base ≤ m) : Turned base w w' ∧ (∀ b, b ≠ m → w'.heap[b]? = w.heap[b]?) ∧ w'.heap.size = w.heap.size := by
  obtain ⟨es, c, es', c', hm, rfl⟩ := h
  have ho : ∀ b, b ≠ m → (ChangeMaps.setBlock w m (.map es' c')).heap[b]? = w.heap[b]? := fun b hne => ChangeMaps.heap_setBlock_other hm _ hne
  refine ⟨⟨⟨rfl, rfl, rfl, by simp [ChangeMaps.setBlock], fun k hk => ho k (by omega)⟩, fun b _ hn => ho b (fun e => by subst e; exact hn _ _ hm)⟩, ho, by simp [ChangeMaps.setBlock]⟩

set_option maxRecDepth 100000 in
theorem set_any (w : World) (base d m j : Nat) (k : List UInt8) (n : Int) (f : List UInt8 → Option Nat) (hd : NodeAt w d (some m)) (hM : MapIs w m f) (hk : k.length ≤ 1000) (ks : List (List UInt8)) (hnd : ks.Nodup) (hm : ∀ k, k ∈ ks ↔ (f k).isSome = true) (hl : ks.length ≤ 1000) (hb : base ≤ m) (hbw : base ≤ w.heap.size) :
    Calls Tryz.prog 72 #[.agg #[ptr d, .string (bs k), .int .i64 n], ptr j] w fun e w' => e = .returned (.tuple #[]) ∧ MapIs w' m (upd f k (some j)) ∧ Turned base w w' ∧ ∀ b, b < w.heap.size → b ≠ m → w'.heap[b]? = w.heap[b]? := by
  obtain ⟨O, hO⟩ : ∃ O, (Obj.cells #[ptr d, .string (bs k), .int .i64 n] 79) = O := ⟨_, rfl⟩
  have hd2 := (hd.alloc O).cell
  have hB : Below w.heap.size w (w.alloc O) := (Below.refl w.heap.size w).alloc (Nat.le_refl _) O
  obtain ⟨w', h1, h2, h3⟩ := (hM.block (w' := (w.alloc O).drew) (hB.block m hM.lt)).put hnd hm hl (bs_short hk) j
  simp only [data_bs] at h2
  obtain ⟨g1, g2, g3⟩ := turned_map h3 hb
  have hT : Turned base w w' := (Turned.of_below hB hbw).trans ⟨⟨g1.below.os, g1.below.tape, g1.below.output, g1.below.size, g1.below.block⟩, g1.rows⟩
  have hO2 : ∀ b, b < w.heap.size → b ≠ m → w'.heap[b]? = w.heap[b]? := fun b hlb hne => (g2 b hne).trans (hB.block b hlb)
  have HZ : Hid (MapIs w' m (upd f k (some j)) ∧ Turned base w w' ∧ ∀ b, b < w.heap.size → b ≠ m → w'.heap[b]? = w.heap[b]?) := ⟨h2, hT, hO2⟩
  subst hO
  unfold ptr at hd2 h1 ⊢
  clear hd hM h2 h3 g1 g2 g3 hT hO2 hB hm hnd hl hb hbw
  go_enter Tryz.func72, Tryz.ntmps72
  go_wp2
  go_region
  go_end0
  exact ⟨rfl, HZ.out⟩

set_option maxRecDepth 100000 in
theorem clear_any (w : World) (base d m : Nat) (k : List UInt8) (n : Int) (f : List UInt8 → Option Nat) (hd : NodeAt w d (some m)) (hM : MapIs w m f) (hk : k.length ≤ 1000) (hb : base ≤ m) (hbw : base ≤ w.heap.size) :
    Calls Tryz.prog 44 #[.agg #[ptr d, .string (bs k), .int .i64 n]] w fun e w' => e = .returned (.tuple #[]) ∧ MapIs w' m (upd f k none) ∧ Turned base w w' ∧ ∀ b, b < w.heap.size → b ≠ m → w'.heap[b]? = w.heap[b]? := by
  obtain ⟨O, hO⟩ : ∃ O, (Obj.cells #[ptr d, .string (bs k), .int .i64 n] 79) = O := ⟨_, rfl⟩
  have hd2 := (hd.alloc O).cell
  have hB : Below w.heap.size w (w.alloc O) := (Below.refl w.heap.size w).alloc (Nat.le_refl _) O
  obtain ⟨w', h1, h2, h3⟩ := (hM.block (w' := (w.alloc O).drew) (hB.block m hM.lt)).cut (bs_short hk) 0
  simp only [data_bs] at h2
  obtain ⟨g1, g2, g3⟩ := turned_map h3 hb
  have hT : Turned base w w' := (Turned.of_below hB hbw).trans ⟨⟨g1.below.os, g1.below.tape, g1.below.output, g1.below.size, g1.below.block⟩, g1.rows⟩
  have hO2 : ∀ b, b < w.heap.size → b ≠ m → w'.heap[b]? = w.heap[b]? := fun b hlb hne => (g2 b hne).trans (hB.block b hlb)
  have HZ : Hid (MapIs w' m (upd f k none) ∧ Turned base w w' ∧ ∀ b, b < w.heap.size → b ≠ m → w'.heap[b]? = w.heap[b]?) := ⟨h2, hT, hO2⟩
  subst hO
  unfold ptr at hd2 h1 ⊢
  clear hd hM h2 h3 g1 g2 g3 hT hO2 hB hb hbw
  go_enter Tryz.func44, Tryz.ntmps44
  go_wp2
  go_region
  go_end0
  exact ⟨rfl, HZ.out⟩

end Go.Proofs.YtdlmkienogimgaaGreatDoor

namespace Go.Proofs.YtdlmkienogimgaaGreatDoor
open Go.RowKit Go.Deep Go.Shelf Go.Maps

theorem fo_cases {L : List Ent} {M : Nat → Option Nat} (hG : Good L M) : ∀ (ks p : List (List UInt8)) (i : Nat), look L p = some i →
    (∃ j, fo L M p i ks = (0, some j) ∧ look L (p ++ ks) = some j) ∨ (∃ e, (e = 3 ∨ e = 5) ∧ fo L M p i ks = (e, none) ∧ look L (p ++ ks) = none)
  | [], p, i, h => .inl ⟨i, rfl, by rw [List.append_nil]; exact h⟩
  | k :: ks, p, i, h => by
    cases hM : M i with
    | none =>
      refine .inr ⟨3, .inl rfl, fo_file hM, ?_⟩
      cases hj : look L (p ++ k :: ks) with
      | none => rfl
      | some j =>
        obtain ⟨d, hd, hm⟩ := hG.above (k :: ks) p j (by simp) (look_mem hj)
        rw [hG.uni.same hd (look_mem h), hM] at hm
        cases hm
    | some m =>
      have e : p ++ k :: ks = (p ++ [k]) ++ ks := by simp
      cases hl : look L (p ++ [k]) with
      | none =>
        refine .inr ⟨5, .inr rfl, fo_none hM hl, ?_⟩
        cases hj : look L (p ++ k :: ks) with
        | none => rfl
        | some j =>
          rw [e] at hj
          obtain ⟨d, hd⟩ := hG.upto ks (p ++ [k]) j (look_mem hj)
          exact absurd hd (look_none.1 hl d)
      | some j =>
        rw [fo_some hM hl, e]
        exact fo_cases hG ks (p ++ [k]) j hl
theorem atF_cases {L : List Ent} {M : Nat → Option Nat} (hG : Good L M) (ns : List (List UInt8)) :
    (∃ j, atF L M ns = (0, some j) ∧ look L ns = some j) ∨ (∃ e, (e = 3 ∨ e = 5) ∧ atF L M ns = (e, none) ∧ look L ns = none) :=
  fo_cases hG ns [] _ (root_look hG)

/-- What is at the path of a text. -/
def atS (L : List Ent) (M : Nat → Option Nat) (l : List UInt8) : Nat × Option Nat := if pE l = 0 then atF L M (pN l) else (pE l, none)

/-- The spot of a text's path. -/
def spE (L : List Ent) (M : Nat → Option Nat) (l : List UInt8) : Nat :=
  if pE l ≠ 0 then pE l else if pN l = [] then 7 else if (atF L M (pN l).dropLast).1 ≠ 0 then (atF L M (pN l).dropLast).1 else if M ((atF L M (pN l).dropLast).2.getD 0) = none then 3 else 0
def lastN (l : List UInt8) : List UInt8 := (pN l).getLast?.getD []
def noSpot : Value := .agg #[.pointer none, .string ⟨#[]⟩, .int .i64 0]
def spV (L : List Ent) (M : Nat → Option Nat) (l : List UInt8) : Value :=
  if spE L M l = 0 then .agg #[ptr ((atF L M (pN l).dropLast).2.getD 0), .string (bs (lastN l)), .int .i64 ((pN l).length : Int)] else noSpot

theorem spE_zero {L : List Ent} {M : Nat → Option Nat} (hG : Good L M) {l : List UInt8} (h : spE L M l = 0) :
    ∃ q k d m, pE l = 0 ∧ pN l = q ++ [k] ∧ isN k = true ∧ look L q = some d ∧ M d = some m ∧ spV L M l = .agg #[ptr d, .string (bs k), .int .i64 ((q.length : Int) + 1)] := by
  have h0 := h
  unfold spE at h
  split at h
  · rename_i h1; exact absurd h h1
  · rename_i h1
    have h1' : pE l = 0 := by simpa using h1
    split at h
    · cases h
    · rename_i h2
      split at h
      · rename_i h3; exact absurd h h3
      · rename_i h3
        split at h
        · cases h
        · rename_i h4
          have hc : pN l = (pN l).dropLast ++ [(pN l).getLast h2] := (List.dropLast_concat_getLast h2).symm
          rcases atF_cases hG (pN l).dropLast with ⟨j, hj, hl⟩ | ⟨e, he, hj, hl⟩
          · rw [hj] at h4
            simp only [Option.getD_some] at h4
            cases hm : M j with
            | none => exact absurd hm h4
            | some m =>
              refine ⟨_, _, j, m, h1', hc, fol_names _ _ (List.getLast_mem h2), hl, hm, ?_⟩
              unfold spV lastN
              rw [if_pos h0, hj, List.getLast?_eq_some_getLast h2]
              have : ((pN l).length : Int) = ((pN l).dropLast.length : Int) + 1 := by
                have := congrArg List.length hc
                rw [List.length_append, List.length_singleton] at this
                omega
              rw [this]; rfl
          · rw [hj] at h3
            rcases he with rfl | rfl <;> simp at h3

set_option maxHeartbeats 4000000 in
theorem at_any (w : World) (base t : Nat) (L : List Ent) (M : Nat → Option Nat) (h : TreeAt w base t L M) (s : ByteArray) (hs : s.size ≤ maxLen) (hm : Mx w) :
    Calls Tryz.prog 39 #[ptr t, .string s] w fun e w' => e = .returned (.tuple #[valO (atS L M s.data.toList).2, errV (atS L M s.data.toList).1]) ∧ Below w.heap.size w w' := by
  have HP : Hid _ := fun (_ : Nat) => parts_any w s hs hm
  have HT : Hid (TreeAt w base t L M) := h
  clear h hs hm
  unfold ptr
  by_cases he : pE s.data.toList = 0
  · have HA : Hid (atS L M s.data.toList = atF L M (nms s.data.toList)) := by show atS L M s.data.toList = atF L M (nms s.data.toList); unfold atS nms; rw [if_pos he, if_pos he]
    have HN : Hid (∀ k ∈ nms s.data.toList, k.length ≤ 1000) := by
      show ∀ k ∈ nms s.data.toList, k.length ≤ 1000
      intro k hk
      unfold nms at hk
      rw [if_pos he] at hk
      have := isN_len (fol_names _ k hk)
      omega
    rw [he, errV_zero] at HP
    rw [HA.out]
    generalize nms s.data.toList = ns at *
    clear he HA
    obtain ⟨R, hR⟩ : ∃ R, atF L M ns = R := ⟨_, rfl⟩
    have HF : Hid _ := fun (w' : World) (v : Value) (hb : Below w.heap.size w w') (hv : StrsIs w' v ns) => follow_any w' base t L M (HT.out.later hb) v ns hv HN.out
    rw [hR] at HF ⊢
    unfold ptr at HF
    clear hR
    obtain ⟨R1, R2⟩ := R
    generalize valO R2 = V at *
    generalize errV R1 = E at *
    go_enter Tryz.func39, Tryz.ntmps39
    go_wp2_with (first
      | (go_at_call 9; refine (HP.out 0).mono ?_; rintro e w' ⟨v, rfl, hv, hb⟩)
      | (go_at_call 67; refine (HF.out _ _ hb hv).mono ?_; rintro e w' ⟨rfl, rfl⟩))
    go_ret2
    exact ⟨rfl, hb⟩
  · have HA : Hid (atS L M s.data.toList = (pE s.data.toList, none)) := if_neg he
    rw [errV_pos he] at HP
    rw [HA.out]
    simp only [valO]
    rw [errV_pos he]
    generalize pE s.data.toList = E at *
    clear HA he
    go_enter Tryz.func39, Tryz.ntmps39
    go_wp2_with (go_at_call 9; refine (HP.out 0).mono ?_; rintro e w' ⟨v, rfl, hv, hb⟩)
    go_ret2
    exact ⟨rfl, hb⟩

end Go.Proofs.YtdlmkienogimgaaGreatDoor

namespace Go.Proofs.YtdlmkienogimgaaGreatDoor
open Go.RowKit Go.Deep Go.Shelf Go.Maps

theorem spE_path {L : List Ent} {M : Nat → Option Nat} {l : List UInt8} (h : pE l ≠ 0) : spE L M l = pE l := if_pos h
theorem spE_root {L : List Ent} {M : Nat → Option Nat} {l : List UInt8} (h : pE l = 0) (h2 : pN l = []) : spE L M l = 7 := by
  unfold spE; rw [if_neg (by simp [h]), if_pos h2]
theorem spE_at {L : List Ent} {M : Nat → Option Nat} {l : List UInt8} {q : List (List UInt8)} {k : List UInt8} {e : Nat} {o : Option Nat} (h : pE l = 0) (h2 : pN l = q ++ [k]) (h3 : atF L M q = (e, o)) (h4 : e ≠ 0) : spE L M l = e := by
  unfold spE
  rw [if_neg (by simp [h]), if_neg (by simp [h2]), h2, List.dropLast_concat, h3, if_pos h4]
theorem spE_file {L : List Ent} {M : Nat → Option Nat} {l : List UInt8} {q : List (List UInt8)} {k : List UInt8} {j : Nat} (h : pE l = 0) (h2 : pN l = q ++ [k]) (h3 : atF L M q = (0, some j)) (h4 : M j = none) : spE L M l = 3 := by
  unfold spE
  rw [if_neg (by simp [h]), if_neg (by simp [h2]), h2, List.dropLast_concat, h3, if_neg (by simp), Option.getD_some, if_pos h4]
theorem spE_good {L : List Ent} {M : Nat → Option Nat} {l : List UInt8} {q : List (List UInt8)} {k : List UInt8} {j m : Nat} (h : pE l = 0) (h2 : pN l = q ++ [k]) (h3 : atF L M q = (0, some j)) (h4 : M j = some m) : spE L M l = 0 ∧ spV L M l = .agg #[ptr j, .string (bs k), .int .i64 ((q.length : Int) + 1)] := by
  have h0 : spE L M l = 0 := by
    unfold spE
    rw [if_neg (by simp [h]), if_neg (by simp [h2]), h2, List.dropLast_concat, h3, if_neg (by simp), Option.getD_some, if_neg (by rw [h4]; simp)]
  refine ⟨h0, ?_⟩
  unfold spV lastN
  rw [if_pos h0, h2, List.dropLast_concat, h3]
  simp
theorem spV_no {L : List Ent} {M : Nat → Option Nat} {l : List UInt8} (h : spE L M l ≠ 0) : spV L M l = noSpot := if_neg h

/-- A block of three cells. -/
abbrev Box3 (w : World) (b : Nat) (x y z : Value) : Prop := w.heap[b]? = some (.cells #[x, y, z] 79 (0, 0))
theorem Box3.facts {w : World} {b : Nat} {x y z : Value} (h : Box3 w b x y z) : w.cell? ⟨b, 0, none⟩ = some x ∧ w.cell? ⟨b, 1, none⟩ = some y ∧ w.cell? ⟨b, 2, none⟩ = some z ∧ w.frozen? ⟨b, 0, none⟩ = false ∧ w.frozen? ⟨b, 1, none⟩ = false ∧ w.frozen? ⟨b, 2, none⟩ = false := by
  have h' : w.heap[b]? = _ := h
  simp [World.cell?, World.frozen?, h']
theorem box3_new {w w' : World} {x y z : Value} (hb : Below (w.alloc (.cells #[x, y, z] 79)).heap.size (w.alloc (.cells #[x, y, z] 79)) w') : Box3 w' w.heap.size x y z ∧ Below w.heap.size w w' :=
  ⟨(hb.block _ (by simp)).trans (blk_alloc_new _ _), (below_alloc w _).trans (hb.mono (by simp))⟩
theorem below_set3 {w w' : World} {b : Nat} (hb : Below w.heap.size w w') (hle : w.heap.size ≤ b) (x y z : Value) : Below w.heap.size w (((w'.setCell ⟨b, 0, none⟩ x).setCell ⟨b, 1, none⟩ y).setCell ⟨b, 2, none⟩ z) :=
  ((hb.setCell (p := ⟨b, 0, none⟩) hle x).setCell (p := ⟨b, 1, none⟩) hle y).setCell (p := ⟨b, 2, none⟩) hle z

set_option maxHeartbeats 4000000 in
set_option maxRecDepth 100000 in
theorem spotOf_any (w : World) (base t : Nat) (L : List Ent) (M : Nat → Option Nat) (h : TreeAt w base t L M) (s : ByteArray) (hs : s.size ≤ maxLen) (hm : Mx w) :
    Calls Tryz.prog 42 #[ptr t, .string s] w fun e w' => e = .returned (.tuple #[spV L M s.data.toList, errV (spE L M s.data.toList)]) ∧ Below w.heap.size w w' := by
  have HP : Hid _ := fun (o : Obj) => parts_any (w.alloc o) s hs (hm.later (below_alloc w o))
  have HT : Hid (TreeAt w base t L M) := h
  clear h hs hm
  unfold ptr
  by_cases he : pE s.data.toList = 0
  · by_cases hn : pN s.data.toList = []
    · rw [spV_no (by rw [spE_root he hn]; decide), spE_root he hn]
      unfold noSpot
      rw [errV_pos (by decide)]
      rw [he, errV_zero] at HP
      have HN : Hid (nms s.data.toList = []) := by show nms s.data.toList = []; unfold nms; rw [if_pos he]; exact hn
      rw [HN.out] at HP
      clear HN he hn
      go_enter Tryz.func42, Tryz.ntmps42
      go_wp2_with (go_at_call 9; refine (HP.out _).mono ?_; rintro e w' ⟨v, rfl, hv, hb⟩; obtain ⟨hx, hb2⟩ := box3_new hb; obtain ⟨c0, c1, c2, f0, f1, f2⟩ := hx.facts; obtain ⟨a, c, rfl, _⟩ := id hv)
      refine bodyPost_ret (v := .tuple #[.agg #[.pointer none, .string ⟨#[]⟩, .int .i64 0], .iface 65 (.int .i64 7)]) ?_ rfl ?_
      · rw [results_cell_tmp rfl]
        go_simp
      · exact ⟨rfl, below_set3 hb2 (Nat.le_refl _) _ _ _⟩
    · obtain ⟨q, k, hqk⟩ : ∃ q k, pN s.data.toList = q ++ [k] := ⟨_, _, (List.dropLast_concat_getLast hn).symm⟩
      have hnm : nms s.data.toList = q ++ [k] := by unfold nms; rw [if_pos he]; exact hqk
      have HN : Hid (∀ x ∈ q, x.length ≤ 1000) := by
        show ∀ x ∈ q, x.length ≤ 1000
        intro x hx
        have := isN_len (fol_names (spl (s.data.toList.drop 1)) x (by rw [show fol (spl (s.data.toList.drop 1)) = pN s.data.toList from rfl, hqk]; exact List.mem_append_left _ hx))
        omega
      have H8 : Hid (q.length ≤ 8) := by
        show q.length ≤ 8
        have := (pE_ok he).2.2.2
        rw [hqk, List.length_append, List.length_singleton] at this
        omega
      rw [hnm, he, errV_zero] at HP
      obtain ⟨n, hql⟩ : ∃ n, q.length = n := ⟨_, rfl⟩
      have HF : Hid _ := fun (w' : World) (a : Option Addr) (c : Nat) (hb : Below w.heap.size w w') (hv : StrsIs w' (.slice a n c) q) => follow_any w' base t L M (HT.out.later hb) _ q hv HN.out
      have HV : Hid (∀ (w' : World) (v : Value), StrsIs w' v (q ++ [k]) → ∃ a c b o, v = .slice a (n + 1) c ∧ n + 1 ≤ c ∧ a = some ⟨b, o, none⟩ ∧ StrsIs w' (.slice a n c) q ∧ w'.cell? ⟨b, o + n, none⟩ = some (.string (bs k))) := by
        show ∀ (w' : World) (v : Value), StrsIs w' v (q ++ [k]) → ∃ a c b o, v = .slice a (n + 1) c ∧ n + 1 ≤ c ∧ a = some ⟨b, o, none⟩ ∧ StrsIs w' (.slice a n c) q ∧ w'.cell? ⟨b, o + n, none⟩ = some (.string (bs k))
        intro w' v hv
        obtain ⟨a, c, b, o, rfl, hc, _, ha, hcs⟩ := hv.where
        have hlen : (q ++ [k]).length = n + 1 := by rw [List.length_append, List.length_singleton, hql]
        have hl := hv.less
        rw [hlen, List.dropLast_concat, Nat.add_sub_cancel] at hl
        rw [hlen] at hc ha hcs ⊢
        refine ⟨a, c, b, o, rfl, hc, (ha (by omega)).1, hl, ?_⟩
        have := hcs n (by omega)
        rw [sth_lt (by rw [hlen]; omega), List.getElem_append_right (by omega)] at this
        simpa using this
      rcases atF_cases HT.out.good q with ⟨j, hj, hl⟩ | ⟨e, hee, hj, hl⟩
      · obtain ⟨hnode, _⟩ := HT.out.node _ _ (look_mem hl)
        have HI : Hid _ := fun (w' : World) (hb : Below w.heap.size w w') => isDir_any w' j (M j) ((hb.block _ hnode.lt).trans hnode)
        rw [hj] at HF
        cases hM : M j with
        | none =>
          rw [spV_no (by rw [spE_file he hqk hj hM]; decide), spE_file he hqk hj hM, errV_pos (by decide)]
          rw [hM] at HI
          unfold noSpot
          have h8 := H8.out
          rw [hql] at h8
          simp only [valO, errV_zero] at HF
          unfold ptr at HF HI
          clear HN hnm hqk he hn hj hl hM hnode H8 hql
          go_enter Tryz.func42, Tryz.ntmps42
          go_wp2_with (first
            | (go_at_call 9; refine (HP.out _).mono ?_; rintro e w' ⟨v, rfl, hv, hb⟩; obtain ⟨hx, hb2⟩ := box3_new hb; obtain ⟨c0, c1, c2, f0, f1, f2⟩ := hx.facts; obtain ⟨a, c, b, o, rfl, hcn, rfl, hv2, hck⟩ := HV.out _ _ hv)
            | (go_at_call 67; refine (HF.out _ _ _ hb2 hv2).mono ?_; rintro e w' ⟨rfl, rfl⟩)
            | (go_at_call 33; refine (HI.out _ hb2).mono ?_; rintro e w' ⟨rfl, rfl⟩))
          refine bodyPost_ret (v := .tuple #[.agg #[.pointer none, .string ⟨#[]⟩, .int .i64 0], .iface 65 (.int .i64 3)]) ?_ rfl ?_
          · rw [results_cell_tmp rfl]
            go_simp
          · exact ⟨rfl, below_set3 hb2 (Nat.le_refl _) _ _ _⟩
        | some m =>
          obtain ⟨hE, hV⟩ := spE_good he hqk hj hM
          rw [hE, hV, hql, errV_zero]
          rw [hM] at HI
          have h8 := H8.out
          rw [hql] at h8
          simp only [valO, errV_zero] at HF
          unfold ptr at HF HI ⊢
          clear HN hnm hqk he hn hj hl hM hnode H8 hql hE hV
          go_enter Tryz.func42, Tryz.ntmps42
          go_wp2_with (first
            | (go_at_call 9; refine (HP.out _).mono ?_; rintro e w' ⟨v, rfl, hv, hb⟩; obtain ⟨hx, hb2⟩ := box3_new hb; obtain ⟨c0, c1, c2, f0, f1, f2⟩ := hx.facts; obtain ⟨a, c, b, o, rfl, hcn, rfl, hv2, hck⟩ := HV.out _ _ hv)
            | (go_at_call 67; refine (HF.out _ _ _ hb2 hv2).mono ?_; rintro e w' ⟨rfl, rfl⟩)
            | (go_at_call 33; refine (HI.out _ hb2).mono ?_; rintro e w' ⟨rfl, rfl⟩))
          refine bodyPost_ret (v := .tuple #[.agg #[.pointer (some ⟨j, 0, none⟩), .string (bs k), .int .i64 ((n : Int) + 1)], .nilIface]) ?_ rfl ?_
          · rw [results_cell_tmp rfl]
            go_simp
          · exact ⟨rfl, below_set3 hb2 (Nat.le_refl _) _ _ _⟩
      · have he0 : e ≠ 0 := by rcases hee with rfl | rfl <;> decide
        rw [spV_no (by rw [spE_at he hqk hj he0]; exact he0), spE_at he hqk hj he0, errV_pos he0]
        unfold noSpot
        have h8 := H8.out
        rw [hql] at h8
        rw [hj] at HF
        simp only [valO] at HF
        rw [errV_pos he0] at HF
        unfold ptr at HF
        clear HN hnm hqk he hn hj hl H8 hql hee he0
        go_enter Tryz.func42, Tryz.ntmps42
        go_wp2_with (first
          | (go_at_call 9; refine (HP.out _).mono ?_; rintro e w' ⟨v, rfl, hv, hb⟩; obtain ⟨hx, hb2⟩ := box3_new hb; obtain ⟨c0, c1, c2, f0, f1, f2⟩ := hx.facts; obtain ⟨a, c, b, o, rfl, hcn, rfl, hv2, hck⟩ := HV.out _ _ hv)
          | (go_at_call 67; refine (HF.out _ _ _ hb2 hv2).mono ?_; rintro e w' ⟨rfl, rfl⟩))
        refine bodyPost_ret (v := .tuple #[.agg #[.pointer none, .string ⟨#[]⟩, .int .i64 0], .iface 65 (.int .i64 (e : Int))]) ?_ rfl ?_
        · rw [results_cell_tmp rfl]
          go_simp
        · exact ⟨rfl, below_set3 hb2 (Nat.le_refl _) _ _ _⟩
  · rw [spV_no (by rw [spE_path he]; exact he), spE_path he]
    unfold noSpot
    rw [errV_pos he]
    rw [errV_pos he] at HP
    generalize pE s.data.toList = E at *
    clear he
    go_enter Tryz.func42, Tryz.ntmps42
    go_wp2_with (go_at_call 9; refine (HP.out _).mono ?_; rintro e w' ⟨v, rfl, hv, hb⟩; obtain ⟨hx, hb2⟩ := box3_new hb; obtain ⟨c0, c1, c2, f0, f1, f2⟩ := hx.facts)
    refine bodyPost_ret (v := .tuple #[.agg #[.pointer none, .string ⟨#[]⟩, .int .i64 0], .iface 65 (.int .i64 (E : Int))]) ?_ rfl ?_
    · rw [results_cell_tmp rfl]
      go_simp
    · exact ⟨rfl, below_set3 hb2 (Nat.le_refl _) _ _ _⟩

end Go.Proofs.YtdlmkienogimgaaGreatDoor

namespace Go.Proofs.YtdlmkienogimgaaGreatDoor
open Go.RowKit Go.Deep Go.Shelf Go.Maps

def frE (L : List Ent) (M : Nat → Option Nat) (l : List UInt8) : Nat := if spE L M l ≠ 0 then spE L M l else if (look L (pN l)).isSome then 6 else 0
def frV (L : List Ent) (M : Nat → Option Nat) (l : List UInt8) : Value := if frE L M l = 0 then spV L M l else noSpot

theorem Box3.alloc {w : World} {b : Nat} {x y z : Value} (h : Box3 w b x y z) (o : Obj) : Box3 (w.alloc o) b x y z := by
  have hl : b < w.heap.size := (Array.getElem?_eq_some_iff.1 h).1
  exact ((below_alloc w o).block b hl).trans h
theorem Box3.later {w w' : World} {b : Nat} {x y z : Value} (h : Box3 w b x y z) (hb : Below w.heap.size w w') : Box3 w' b x y z :=
  (hb.block b (Array.getElem?_eq_some_iff.1 h).1).trans h
theorem box3_lt {w : World} {b : Nat} {x y z : Value} (h : Box3 w b x y z) : b < w.heap.size := (Array.getElem?_eq_some_iff.1 h).1
/-- The cells of a block, in every world with one block more. -/
theorem Box3.ahead {w : World} {b : Nat} {x y z : Value} (h : Box3 w b x y z) : (∀ o, (w.alloc o).cell? ⟨b, 0, none⟩ = some x) ∧ (∀ o, (w.alloc o).cell? ⟨b, 1, none⟩ = some y) ∧ (∀ o, (w.alloc o).cell? ⟨b, 2, none⟩ = some z) ∧ (∀ o, (w.alloc o).frozen? ⟨b, 0, none⟩ = false) ∧ (∀ o, (w.alloc o).frozen? ⟨b, 1, none⟩ = false) ∧ (∀ o, (w.alloc o).frozen? ⟨b, 2, none⟩ = false) :=
  ⟨fun o => (h.alloc o).facts.1, fun o => (h.alloc o).facts.2.1, fun o => (h.alloc o).facts.2.2.1, fun o => (h.alloc o).facts.2.2.2.1, fun o => (h.alloc o).facts.2.2.2.2.1, fun o => (h.alloc o).facts.2.2.2.2.2⟩
theorem box3_here {w w2 : World} {x y z : Value} (hb : Below (w.alloc (.cells #[x, y, z] 79)).heap.size (w.alloc (.cells #[x, y, z] 79)) w2) : Box3 w2 w.heap.size x y z := (box3_new hb).1

set_option maxHeartbeats 4000000 in
set_option maxRecDepth 100000 in
theorem freeSpotOf_any (w : World) (base t : Nat) (L : List Ent) (M : Nat → Option Nat) (h : TreeAt w base t L M) (s : ByteArray) (hs : s.size ≤ maxLen) (hm : Mx w) :
    Calls Tryz.prog 70 #[ptr t, .string s] w fun e w' => e = .returned (.tuple #[frV L M s.data.toList, errV (frE L M s.data.toList)]) ∧ Below w.heap.size w w' := by
  have HP : Hid _ := fun (o : Obj) => spotOf_any (w.alloc o) base t L M (h.later (below_alloc w o)) s hs (hm.later (below_alloc w o))
  have HT : Hid (TreeAt w base t L M) := h
  clear h hs hm
  by_cases he : spE L M s.data.toList = 0
  · obtain ⟨q, k, d, m, hp, hqk, hk, hl, hM, hV⟩ := spE_zero HT.out.good he
    obtain ⟨hmap, _⟩ := HT.out.maps _ _ _ (look_mem hl) hM
    obtain ⟨hnode, _⟩ := HT.out.node _ _ (look_mem hl)
    rw [hM] at hnode
    have hkl := isN_len hk
    have HW : Hid _ := fun (w' : World) (n : Int) (hb : Below w.heap.size w w') => what_any w' d m k n _ ((hb.block _ hnode.lt).trans hnode) (hmap.block (hb.block _ hmap.lt)) (by omega)
    rw [he, hV, errV_zero] at HP
    cases hf : look L (q ++ [k]) with
    | some j =>
      have hE : frE L M s.data.toList = 6 := by unfold frE; rw [if_neg (by simp [he]), hqk, hf]; rfl
      unfold frV
      rw [if_neg (by rw [hE]; decide), hE, errV_pos (by decide)]
      unfold noSpot
      rw [hf] at HW
      simp only [valO] at HW
      generalize hN : ((q.length : Int) + 1) = n at *
      unfold ptr at HW HP ⊢
      clear hV hE hl hM hmap hnode hqk hp he hN hk hkl hf
      go_enter Tryz.func70, Tryz.ntmps70
      go_wp2_with (first
        | (go_at_call 42; refine (HP.out _).mono ?_; rintro e w' ⟨rfl, hb⟩; obtain ⟨hx, hb2⟩ := box3_new hb; obtain ⟨c0, c1, c2, f0, f1, f2⟩ := hx.ahead)
        | (go_at_call 43; refine (HW.out _ _ (hb2.trans ((below_alloc w' _).mono hb2.size))).mono ?_; rintro e w2 ⟨rfl, hb3⟩; obtain ⟨d0, d1, d2, _⟩ := (box3_here hb3).facts; obtain ⟨e0, e1, e2, g0, g1, g2⟩ := ((hx.alloc _).later hb3).facts))
      refine bodyPost_ret (v := .tuple #[.agg #[.pointer none, .string ⟨#[]⟩, .int .i64 0], .iface 65 (.int .i64 6)]) ?_ rfl ?_
      · rw [results_cell_tmp rfl]
        go_simp
      · exact ⟨rfl, below_set3 (hb2.trans (((below_alloc w' _).trans (hb3.mono (by simp))).mono hb2.size)) (Nat.le_refl _) _ _ _⟩
    | none =>
      have hE : frE L M s.data.toList = 0 := by unfold frE; rw [if_neg (by simp [he]), hqk, hf]; rfl
      unfold frV
      rw [if_pos hE, hE, hV, errV_zero]
      rw [hf] at HW
      simp only [valO] at HW
      generalize hN : ((q.length : Int) + 1) = n at *
      unfold ptr at HW HP ⊢
      clear hV hE hl hM hmap hnode hqk hp he hN hk hkl hf
      go_enter Tryz.func70, Tryz.ntmps70
      go_wp2_with (first
        | (go_at_call 42; refine (HP.out _).mono ?_; rintro e w' ⟨rfl, hb⟩; obtain ⟨hx, hb2⟩ := box3_new hb; obtain ⟨c0, c1, c2, f0, f1, f2⟩ := hx.ahead)
        | (go_at_call 43; refine (HW.out _ _ (hb2.trans ((below_alloc w' _).mono hb2.size))).mono ?_; rintro e w2 ⟨rfl, hb3⟩; obtain ⟨d0, d1, d2, _⟩ := (box3_here hb3).facts; obtain ⟨e0, e1, e2, g0, g1, g2⟩ := ((hx.alloc _).later hb3).facts))
      refine bodyPost_ret (v := .tuple #[.agg #[.pointer (some ⟨d, 0, none⟩), .string (bs k), .int .i64 n], .nilIface]) ?_ rfl ?_
      · rw [results_cell_tmp rfl]
        go_simp
      · exact ⟨rfl, below_set3 (hb2.trans (((below_alloc w' _).trans (hb3.mono (by simp))).mono hb2.size)) (Nat.le_refl _) _ _ _⟩
  · have hE : frE L M s.data.toList = spE L M s.data.toList := if_pos he
    unfold frV
    rw [if_neg (by rw [hE]; exact he), hE, errV_pos he]
    rw [errV_pos he, spV_no he] at HP
    unfold noSpot at HP ⊢
    generalize spE L M s.data.toList = E at *
    unfold ptr at HP ⊢
    clear he hE
    go_enter Tryz.func70, Tryz.ntmps70
    go_wp2_with (go_at_call 42; refine (HP.out _).mono ?_; rintro e w' ⟨rfl, hb⟩; obtain ⟨hx, hb2⟩ := box3_new hb; obtain ⟨c0, c1, c2, f0, f1, f2⟩ := hx.ahead)
    refine bodyPost_ret (v := .tuple #[.agg #[.pointer none, .string ⟨#[]⟩, .int .i64 0], .iface 65 (.int .i64 (E : Int))]) ?_ rfl ?_
    · rw [results_cell_tmp rfl]
      go_simp
    · exact ⟨rfl, below_set3 (hb2.trans ((below_alloc w' _).mono hb2.size)) (Nat.le_refl _) _ _ _⟩

end Go.Proofs.YtdlmkienogimgaaGreatDoor
