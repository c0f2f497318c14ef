/- This text proves what is true of each path that a tree's walk tells: it is clean, what is ahead of its last name is a directory that lists it, and it is listed just where it ends in /; it speaks of no call; no condition. -/
import Derived.Test.YtdlmkienogimgaaGreatDoorT23
import Derived.Test.YtdlmkienogimgaaGreatDoorTLst
import Derived.Test.YtdlmkienogimgaaGreatDoorQ8s
import Derived.Laws.Cover1
import Derived.Sort.Walk0
namespace Go.Proofs.YtdlmkienogimgaaGreatDoor
open Go.RowKit Go.Deep Go.Shelf Go.Maps

theorem last_is {x : ByteArray} (h : 1 ≤ x.size) (h47 : (x[x.size - 1]'(by omega)).toNat = 47) : x.data.toList.getLast? = some 47 := by
  have hl : x.data.toList.length = x.size := by rw [Lib.size_eq]
  have hi : x.size - 1 < x.data.toList.length := by omega
  have e : x[x.size - 1]'(by omega) = 47 := UInt8.toNat_inj.1 h47
  rw [List.getLast?_eq_getElem?, hl, List.getElem?_eq_getElem hi, ← e]
  rfl
theorem is_last {x : ByteArray} (h : 1 ≤ x.size) (h47 : x.data.toList.getLast? = some 47) : (x[x.size - 1]'(by omega)).toNat = 47 := by
  have hl : x.data.toList.length = x.size := by rw [Lib.size_eq]
  have hi : x.size - 1 < x.data.toList.length := by omega
  rw [List.getLast?_eq_getElem?, hl, List.getElem?_eq_getElem hi] at h47
  have e : x[x.size - 1]'(by omega) = 47 := Option.some.inj h47
  rw [e]; rfl

theorem lsE_dir {L : List Ent} {M : Nat → Option Nat} (hG : Good L M) {l : List UInt8} {q : List (List UInt8)} {d m : Nat} (h1 : pE l = 0) (h2 : pN l = q) (h3 : look L q = some d) (h4 : M d = some m) : lsE L M l = 0 ∧ lsL L M l = kids L q := by
  have ha := atS_good hG h1 (by rw [h2]; exact h3)
  have hth : thing L M l = d := by unfold thing; rw [ha]; rfl
  have h0 : lsE L M l = 0 := by unfold lsE; rw [ha, hth, h4]; rfl
  exact ⟨h0, by unfold lsL; rw [if_pos h0, h2]⟩
theorem lsE_file {L : List Ent} {M : Nat → Option Nat} (hG : Good L M) {l : List UInt8} {q : List (List UInt8)} {d : Nat} (h1 : pE l = 0) (h2 : pN l = q) (h3 : look L q = some d) (h4 : M d = none) : lsE L M l = 3 := by
  have ha := atS_good hG h1 (by rw [h2]; exact h3)
  have hth : thing L M l = d := by unfold thing; rw [ha]; rfl
  unfold lsE; rw [ha, hth, h4]; rfl

/-- What the law asks of one path. -/
structure Hung (L : List Ent) (M : Nat → Option Nat) (X : List UInt8) (q : List (List UInt8)) (k : List UInt8) (dir : Bool) : Prop where
  right : pE X = 0
  names : nms X = q ++ [k]
  size : 1 ≤ X.length ∧ X.length ≤ 42
  few : q.length ≤ 7
  wid : wid (q ++ [k]) ≤ 40 ∧ wid q ≤ 40
  short : k.length ≤ 4
  text : X = shw (q ++ [k]) ++ if dir then [47] else []
  last : X.getLast? = some 47 ↔ dir = true
  list : lsE L M X = if dir then 0 else 3
  above : lsE L M (shw q) = 0
  kids : lsL L M (shw q) = kids L q
  here : k ∈ Go.Proofs.YtdlmkienogimgaaGreatDoor.kids L q

theorem hung {L : List Ent} {M : Nat → Option Nat} (hG : Good L M) {X : List UInt8} (hX : X ∈ txs L M) : ∃ q k dir, Hung L M X q k dir := by
  have hlong : 1 ≤ X.length ∧ X.length ≤ 42 := by
    unfold txs at hX
    obtain ⟨y, hy, rfl⟩ := List.mem_map.1 hX
    obtain ⟨hy, hye⟩ := (wka_mem hG y).1 hy
    obtain ⟨g1, g2⟩ := hG.nam y.1 y.2 hy
    obtain ⟨_, _, h1⟩ := shw_slash g1 g2
    unfold tx
    constructor
    · cases h : y.1 with
      | nil => exact absurd h hye
      | cons k p => rw [shw_cons, sg_cons]; simp
    · rw [List.length_append] at h1 ⊢
      split <;> simp at h1 ⊢ <;> omega
  obtain ⟨⟨p, j⟩, hy, rfl⟩ := List.mem_map.1 hX
  obtain ⟨hy, hye⟩ := (wka_mem hG _).1 hy
  dsimp only at hye
  obtain ⟨g1, g2⟩ := hG.nam _ _ hy
  obtain ⟨q, k, rfl⟩ : ∃ q k, p = q ++ [k] := ⟨_, _, (List.dropLast_concat_getLast hye).symm⟩
  have hql : q.length ≤ 7 := by rw [List.length_append, List.length_singleton] at g1; omega
  have g2q : ∀ x ∈ q, isN x = true := fun x hx => g2 x (by simp [hx])
  have hkN := g2 k (by simp)
  obtain ⟨d, hd, hds⟩ := hG.up _ _ _ hy
  obtain ⟨m, hm⟩ := Option.isSome_iff_exists.1 hds
  obtain ⟨a1, a2, _⟩ := shw_path (p := q) (by omega) g2q
  obtain ⟨e1, e2⟩ := lsE_dir hG a1 a2 (hG.uni.look.2 hd) hm
  have hw1 := wid_names g2
  have hw2 := wid_names g2q
  have hkk := mem_kids.2 ⟨j, hy⟩
  obtain ⟨a, c, ec, hc⟩ := sg_last hye g2
  cases hM : M j with
  | some mm =>
    obtain ⟨r1, r2, _⟩ := shw_slash g1 g2
    have et : tx M (q ++ [k], j) = shw (q ++ [k]) ++ [47] := by unfold tx; dsimp only; rw [hM]; rfl
    rw [et] at hlong ⊢
    refine ⟨q, k, true, ⟨r1, by unfold nms; rw [if_pos r1, r2], hlong, hql, ⟨by omega, by omega⟩, by have := isN_len hkN; omega, rfl, by simp, ?_, e1, e2, hkk⟩⟩
    exact (lsE_dir hG r1 r2 (hG.uni.look.2 hy) hM).1
  | none =>
    obtain ⟨r1, r2, _⟩ := shw_path g1 g2
    have et : tx M (q ++ [k], j) = shw (q ++ [k]) := by unfold tx; dsimp only; rw [hM]; simp
    rw [et] at hlong ⊢
    refine ⟨q, k, false, ⟨r1, by unfold nms; rw [if_pos r1, r2], hlong, hql, ⟨by omega, by omega⟩, by have := isN_len hkN; omega, by simp, ?_, ?_, e1, e2, hkk⟩⟩
    · rw [shw_sg hye, ec]
      simp only [List.getLast?_append, List.getLast?_singleton, Option.some_or, Option.some.injEq, Bool.false_eq_true, iff_false]
      rintro rfl
      exact absurd hc (by decide)
    · exact lsE_file hG r1 r2 (hG.uni.look.2 hy) hM

theorem txs_up {L : List Ent} {M : Nat → Option Nat} (hG : Good L M) {i : Nat} (hi : i + 1 < (txs L M).length) : Op.bytesLess (bs (sth (txs L M) i)).toList (bs (sth (txs L M) (i + 1))).toList = true := by
  have h := (List.pairwise_iff_getElem.1 (txs_rise hG)) i (i + 1) (by omega) hi (by omega)
  rw [bs_list, bs_list, sth_lt (by omega), sth_lt hi, Go.Proofs.bytesLess_eq]
  exact decide_eq_true h

end Go.Proofs.YtdlmkienogimgaaGreatDoor
