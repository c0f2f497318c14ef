/- This text joins 2 parts of a proof. (1) This text proves what is true of each path that a tree's walk tells: it is clean, what is ahead of its last name is a directory that lists it, and it is listed just where it ends in /; it speaks of no call; no condition. (2) This text proves plain facts on paths as the document's answer goes through them, sign by sign; it speaks of no call; no condition. -/
import Derived.Test.YtdlmkienogimgaaGreatDoorMa9
import Derived.Laws.Cover1
import Derived.Sort.Walk0
import Derived.Test.YtdlmkienogimgaaGreatDoorQ0
namespace Go.Proofs.YtdlmkienogimgaaGreatDoor
open Go.RowKit Go.Deep Go.Shelf Go.Maps

theorem last_is {x : ByteArray} (h : 1 ≤ x.size) (h47 : (x[x.size - 1]'(by omega)).toNat = 47) : x.data.toList.getLast? = some 47 := by
  have hl : x.data.toList.length = x.size := by rw [Lib.size_eq]
  have hi : x.size - 1 < x.data.toList.length := by omega
  have e : x[x.size - 1]'(by omega) = 47 := UInt8.toNat_inj.1 h47
  rw [List.getLast?_eq_getElem?, hl, List.getElem?_eq_getElem hi, ← e]
  rfl
theorem is_last {x : ByteArray} (h : 1 ≤ x.size) (h47 : x.data.toList.getLast? = some 47) : (x[x.size - 1]'(by omega)).toNat = 47 := by
  have hl : x.data.toList.length = x.size := by rw [Lib.size_eq]
  have hi : x.size - 1 < x.data.toList.length := by omega
  rw [List.getLast?_eq_getElem?, hl, List.getElem?_eq_getElem hi] at h47
  have e : x[x.size - 1]'(by omega) = 47 := Option.some.inj h47
  rw [e]; rfl

theorem lsE_dir {L : List Ent} {M : Nat → Option Nat} (hG : Good L M) {l : List UInt8} {q : List (List UInt8)} {d m : Nat} (h1 : pE l = 0) (h2 : pN l = q) (h3 : look L q = some d) (h4 : M d = some m) : lsE L M l = 0 ∧ lsL L M l = kids L q := by
  have ha := atS_good hG h1 (by rw [h2]; exact h3)
  have hth : thing L M l = d := by unfold thing; rw [ha]; rfl
  have h0 : lsE L M l = 0 := by unfold lsE; rw [ha, hth, h4]; rfl
  exact ⟨h0, by unfold lsL; rw [if_pos h0, h2]⟩
theorem lsE_file {L : List Ent} {M : Nat → Option Nat} (hG : Good L M) {l : List UInt8} {q : List (List UInt8)} {d : Nat} (h1 : pE l = 0) (h2 : pN l = q) (h3 : look L q = some d) (h4 : M d = none) : lsE L M l = 3 := by
  have ha := atS_good hG h1 (by rw [h2]; exact h3)
  have hth : thing L M l = d := by unfold thing; rw [ha]; rfl
  unfold lsE; rw [ha, hth, h4]; rfl

/-- What the law asks of one path. -/
structure Hung (L : List Ent) (M : Nat → Option Nat) (X : List UInt8) (q : List (List UInt8)) (k : List UInt8) (dir : Bool) : Prop where
  right : pE X = 0
  names : nms X = q ++ [k]
  size : 1 ≤ X.length ∧ X.length ≤ 42
  few : q.length ≤ 7
  wid : wid (q ++ [k]) ≤ 40 ∧ wid q ≤ 40
  short : k.length ≤ 4
  text : X = shw (q ++ [k]) ++ if dir then [47] else []
  last : X.getLast? = some 47 ↔ dir = true
  list : lsE L M X = if dir then 0 else 3
  above : lsE L M (shw q) = 0
  kids : lsL L M (shw q) = kids L q
  here : k ∈ Go.Proofs.YtdlmkienogimgaaGreatDoor.kids L q

theorem hung {L : List Ent} {M : Nat → Option Nat} (hG : Good L M) {X : List UInt8} (hX : X ∈ txs L M) : ∃ q k dir, Hung L M X q k dir := by
  have hlong : 1 ≤ X.length ∧ X.length ≤ 42 := by
    unfold txs at hX
    obtain ⟨y, hy, rfl⟩ := List.mem_map.1 hX
    obtain ⟨hy, hye⟩ := (wka_mem hG y).1 hy
    obtain ⟨g1, g2⟩ := hG.nam y.1 y.2 hy
    obtain ⟨_, _, h1⟩ := shw_slash g1 g2
    unfold tx
    constructor
    · cases h : y.1 with
      | nil => exact absurd h hye
      | cons k p => rw [shw_cons, sg_cons]; simp
    · rw [List.length_append] at h1 ⊢
      split <;> simp at h1 ⊢ <;> omega
  obtain ⟨⟨p, j⟩, hy, rfl⟩ := List.mem_map.1 hX
  obtain ⟨hy, hye⟩ := (wka_mem hG _).1 hy
  dsimp only at hye
  obtain ⟨g1, g2⟩ := hG.nam _ _ hy
  obtain ⟨q, k, rfl⟩ : ∃ q k, p = q ++ [k] := ⟨_, _, (List.dropLast_concat_getLast hye).symm⟩
  have hql : q.length ≤ 7 := by rw [List.length_append, List.length_singleton] at g1; omega
  have g2q : ∀ x ∈ q, isN x = true := fun x hx => g2 x (by simp [hx])
  have hkN := g2 k (by simp)
  obtain ⟨d, hd, hds⟩ := hG.up _ _ _ hy
  obtain ⟨m, hm⟩ := Option.isSome_iff_exists.1 hds
  obtain ⟨a1, a2, _⟩ := shw_path (p := q) (by omega) g2q
  obtain ⟨e1, e2⟩ := lsE_dir hG a1 a2 (hG.uni.look.2 hd) hm
  have hw1 := wid_names g2
  have hw2 := wid_names g2q
  have hkk := mem_kids.2 ⟨j, hy⟩
  obtain ⟨a, c, ec, hc⟩ := sg_last hye g2
  cases hM : M j with
  | some mm =>
    obtain ⟨r1, r2, _⟩ := shw_slash g1 g2
    have et : tx M (q ++ [k], j) = shw (q ++ [k]) ++ [47] := by unfold tx; dsimp only; rw [hM]; rfl
    rw [et] at hlong ⊢
    refine ⟨q, k, true, ⟨r1, by unfold nms; rw [if_pos r1, r2], hlong, hql, ⟨by omega, by omega⟩, by have := isN_len hkN; omega, rfl, by simp, ?_, e1, e2, hkk⟩⟩
    exact (lsE_dir hG r1 r2 (hG.uni.look.2 hy) hM).1
  | none =>
    obtain ⟨r1, r2, _⟩ := shw_path g1 g2
    have et : tx M (q ++ [k], j) = shw (q ++ [k]) := by unfold tx; dsimp only; rw [hM]; simp
    rw [et] at hlong ⊢
    refine ⟨q, k, false, ⟨r1, by unfold nms; rw [if_pos r1, r2], hlong, hql, ⟨by omega, by omega⟩, by have := isN_len hkN; omega, by simp, ?_, ?_, e1, e2, hkk⟩⟩
    · rw [shw_sg hye, ec]
      simp only [List.getLast?_append, List.getLast?_singleton, Option.some_or, Option.some.injEq, Bool.false_eq_true, iff_false]
      rintro rfl
      exact absurd hc (by decide)
    · exact lsE_file hG r1 r2 (hG.uni.look.2 hy) hM

theorem txs_up {L : List Ent} {M : Nat → Option Nat} (hG : Good L M) {i : Nat} (hi : i + 1 < (txs L M).length) : Op.bytesLess (bs (sth (txs L M) i)).toList (bs (sth (txs L M) (i + 1))).toList = true := by
  have h := (List.pairwise_iff_getElem.1 (txs_rise hG)) i (i + 1) (by omega) hi (by omega)
  rw [bs_list, bs_list, sth_lt (by omega), sth_lt hi, Go.Proofs.bytesLess_eq]
  exact decide_eq_true h

end Go.Proofs.YtdlmkienogimgaaGreatDoor

namespace Go.Proofs.YtdlmkienogimgaaGreatDoor

def stq (o : List (List UInt8)) (p : List UInt8) : Option (List (List UInt8)) := if noP p then none else some (stp o p)
/-- Sign by sign. -/
def rn (o : List (List UInt8)) (cur : List UInt8) : List UInt8 → Option (List (List UInt8))
  | [] => stq o cur
  | c :: r => if c = 47 then (stq o cur).bind fun o' => rn o' [] r else rn o (cur ++ [c]) r

theorem rn_spl : ∀ (l cur : List UInt8) (o : List (List UInt8)), rn o cur l = if ((cur ++ (spl l).headD []) :: (spl l).tail).any noP then none else some (((cur ++ (spl l).headD []) :: (spl l).tail).foldl stp o)
  | [], cur, o => by simp [rn, stq, spl]
  | c :: r, cur, o => by
    have hp := spl_parts r
    by_cases hc : c = 47
    · subst hc
      rw [rn, if_pos rfl, stq]
      have e : spl (47 :: r) = [] :: spl r := by rw [spl, if_pos rfl]
      rw [e]
      simp only [List.headD_cons, List.tail_cons, List.append_nil, List.any_cons, List.foldl_cons]
      by_cases h : noP cur = true
      · rw [if_pos h, h]; rfl
      · rw [if_neg h]
        have h' : noP cur = false := by simpa using h
        rw [h', Bool.false_or]
        show rn (stp o cur) [] r = _
        rw [rn_spl r [] (stp o cur), List.nil_append, ← hp]
    · rw [rn, if_neg hc, rn_spl r (cur ++ [c]) o]
      have e : spl (c :: r) = (c :: (spl r).headD []) :: (spl r).tail := by rw [spl, if_neg hc]
      rw [e]
      simp only [List.headD_cons, List.tail_cons, List.append_assoc, List.singleton_append]
      rfl

theorem rn_all (r : List UInt8) : rn [] [] r = if (spl r).any noP then none else some (fol (spl r)) := by
  rw [rn_spl, List.nil_append, ← spl_parts]; rfl

/-- A piece of a text. -/
def seg (l : List UInt8) (f k : Nat) : List UInt8 := (l.drop f).take (k - f)
theorem seg_self (l : List UInt8) (k : Nat) : seg l k k = [] := by simp [seg]
theorem seg_succ {l : List UInt8} {f k : Nat} (hf : f ≤ k) (hk : k < l.length) : seg l f (k + 1) = seg l f k ++ [l[k]] := by
  unfold seg
  rw [show k + 1 - f = (k - f) + 1 by omega, List.take_add_one]
  congr 1
  rw [List.getElem?_drop, show f + (k - f) = k by omega, List.getElem?_eq_getElem hk]
  rfl
theorem seg_len (l : List UInt8) (f k : Nat) : (seg l f k).length ≤ l.length := by
  unfold seg; rw [List.length_take, List.length_drop]; omega

/-- Where the document's answer is: what is still to come leads to R. -/
def St (l : List UInt8) (R : Option (List (List UInt8))) (k f : Nat) (o : List (List UInt8)) : Prop :=
  f ≤ k ∧ o.length ≤ k ∧ ((k ≤ l.length ∧ rn o (seg l f k) (l.drop k) = R) ∨ (k = l.length + 1 ∧ R = some o))

theorem St.on {l : List UInt8} {R : Option (List (List UInt8))} {k f : Nat} {o : List (List UInt8)} (h : St l R k f o) (hk : k < l.length) (hc : l[k] ≠ 47) : St l R (k + 1) f o := by
  obtain ⟨h1, h2, h3 | h3⟩ := h
  · refine ⟨by omega, by omega, .inl ⟨by omega, ?_⟩⟩
    rw [← h3.2, seg_succ h1 hk, List.drop_eq_getElem_cons hk, rn, if_neg hc]
  · omega
theorem stp_len (o : List (List UInt8)) (p : List UInt8) : (stp o p).length ≤ o.length + 1 := by
  unfold stp
  split
  · rw [List.length_dropLast]; omega
  · split
    · simp
    · omega
theorem St.cut {l : List UInt8} {R : Option (List (List UInt8))} {k f : Nat} {o : List (List UInt8)} (h : St l R k f o) (hk : k ≤ l.length) (hc : ∀ h : k < l.length, l[k] = 47) :
    (noP (seg l f k) = true → R = none) ∧ (noP (seg l f k) = false → St l R (k + 1) (k + 1) (stp o (seg l f k))) := by
  obtain ⟨h1, h2, h3 | h3⟩ := h
  · have hl := stp_len o (seg l f k)
    by_cases hlt : k < l.length
    · have e : rn o (seg l f k) (l.drop k) = (stq o (seg l f k)).bind fun o' => rn o' [] (l.drop (k + 1)) := by
        rw [List.drop_eq_getElem_cons hlt, rn, if_pos (hc hlt)]
      rw [e] at h3
      refine ⟨fun hn => ?_, fun hn => ⟨Nat.le_refl _, by omega, .inl ⟨hlt, ?_⟩⟩⟩
      · rw [← h3.2, stq, if_pos hn]; rfl
      · rw [← h3.2, stq, if_neg (by rw [hn]; simp), seg_self]; rfl
    · have hkn : k = l.length := by omega
      have e : rn o (seg l f k) (l.drop k) = stq o (seg l f k) := by rw [hkn, List.drop_length]; rfl
      rw [e] at h3
      refine ⟨fun hn => ?_, fun hn => ⟨Nat.le_refl _, by omega, .inr ⟨by omega, ?_⟩⟩⟩
      · rw [← h3.2, stq, if_pos hn]
      · rw [← h3.2, stq, if_neg (by rw [hn]; simp)]
  · omega
theorem St.first (r : List UInt8) : St (47 :: r) (rn [] [] r) 1 1 [] := ⟨Nat.le_refl _, by simp, .inl ⟨by simp, by rw [seg_self]; rfl⟩⟩
theorem St.last {l : List UInt8} {R : Option (List (List UInt8))} {k f : Nat} {o : List (List UInt8)} (h : St l R k f o) (hk : ¬ k ≤ l.length) : R = some o := by
  obtain ⟨_, _, h3 | h3⟩ := h
  · omega
  · exact h3.2
theorem St.top {l : List UInt8} {R : Option (List (List UInt8))} {k f : Nat} {o : List (List UInt8)} (h : St l R k f o) : k ≤ l.length + 1 ∧ f ≤ k ∧ o.length ≤ k := by
  obtain ⟨h1, h2, h3 | h3⟩ := h
  · exact ⟨by omega, h1, h2⟩
  · exact ⟨by omega, h1, h2⟩

theorem stp_up (o : List (List UInt8)) : stp o [46, 46] = o.dropLast := by rw [stp, if_pos rfl]
theorem stp_name {o : List (List UInt8)} {p : List UInt8} (h : isN p = true) : stp o p = o ++ [p] := by rw [stp, if_neg (isN_up h), if_pos h]
theorem stp_nil (o : List (List UInt8)) : stp o [] = o := by rw [stp, if_neg (by simp), if_neg (by decide)]
theorem stp_dot (o : List (List UInt8)) : stp o [46] = o := by rw [stp, if_neg (by simp), if_neg (by decide)]
theorem noP_yes {p : List UInt8} (h1 : p ≠ []) (h2 : p ≠ [46]) (h3 : p ≠ [46, 46]) (h4 : isN p = false) : noP p = true := by simp [noP, h1, h2, h3, h4]

end Go.Proofs.YtdlmkienogimgaaGreatDoor
