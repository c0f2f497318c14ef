/- This text proves plain facts on paths as the document's answer goes through them, sign by sign; it speaks of no call; no condition. -/
import Derived.Test.YtdfobojkmilcbaaDoorQ0
namespace Go.Proofs.YtdfobojkmilcbaaDoor

def stq (o : List (List UInt8)) (p : List UInt8) : Option (List (List UInt8)) := if noP p then none else some (stp o p)
/-- Sign by sign. -/
def rn (o : List (List UInt8)) (cur : List UInt8) : List UInt8 → Option (List (List UInt8))
  | [] => stq o cur
  | c :: r => if c = 47 then (stq o cur).bind fun o' => rn o' [] r else rn o (cur ++ [c]) r

theorem rn_spl : ∀ (l cur : List UInt8) (o : List (List UInt8)), rn o cur l = if ((cur ++ (spl l).headD []) :: (spl l).tail).any noP then none else some (((cur ++ (spl l).headD []) :: (spl l).tail).foldl stp o)
  | [], cur, o => by simp [rn, stq, spl]
  | c :: r, cur, o => by
    have hp := spl_parts r
    by_cases hc : c = 47
    · subst hc
      rw [rn, if_pos rfl, stq]
      have e : spl (47 :: r) = [] :: spl r := by rw [spl, if_pos rfl]
      rw [e]
      simp only [List.headD_cons, List.tail_cons, List.append_nil, List.any_cons, List.foldl_cons]
      by_cases h : noP cur = true
      · rw [if_pos h, h]; rfl
      · rw [if_neg h]
        have h' : noP cur = false := by simpa using h
        rw [h', Bool.false_or]
        show rn (stp o cur) [] r = _
        rw [rn_spl r [] (stp o cur), List.nil_append, ← hp]
    · rw [rn, if_neg hc, rn_spl r (cur ++ [c]) o]
      have e : spl (c :: r) = (c :: (spl r).headD []) :: (spl r).tail := by rw [spl, if_neg hc]
      rw [e]
      simp only [List.headD_cons, List.tail_cons, List.append_assoc, List.singleton_append]
      rfl

theorem rn_all (r : List UInt8) : rn [] [] r = if (spl r).any noP then none else some (fol (spl r)) := by
  rw [rn_spl, List.nil_append, ← spl_parts]; rfl

/-- A piece of a text. -/
def seg (l : List UInt8) (f k : Nat) : List UInt8 := (l.drop f).take (k - f)
theorem seg_self (l : List UInt8) (k : Nat) : seg l k k = [] := by simp [seg]
theorem seg_succ {l : List UInt8} {f k : Nat} (hf : f ≤ k) (hk : k < l.length) : seg l f (k + 1) = seg l f k ++ [l[k]] := by
  unfold seg
  rw [show k + 1 - f = (k - f) + 1 by omega, List.take_add_one]
  congr 1
  rw [List.getElem?_drop, show f + (k - f) = k by omega, List.getElem?_eq_getElem hk]
  rfl
theorem seg_len (l : List UInt8) (f k : Nat) : (seg l f k).length ≤ l.length := by
  unfold seg; rw [List.length_take, List.length_drop]; omega

/-- Where the document's answer is: what is still to come leads to R. -/
def St (l : List UInt8) (R : Option (List (List UInt8))) (k f : Nat) (o : List (List UInt8)) : Prop :=
  f ≤ k ∧ o.length ≤ k ∧ ((k ≤ l.length ∧ rn o (seg l f k) (l.drop k) = R) ∨ (k = l.length + 1 ∧ R = some o))

theorem St.on {l : List UInt8} {R : Option (List (List UInt8))} {k f : Nat} {o : List (List UInt8)} (h : St l R k f o) (hk : k < l.length) (hc : l[k] ≠ 47) : St l R (k + 1) f o := by
  obtain ⟨h1, h2, h3 | h3⟩ := h
  · refine ⟨by omega, by omega, .inl ⟨by omega, ?_⟩⟩
    rw [← h3.2, seg_succ h1 hk, List.drop_eq_getElem_cons hk, rn, if_neg hc]
  · omega
theorem stp_len (o : List (List UInt8)) (p : List UInt8) : (stp o p).length ≤ o.length + 1 := by
  unfold stp
  split
  · rw [List.length_dropLast]; omega
  · split
    · simp
    · omega
theorem St.cut {l : List UInt8} {R : Option (List (List UInt8))} {k f : Nat} {o : List (List UInt8)} (h : St l R k f o) (hk : k ≤ l.length) (hc : ∀ h : k < l.length, l[k] = 47) :
    (noP (seg l f k) = true → R = none) ∧ (noP (seg l f k) = false → St l R (k + 1) (k + 1) (stp o (seg l f k))) := by
  obtain ⟨h1, h2, h3 | h3⟩ := h
  · have hl := stp_len o (seg l f k)
    by_cases hlt : k < l.length
    · have e : rn o (seg l f k) (l.drop k) = (stq o (seg l f k)).bind fun o' => rn o' [] (l.drop (k + 1)) := by
        rw [List.drop_eq_getElem_cons hlt, rn, if_pos (hc hlt)]
      rw [e] at h3
      refine ⟨fun hn => ?_, fun hn => ⟨Nat.le_refl _, by omega, .inl ⟨hlt, ?_⟩⟩⟩
      · rw [← h3.2, stq, if_pos hn]; rfl
      · rw [← h3.2, stq, if_neg (by rw [hn]; simp), seg_self]; rfl
    · have hkn : k = l.length := by omega
      have e : rn o (seg l f k) (l.drop k) = stq o (seg l f k) := by rw [hkn, List.drop_length]; rfl
      rw [e] at h3
      refine ⟨fun hn => ?_, fun hn => ⟨Nat.le_refl _, by omega, .inr ⟨by omega, ?_⟩⟩⟩
      · rw [← h3.2, stq, if_pos hn]
      · rw [← h3.2, stq, if_neg (by rw [hn]; simp)]
  · omega
theorem St.first (r : List UInt8) : St (47 :: r) (rn [] [] r) 1 1 [] := ⟨Nat.le_refl _, by simp, .inl ⟨by simp, by rw [seg_self]; rfl⟩⟩
theorem St.last {l : List UInt8} {R : Option (List (List UInt8))} {k f : Nat} {o : List (List UInt8)} (h : St l R k f o) (hk : ¬ k ≤ l.length) : R = some o := by
  obtain ⟨_, _, h3 | h3⟩ := h
  · omega
  · exact h3.2
theorem St.top {l : List UInt8} {R : Option (List (List UInt8))} {k f : Nat} {o : List (List UInt8)} (h : St l R k f o) : k ≤ l.length + 1 ∧ f ≤ k ∧ o.length ≤ k := by
  obtain ⟨h1, h2, h3 | h3⟩ := h
  · exact ⟨by omega, h1, h2⟩
  · exact ⟨by omega, h1, h2⟩

theorem stp_up (o : List (List UInt8)) : stp o [46, 46] = o.dropLast := by rw [stp, if_pos rfl]
theorem stp_name {o : List (List UInt8)} {p : List UInt8} (h : isN p = true) : stp o p = o ++ [p] := by rw [stp, if_neg (isN_up h), if_pos h]
theorem stp_nil (o : List (List UInt8)) : stp o [] = o := by rw [stp, if_neg (by simp), if_neg (by decide)]
theorem stp_dot (o : List (List UInt8)) : stp o [46] = o := by rw [stp, if_neg (by simp), if_neg (by decide)]
theorem noP_yes {p : List UInt8} (h1 : p ≠ []) (h2 : p ≠ [46]) (h3 : p ≠ [46, 46]) (h4 : isN p = false) : noP p = true := by simp [noP, h1, h2, h3, h4]

end Go.Proofs.YtdfobojkmilcbaaDoor
