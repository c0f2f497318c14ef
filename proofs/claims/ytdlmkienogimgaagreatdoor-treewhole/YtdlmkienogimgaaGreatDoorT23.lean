/- This text proves what the great door's laws on trees want besides: a name that was put is dropped, a path of a directory with something in it begins a path, and what lies there still lies there once maps were turned. -/
import Derived.Test.YtdlmkienogimgaaGreatDoorT22
namespace Go.Proofs.YtdlmkienogimgaaGreatDoor
open Go.RowKit Go.Deep Go.Shelf Go.Maps

theorem StrsIs.turned {w w' : World} {v : Value} {ls : List (List UInt8)} {base : Nat} (h : StrsIs w v ls) (hT : Turned base w w') : StrsIs w' v ls := by
  obtain ⟨a, c, h1, h2, h3, h4⟩ := h
  refine ⟨a, c, h1, h2, h3, fun hne => ?_⟩
  obtain ⟨b, o, ha, hlt, hc⟩ := h4 hne
  exact ⟨b, o, ha, Nat.lt_of_lt_of_le hlt hT.below.size, fun i hi => hT.cell (hc i hi)⟩

theorem puE_zero {L : List Ent} {M : Nat → Option Nat} (hG : Good L M) {l : List UInt8} (h : puE L M l = 0) :
    ∃ q k d m, pE l = 0 ∧ pN l = q ++ [k] ∧ isN k = true ∧ look L q = some d ∧ M d = some m ∧ look L (q ++ [k]) = none ∧ q.length + 1 ≤ 8 ∧ L.length ≤ 24 := by
  unfold puE at h
  split at h
  · rename_i h1; exact absurd h h1
  · rename_i h1
    obtain ⟨q, k, d, m, g1, g2, g3, g4, g5, _, g6, g7⟩ := frE_zero hG (by simpa using h1)
    split at h
    · cases h
    · exact ⟨q, k, d, m, g1, g2, g3, g4, g5, g6, g7, by omega⟩
theorem cut_put {L : List Ent} {p : List (List UInt8)} {i : Nat} (hp : look L p = none) : cutL (L ++ [(p, i)]) p = L := by
  unfold cutL
  rw [List.filter_append, List.filter_eq_self.2 fun x hx => ?_]
  · simp
  · have : x.1 ≠ p := fun e => look_none.1 hp x.2 (by rw [← e]; exact hx)
    simpa using this
/-- A name that was put is dropped. -/
theorem drop_put {L : List Ent} {M : Nat → Option Nat} {l : List UInt8} {q : List (List UInt8)} {k : List UInt8} {d m i : Nat} (hG : Good L M) (hG' : Good (L ++ [(q ++ [k], i)]) M) (he : pE l = 0) (hn : pN l = q ++ [k]) (hq : look L q = some d) (hd : M d = some m) (hf : look L (q ++ [k]) = none) :
    drE (L ++ [(q ++ [k], i)]) M l = 0 ∧ drL (L ++ [(q ++ [k], i)]) M l = L := by
  have hl : ∀ x, look (L ++ [(q ++ [k], i)]) x = if x = q ++ [k] then some i else look L x := fun x => put_look hG.uni hf
  have hq' : look (L ++ [(q ++ [k], i)]) q = some d := by rw [hl, if_neg (fun e => by have := congrArg List.length e; simp at this)]; exact hq
  obtain ⟨h0, _⟩ := spE_good he hn (atF_good hG' hq') hd
  have hk : kids (L ++ [(q ++ [k], i)]) (q ++ [k]) = [] := by
    rw [List.eq_nil_iff_forall_not_mem]
    intro c hc
    obtain ⟨j, hj⟩ := mem_kids.1 hc
    rcases List.mem_append.1 hj with hj | hj
    · obtain ⟨d', hd', _⟩ := hG.up _ _ _ hj
      exact look_none.1 hf d' hd'
    · rw [List.mem_singleton] at hj
      simp at hj
  have hE : drE (L ++ [(q ++ [k], i)]) M l = 0 := by
    unfold drE
    rw [if_neg (by simp [h0]), hn, hl, if_pos rfl, if_neg (by simp), if_pos hk]
  refine ⟨hE, ?_⟩
  unfold drL
  rw [if_pos hE, hn, cut_put hf]

theorem strs_form {w : World} {v : Value} {ls : List (List UInt8)} (h : StrsIs w v ls) : ∃ a c, v = .slice a ls.length c := by
  obtain ⟨a, c, rfl, _⟩ := h
  exact ⟨a, c, rfl⟩


theorem Laid.turned {w w' : World} {base : Nat} (h : Laid w) (hT : Turned base w w') : Laid w' := by
  unfold Laid at h ⊢
  exact hT.cell h

/-- A name, and a / behind it, begin another name and what is behind it. -/
theorem name_pre : ∀ (k k2 r Y : List UInt8), k.all isL = true → k2.all isL = true → (Y = [] ∨ ∃ y, Y = 47 :: y) → (k ++ 47 :: r) <+: (k2 ++ Y) → k = k2 ∧ (47 :: r) <+: Y
  | [], [], r, Y, _, _, _, h => ⟨rfl, h⟩
  | [], c :: k2, r, Y, _, h2, _, h => by
    obtain ⟨u, hu⟩ := h
    simp only [List.nil_append, List.cons_append, List.cons.injEq] at hu
    have hc : isL c = true := by simp at h2; exact h2.1
    rw [← hu.1] at hc
    exact absurd hc (by decide)
  | c :: k, [], r, Y, h1, _, hY, h => by
    obtain ⟨u, hu⟩ := h
    have hc : isL c = true := by simp at h1; exact h1.1
    rcases hY with rfl | ⟨y, rfl⟩
    · simp at hu
    · simp only [List.nil_append, List.cons_append, List.cons.injEq] at hu
      rw [hu.1] at hc
      exact absurd hc (by decide)
  | c :: k, c2 :: k2, r, Y, h1, h2, hY, h => by
    obtain ⟨u, hu⟩ := h
    simp only [List.cons_append, List.cons.injEq] at hu
    obtain ⟨e, g⟩ := name_pre k k2 r Y (by simp at h1; simp; exact h1.2) (by simp at h2; simp; exact h2.2) hY ⟨u, by simpa using hu.2⟩
    exact ⟨by rw [hu.1, e], g⟩

/-- A directory's path begins a longer one. -/
theorem sg_pre : ∀ (p q : List (List UInt8)) (s : List UInt8), (∀ k ∈ p, isN k = true) → (∀ k ∈ q, isN k = true) → (s = [] ∨ s = [47]) → (sg p ++ [47]) <+: (sg q ++ s) → (sg p ++ [47]).length < (sg q ++ s).length → ∃ k u, q = p ++ k :: u
  | [], [], s, _, _, hs, _, hl => by rcases hs with rfl | rfl <;> simp [sg] at hl
  | [], k :: u, s, _, _, _, _, _ => ⟨k, u, rfl⟩
  | k :: p, [], s, _, _, hs, _, hl => by
    rcases hs with rfl | rfl <;> rw [sg_cons] at hl <;> simp [sg] at hl
  | k :: p, k2 :: q, s, hp, hq, hs, h, hl => by
    rw [sg_cons, sg_cons] at h hl
    have h1 : (k ++ (sg p ++ [47])) <+: (k2 ++ (sg q ++ s)) := by
      obtain ⟨u, hu⟩ := h
      simp only [List.cons_append, List.cons.injEq, true_and] at hu
      exact ⟨u, by simpa using hu⟩
    obtain ⟨r, hr⟩ : ∃ r, sg p ++ [47] = 47 :: r := by
      rcases sg_begin p [47] (.inr rfl) with h | h
      · simp at h
      · exact h
    have h2 := h1
    rw [hr] at h2
    obtain ⟨e, g⟩ := name_pre k k2 r _ (isN_all (hp k (by simp))) (isN_all (hq k2 (by simp))) (sg_begin q s hs) h2
    subst e
    rw [← hr] at g
    obtain ⟨k0, u, hu⟩ := sg_pre p q s (fun x hx => hp x (by simp [hx])) (fun x hx => hq x (by simp [hx])) hs g (by simp at hl ⊢; omega)
    exact ⟨k0, u, by rw [hu]; rfl⟩

theorem sg_last {p : List (List UInt8)} (hp : p ≠ []) (hn : ∀ k ∈ p, isN k = true) : ∃ a c, sg p = a ++ [c] ∧ isL c = true := by
  obtain ⟨q, k, rfl⟩ : ∃ q k, p = q ++ [k] := ⟨_, _, (List.dropLast_concat_getLast hp).symm⟩
  have hk := hn k (by simp)
  have hkl := isN_len hk
  obtain ⟨b, c, rfl⟩ : ∃ b c, k = b ++ [c] := ⟨_, _, (List.dropLast_concat_getLast (by rintro rfl; simp [isN] at hk)).symm⟩
  refine ⟨sg q ++ 47 :: b, c, by simp [sg], ?_⟩
  have := isN_all hk
  simp at this
  exact this.2

/-- What is told of a directory that has something. -/
theorem tx_full {L : List Ent} {M : Nat → Option Nat} (hG : Good L M) {x y : Ent} (hx : x ∈ wka L) (hy : y ∈ wka L) (h1 : (tx M x).getLast? = some 47) (h2 : tx M x <+: tx M y) (h3 : (tx M x).length < (tx M y).length) : drE L M (tx M x) = 7 := by
  obtain ⟨hx, hxe⟩ := (wka_mem hG x).1 hx
  obtain ⟨hy, hye⟩ := (wka_mem hG y).1 hy
  obtain ⟨p, i⟩ := x
  obtain ⟨q, j⟩ := y
  dsimp only at hxe hye
  obtain ⟨hpl, hpn⟩ := hG.nam _ _ hx
  obtain ⟨hql, hqn⟩ := hG.nam _ _ hy
  have hd : (M i).isSome = true := by
    cases hM : M i with
    | some m => rfl
    | none =>
      unfold tx at h1
      rw [shw_sg hxe] at h1
      dsimp only at h1
      rw [hM] at h1
      obtain ⟨a, c, e, hc⟩ := sg_last hxe hpn
      rw [e] at h1
      simp at h1
      rw [h1] at hc
      exact absurd hc (by decide)
  have e1 : tx M (p, i) = sg p ++ [47] := by unfold tx; rw [shw_sg hxe]; dsimp only; rw [hd]; rfl
  have e2 : ∃ s, (s = [] ∨ s = [47]) ∧ tx M (q, j) = sg q ++ s := ⟨if (M j).isSome then [47] else [], by split <;> simp, by unfold tx; rw [shw_sg hye]⟩
  obtain ⟨s, hs, e2⟩ := e2
  rw [e1, e2] at h2 h3
  obtain ⟨k0, u, rfl⟩ := sg_pre p q s hpn hqn hs h2 h3
  have hk : kids L p ≠ [] := by
    intro e
    obtain ⟨d, hd⟩ := hG.upto u (p ++ [k0]) j (by simpa using hy)
    have := mem_kids.2 ⟨d, hd⟩
    rw [e] at this
    simp at this
  obtain ⟨p1, p2, _⟩ := shw_slash hpl hpn
  rw [shw_sg hxe, ← e1] at p1 p2
  obtain ⟨q0, k, rfl⟩ : ∃ q k, p = q ++ [k] := ⟨_, _, (List.dropLast_concat_getLast hxe).symm⟩
  obtain ⟨d, hd', hds⟩ := hG.up _ _ _ hx
  obtain ⟨m, hm⟩ := Option.isSome_iff_exists.1 hds
  obtain ⟨h0, _⟩ := spE_good p1 p2 (atF_good hG (hG.uni.look.2 hd')) hm
  unfold drE
  rw [if_neg (by simp [h0]), p2, hG.uni.look.2 hx, if_neg (by simp), if_neg hk]

end Go.Proofs.YtdlmkienogimgaaGreatDoor
