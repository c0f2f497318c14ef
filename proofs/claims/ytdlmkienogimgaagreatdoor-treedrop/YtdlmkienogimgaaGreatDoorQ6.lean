/- This text proves what path.Parts, path.Clean and path.Join answer: names, what is wrong, and the path that is clean; old memory is as it was; the conditions are that a text is not too long, and that the library's variable internal/bytealg.MaxLen holds some number. -/
import Derived.Test.YtdlmkienogimgaaGreatDoorMa4
import Derived.Test.YtdlmkienogimgaaGreatDoorAs
import Derived.Deep.RegionHeld3
import Derived.Deep.RegionWith
namespace Go.Proofs.YtdlmkienogimgaaGreatDoor
open Go.RowKit Go.Deep Go.Shelf

theorem data_app (a b : ByteArray) : (a ++ b).data.toList = a.data.toList ++ b.data.toList := by
  cases a; cases b; simp
theorem bs_app (a b : List UInt8) : bs a ++ bs b = bs (a ++ b) := by
  rw [← bs_data (bs a ++ bs b), data_app, data_bs, data_bs]
theorem app_bs (a b : ByteArray) : a ++ b = bs (a.data.toList ++ b.data.toList) := by rw [← data_app, bs_data]

theorem pE_long {l : List UInt8} (h : 60 < l.length) : pE l = 4 := by unfold pE; rw [if_pos h]
theorem pE_bare {l : List UInt8} (h : ¬ 60 < l.length) (h1 : [47].isPrefixOf l = false) : pE l = 2 := by unfold pE; rw [if_neg h, if_pos h1]
theorem pE_bad {l : List UInt8} (h : ¬ 60 < l.length) (h1 : [47].isPrefixOf l = true) (h2 : (spl (l.drop 1)).any noP = true) : pE l = 2 := by
  unfold pE; rw [if_neg h, if_neg (by rw [h1]; simp), if_pos h2]
theorem pE_many {l : List UInt8} (h : ¬ 60 < l.length) (h1 : [47].isPrefixOf l = true) (h2 : (spl (l.drop 1)).any noP = false) (h3 : 8 < (fol (spl (l.drop 1))).length) : pE l = 4 := by
  unfold pE; rw [if_neg h, if_neg (by rw [h1]; simp), if_neg (by rw [h2]; simp), if_pos h3]
theorem pE_fine {l : List UInt8} (h : ¬ 60 < l.length) (h1 : [47].isPrefixOf l = true) (h2 : (spl (l.drop 1)).any noP = false) (h3 : ¬ 8 < (fol (spl (l.drop 1))).length) : pE l = 0 := by
  unfold pE; rw [if_neg h, if_neg (by rw [h1]; simp), if_neg (by rw [h2]; simp), if_neg h3]
theorem nms_none {l : List UInt8} (h : pE l ≠ 0) : nms l = [] := by unfold nms; rw [if_neg h]
theorem nms_some {l : List UInt8} (h : pE l = 0) : nms l = fol (spl (l.drop 1)) := by unfold nms; rw [if_pos h]; rfl

theorem spl_small (l : List UInt8) : ∀ p ∈ spl l, p.length ≤ l.length := by
  intro p hp
  have h := wid_spl l
  obtain ⟨a, b, e⟩ := List.append_of_mem hp
  rw [e, wid_append, wid_cons] at h
  omega
theorem spl_count (l : List UInt8) : (spl l).length ≤ l.length + 1 := by
  have h := wid_spl l
  have : (spl l).length ≤ wid (spl l) := by
    generalize spl l = ps
    induction ps with
    | nil => simp
    | cons p ps ih => rw [wid_cons, List.length_cons]; omega
  omega

set_option maxHeartbeats 4000000 in
theorem parts_any (w : World) (s : ByteArray) (hs : s.size ≤ maxLen) (hm : Mx w) :
    Calls Tryz.prog 9 #[.string s] w fun e w' => ∃ v, e = .returned (.tuple #[v, errV (pE s.data.toList)]) ∧ StrsIs w' v (nms s.data.toList) ∧ Below w.heap.size w w' := by
  have hsz : s.size = s.data.toList.length := Lib.size_eq s
  unfold maxLen at hs
  by_cases h1 : 60 < s.size
  · have he := pE_long (l := s.data.toList) (by omega)
    rw [nms_none (by rw [he]; decide), he, errV_pos (by decide)]
    clear he hsz
    go_enter Tryz.func9, Tryz.ntmps9
    go_wp2
    go_ret2
    exact ⟨_, rfl, strs_nil _ _ _, Below.refl _ _⟩
  · have h1' : ¬ 60 < s.data.toList.length := by omega
    cases h2 : [47].isPrefixOf s.data.toList with
    | false =>
      have he := pE_bare h1' h2
      have HC : Hid _ := fun (_ : Nat) => cut_any w s
      rw [h2] at HC
      rw [nms_none (by rw [he]; decide), he, errV_pos (by decide)]
      clear he hsz h2 h1'
      go_enter Tryz.func9, Tryz.ntmps9
      go_wp2_with (go_at_call 34; refine (HC.out 0).mono ?_; rintro e w' ⟨rfl, rfl⟩)
      go_ret2
      exact ⟨_, rfl, strs_nil _ _ _, Below.refl _ _⟩
    | true =>
      have HC : Hid _ := fun (_ : Nat) => cut_any w s
      rw [h2] at HC
      simp only [if_true] at HC
      have hsm := spl_small (s.data.toList.drop 1)
      have hct := spl_count (s.data.toList.drop 1)
      have hdl : (s.data.toList.drop 1).length ≤ 60 := by rw [List.length_drop]; omega
      have HS : Hid _ := fun (_ : Nat) => split_any w (bs (s.data.toList.drop 1)) (by rw [Lib.size_eq, data_bs]; exact hdl) hm
      rw [data_bs] at HS
      have HN : Hid (∀ p ∈ spl (s.data.toList.drop 1), p.length ≤ 1000000) := fun p hp => by have := hsm p hp; omega
      have HN2 : Hid (∀ p ∈ spl (s.data.toList.drop 1), p.length ≤ 1000) := fun p hp => by have := hsm p hp; omega
      have hct2 : (spl (s.data.toList.drop 1)).length ≤ 1000 := by omega
      cases h3 : (spl (s.data.toList.drop 1)).any noP with
      | true =>
        have he := pE_bad h1' h2 h3
        have H3 : Hid ((spl (s.data.toList.drop 1)).any noP = true) := h3
        rw [nms_none (by rw [he]; decide), he, errV_pos (by decide)]
        generalize spl (s.data.toList.drop 1) = ps at *
        generalize bs (s.data.toList.drop 1) = r at *
        clear he hsz h2 h1' h3 hsm hct hdl
        go_enter Tryz.func9, Tryz.ntmps9
        go_wp2_with (first
          | (go_at_call 34; refine (HC.out 0).mono ?_; rintro e w' ⟨rfl, rfl⟩)
          | (go_at_call 35; refine (HS.out 0).mono ?_; rintro e w' ⟨v, rfl, hv, hb⟩)
          | (go_at_call 36; refine (contains_any _ _ _ hv HN.out).mono ?_; rintro e w' ⟨rfl, rfl⟩; rw [H3.out]))
        go_ret2
        exact ⟨_, rfl, strs_nil _ _ _, hb⟩
      | false =>
        have H3 : Hid ((spl (s.data.toList.drop 1)).any noP = false) := h3
        by_cases h4 : 8 < (fol (spl (s.data.toList.drop 1))).length
        · have he := pE_many h1' h2 h3 h4
          rw [nms_none (by rw [he]; decide), he, errV_pos (by decide)]
          generalize spl (s.data.toList.drop 1) = ps at *
          generalize bs (s.data.toList.drop 1) = r at *
          clear he hsz h2 h1' h3 hsm hct hdl
          go_enter Tryz.func9, Tryz.ntmps9
          go_wp2_with (first
            | (go_at_call 34; refine (HC.out 0).mono ?_; rintro e w' ⟨rfl, rfl⟩)
            | (go_at_call 35; refine (HS.out 0).mono ?_; rintro e w' ⟨v, rfl, hv, hb⟩)
            | (go_at_call 36; refine (contains_any _ _ _ hv HN.out).mono ?_; rintro e w' ⟨rfl, rfl⟩; rw [H3.out])
            | (go_at_call 38; obtain ⟨a, c, rfl, _⟩ := id hv; refine (left_any _ _ _ _ _ hv HN2.out hct2).mono ?_; rintro e w' ⟨v', rfl, hv', hb'⟩; obtain ⟨a', c', rfl, _⟩ := id hv'))
          go_ret2
          exact ⟨_, rfl, strs_nil _ _ _, Below.next hb hb'⟩
        · have he := pE_fine h1' h2 h3 h4
          rw [nms_some he, he, errV_zero]
          generalize spl (s.data.toList.drop 1) = ps at *
          generalize bs (s.data.toList.drop 1) = r at *
          clear he hsz h2 h1' h3 hsm hct hdl
          go_enter Tryz.func9, Tryz.ntmps9
          go_wp2_with (first
            | (go_at_call 34; refine (HC.out 0).mono ?_; rintro e w' ⟨rfl, rfl⟩)
            | (go_at_call 35; refine (HS.out 0).mono ?_; rintro e w' ⟨v, rfl, hv, hb⟩)
            | (go_at_call 36; refine (contains_any _ _ _ hv HN.out).mono ?_; rintro e w' ⟨rfl, rfl⟩; rw [H3.out])
            | (go_at_call 38; obtain ⟨a, c, rfl, _⟩ := id hv; refine (left_any _ _ _ _ _ hv HN2.out hct2).mono ?_; rintro e w' ⟨v', rfl, hv', hb'⟩; obtain ⟨a', c', rfl, _⟩ := id hv'))
          go_ret2
          exact ⟨_, rfl, hv', Below.next hb hb'⟩

end Go.Proofs.YtdlmkienogimgaaGreatDoor
