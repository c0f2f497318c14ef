/- This text joins 2 parts of a proof. (1) This text proves what the library's functions on texts answer, in our own words: texts cut at each /, put together, copied, turned round; the conditions are that the slices lie there and are short. (2) This text proves what path.Name and path.isNoPart answer: whether a text is a name, and whether it may not stand between two /; nothing is written; the only condition is that a text is no longer than texts can be. -/
import Derived.Test.YtdlmkienogimgaaGreatDoorQ1
import Derived.Test.YtdlmkienogimgaaGreatDoorLo
import Derived.Lib.OwnBridge
import Derived.WalkKit
import Derived.Outline
import Derived.WalkSpells
import Derived.WalkLawsBesides
import Derived.Deep.QuietTactic
import Derived.BigQuiet
namespace Go.Proofs.YtdlmkienogimgaaGreatDoor
open Go.RowKit Go.Deep Go.Shelf Go.Lib

/-- The text at a place, none beyond the end. -/
def sth (ls : List (List UInt8)) (i : Nat) : List UInt8 := ls.getD i []
theorem sth_lt {ls : List (List UInt8)} {i : Nat} (h : i < ls.length) : sth ls i = ls[i] := by unfold sth; simp [List.getD, h]
theorem sth_mem {ls : List (List UInt8)} {i : Nat} (h : i < ls.length) : sth ls i ∈ ls := by rw [sth_lt h]; exact List.getElem_mem h

/-- The value is a slice of these texts, and has room for them. -/
def StrsIs (w : World) (v : Value) (ls : List (List UInt8)) : Prop :=
  ∃ a c, v = .slice a ls.length c ∧ ls.length ≤ c ∧ ls.length ≤ maxLen ∧ (ls ≠ [] → ∃ b o, a = some ⟨b, o, none⟩ ∧ b < w.heap.size ∧ ∀ i, i < ls.length → w.cell? ⟨b, o + i, none⟩ = some (.string (bs (sth ls i))))

theorem StrsIs.later {w w' : World} {v : Value} {ls : List (List UInt8)} (h : StrsIs w v ls) {B : Nat} (hB : w.heap.size ≤ B) (hb : Below B w w') : StrsIs w' v ls := by
  obtain ⟨a, c, h1, h2, h3, h4⟩ := h
  refine ⟨a, c, h1, h2, h3, fun hne => ?_⟩
  obtain ⟨b, o, ha, hlt, hc⟩ := h4 hne
  refine ⟨b, o, ha, Nat.lt_of_lt_of_le hlt hb.size, fun i hi => ?_⟩
  rw [hb.cell (p := ⟨b, o + i, none⟩) (Nat.lt_of_lt_of_le hlt hB)]
  exact hc i hi
theorem StrsIs.where {w : World} {v : Value} {ls : List (List UInt8)} (h : StrsIs w v ls) :
    ∃ a c b o, v = .slice a ls.length c ∧ ls.length ≤ c ∧ ls.length ≤ maxLen ∧ (0 < ls.length → a = some ⟨b, o, none⟩ ∧ b < w.heap.size) ∧ ∀ i, i < ls.length → w.cell? ⟨b, o + i, none⟩ = some (.string (bs (sth ls i))) := by
  obtain ⟨a, c, rfl, hl, hm, hi⟩ := h
  by_cases hx : ls = []
  · subst hx
    exact ⟨a, c, 0, 0, rfl, hl, hm, fun h => absurd h (by simp), fun i h => absurd h (by simp)⟩
  · obtain ⟨b, o, ha, hb, hc⟩ := hi hx
    exact ⟨a, c, b, o, rfl, hl, hm, fun _ => ⟨ha, hb⟩, hc⟩
theorem strs_nil (w : World) (a : Option Addr) (c : Nat) : StrsIs w (.slice a 0 c) [] := ⟨a, c, rfl, Nat.zero_le _, Nat.zero_le _, fun h => absurd rfl h⟩
/-- All but the last. -/
theorem StrsIs.less {w : World} {a : Option Addr} {n c : Nat} {ls : List (List UInt8)} (h : StrsIs w (.slice a n c) ls) : StrsIs w (.slice a (n - 1) c) ls.dropLast := by
  obtain ⟨a', c', hv, hl, hm, hi⟩ := h
  cases hv
  have e : ls.dropLast.length = ls.length - 1 := List.length_dropLast
  refine ⟨_, _, by rw [e], by omega, by omega, fun hne => ?_⟩
  obtain ⟨b, o, ha, hb, hc⟩ := hi (fun h0 => hne (by rw [h0]; rfl))
  refine ⟨b, o, ha, hb, fun i hi => ?_⟩
  rw [hc i (by omega), sth_lt (by omega), sth_lt hi, List.getElem_dropLast]

/-- Texts as cells. -/
def cellsS (ls : List (List UInt8)) : List Value := ls.map encStr
theorem cellsS_len (ls : List (List UInt8)) : (cellsS ls).length = ls.length := by simp [cellsS]
theorem cellsS_one (ls : List (List UInt8)) : ∀ u ∈ cellsS ls, u.oneCell' = true := by
  intro u hu
  obtain ⟨x, _, rfl⟩ := List.mem_map.1 hu
  rfl
theorem cellsS_get {ls : List (List UInt8)} {i : Nat} (h : i < ls.length) : (cellsS ls)[i]? = some (.string (bs (sth ls i))) := by
  simp [cellsS, h, sth_lt h, bs]
theorem cellsS_snoc (ls : List (List UInt8)) (x : List UInt8) : cellsS ls ++ [.string (bs x)] = cellsS (ls ++ [x]) := by simp [cellsS, bs]

/-- Texts of the call's own as a slice. -/
theorem strs_own {w : World} {base n : Nat} {v : Value} {ls : List (List UInt8)} (h : w.ownsRow base 9 1 v n (cellsS ls)) : StrsIs w v ls := by
  have hl : ls.length = n := by have := h.1; rw [cellsS_len] at this; omega
  rcases h.2 with ⟨h0, h1⟩ | ⟨g, cap, cur, h1, h2, h3, h4, h5, _⟩
  · subst h0
    obtain rfl : ls = [] := List.length_eq_zero_iff.1 (by omega)
    exact strs_nil w none 0
  · subst h1
    refine ⟨_, cap, by rw [hl], by omega, by omega, fun _ => ⟨g, 0, rfl, (Array.getElem?_eq_some_iff.1 h3).1, fun i hi => ?_⟩⟩
    rw [Nat.zero_add, h.cellAt i (by omega), cellsS_get hi]

theorem splitB_is (s : ByteArray) : splitB ⟨#[47]⟩ 0 (countB s ⟨#[47]⟩) s = (spl s.data.toList).map bs := by
  have h := (splitB_data ⟨#[47]⟩ 0 (countB s ⟨#[47]⟩) s).trans (split_spl s.data.toList)
  rw [← h, List.map_map]
  conv => lhs; rw [← List.map_id (splitB _ _ _ s)]
  apply List.map_congr_left
  intro x _
  exact (bs_data x).symm
theorem count_is (s : ByteArray) : countB s ⟨#[47]⟩ + 1 = (spl s.data.toList).length := by
  have h := splitB_all ⟨#[47]⟩ (by decide) 0 _ s rfl
  rw [splitB_is, List.length_map] at h
  exact h.symm

/-- The variable internal/bytealg.MaxLen holds some number. -/
def Mx (w : World) : Prop := ∃ m, w.cell? ⟨1, 0, none⟩ = some (.int .i64 m) ∧ 1 < w.heap.size
theorem Mx.later {w w' : World} (h : Mx w) (hb : Below w.heap.size w w') : Mx w' := by
  obtain ⟨m, h1, h2⟩ := h
  exact ⟨m, by rw [hb.cell (p := ⟨1, 0, none⟩) h2]; exact h1, Nat.lt_of_lt_of_le h2 hb.size⟩

theorem split_any (w : World) (s : ByteArray) (hs : s.size ≤ 60) (hm : Mx w) :
    Calls Tryz.prog 35 #[.string s, .string ⟨#[47]⟩] w fun e w' => ∃ v, e = .returned v ∧ StrsIs w' v (spl s.data.toList) ∧ Below w.heap.size w w' := by
  obtain ⟨m, hm, _⟩ := hm
  refine (Any.strings_Split Tryz.layNm_146 Tryz.info9 s ⟨#[47]⟩ m w (by omega) hm (by decide)).mono ?_
  rintro e w' ⟨rfl, rfl⟩
  have hw : (spl s.data.toList).length ≤ 61 := by
    have h1 := countB_le ⟨#[47]⟩ (by decide) s.size s (Nat.le_refl _)
    have h2 := count_is s
    omega
  rw [splitB_is, count_is]
  refine ⟨_, rfl, ⟨_, _, rfl, Nat.le_refl _, by unfold maxLen; omega, fun _ => ⟨w.heap.size, 0, rfl, by simp, fun i hi => ?_⟩⟩, below_alloc _ _⟩
  rw [Nat.zero_add]
  refine (cell_new w _ _ i).trans ?_
  simp [hi, sth_lt hi]

theorem join_any (w : World) (v : Value) (ls : List (List UInt8)) (h : StrsIs w v ls) (hl : ls.length ≤ 1000) (hj : (join ls [47]).length ≤ 1000000) :
    Calls Tryz.prog 32 #[v, .string ⟨#[47]⟩] w fun e w' => e = .returned (.string (bs (join ls [47]))) ∧ Below w.heap.size w w' := by
  obtain ⟨a, c, rfl, hc, hm, hi⟩ := h
  by_cases h0 : ls = []
  · subst h0
    refine (Any.strings_Join_none Tryz.layNm_156 Tryz.layX a c ⟨#[47]⟩ w).mono ?_
    rintro e w' ⟨rfl, rfl⟩
    exact ⟨rfl, Below.refl _ _⟩
  · obtain ⟨b, o, rfl, hb, hcell⟩ := hi h0
    have e1 : (ls.map bs).map (·.data.toList) = ls := by
      rw [List.map_map]
      conv => rhs; rw [← List.map_id ls]
      apply List.map_congr_left
      intro x _
      exact data_bs x
    have k := Any.strings_Join Tryz.layNm_156 Tryz.layX b o c (ls.map bs) ⟨#[47]⟩ w (fun j x hx => by
      have hlt : j < ls.length := by have := (List.getElem?_eq_some_iff.1 hx).1; simpa using this
      rw [hcell j hlt]
      rw [List.getElem?_map, List.getElem?_eq_getElem hlt] at hx
      rw [sth_lt hlt]
      simpa using hx) hb (by rw [List.length_map]; omega) (by rw [List.length_map]; exact hc) (by rw [e1]; exact Nat.le_trans hj (by decide))
    rw [e1, List.length_map] at k
    exact k

theorem cut_any (w : World) (s : ByteArray) :
    Calls Tryz.prog 34 #[.string s, .string ⟨#[47]⟩] w fun e w' => e = .returned (.tuple #[.string (bs (if [47].isPrefixOf s.data.toList then s.data.toList.drop 1 else s.data.toList)), .bool ([47].isPrefixOf s.data.toList)]) ∧ w = w' := by
  refine (Any.strings_CutPrefix Tryz.layNm_103 s ⟨#[47]⟩ w).mono ?_
  rintro e w' ⟨rfl, rfl⟩
  exact ⟨rfl, rfl⟩
theorem Tryz.layC : LaysM.n316 Tryz.prog Tryz.renP :=
  { Tryz.layNm_316 with t5 := Tryz.underlying5, a5 := Tryz.isAgg5, z5 := Tryz.sizeOf5, v5 := Tryz.zeroValue5, i0 := by kernel_rfl, i3 := by kernel_rfl, i4 := by kernel_rfl, i5 := by kernel_rfl, i9 := by kernel_rfl, i37 := by kernel_rfl, i127 := by kernel_rfl }

set_option maxHeartbeats 1000000 in
theorem clone_any (w : World) (s : ByteArray) (hs : s.size ≤ 1000000) : Calls Tryz.prog 65 #[.string s] w fun e w' => e = .returned (.string s) ∧ Below w.heap.size w w' := by
  have HK : Hid _ := fun (_ : Nat) => Any.stringslite_Clone Tryz.layC s w (by omega)
  go_enter Tryz.func65, Tryz.ntmps65
  go_wp2_with (go_at_call 84; refine (HK.out 0).mono ?_; rintro e w' ⟨rfl, hb⟩)
  go_ret
  exact ⟨rfl, hb⟩

theorem rev_any (w : World) (base n : Nat) (v : Value) (ls : List (List UInt8)) (h : w.ownsRow base 9 1 v n (cellsS ls)) (hn : n ≤ 1000000) :
    Calls Tryz.prog 66 #[v] w fun e w' => e = .returned (.tuple #[]) ∧ w'.ownsRow base 9 1 v n (cellsS ls.reverse) ∧ w.grownBy w' v.ownBlock := by
  by_cases h0 : v = .slice none 0 0
  · subst h0
    have hn0 : n = 0 := by
      rcases h.2 with ⟨_, h1⟩ | ⟨g, cap, cur, h1, _⟩
      · exact h1
      · cases h1
    have hl : ls = [] := List.length_eq_zero_iff.1 (by have := h.1; rw [cellsS_len] at this; omega)
    subst hl
    refine (Any.slices_Reverse_string_empty Tryz.layNm2_17 none 0 w).mono ?_
    rintro e w' ⟨rfl, rfl⟩
    exact ⟨rfl, h, rfl, rfl, rfl, Nat.le_refl _, fun _ _ _ => rfl⟩
  · obtain ⟨g, cap, rfl, hb, hg, hc, hm, hl, hH⟩ := holds_of_ownsRow (zs := ls) (enc := encStr) h h0
    subst hl
    refine (Any.slices_Reverse_string Tryz.layNm2_17 g 0 cap ls w hH (by omega)).mono ?_
    rintro e w' ⟨rfl, q, rfl⟩
    refine ⟨rfl, ?_, rfl, rfl, rfl, by simp [Sort.ahead], fun b hb hne => ?_⟩
    rotate_left
    · have : g ≠ b := fun e => hne (by rw [e]; rfl)
      simp [Go.Sort.putRow, Go.Sort.mapBlock, Sort.ahead, Array.getElem?_modify, this]
    have := ownsRow_putRow (enc := encStr) (q := q) (k := ls.length) (zs := ls) (ys := ls.reverse) h (by simp) (Nat.le_refl _)
    rw [show ls.reverse.take ls.length = ls.reverse from List.take_of_length_le (by simp)] at this
    exact this

end Go.Proofs.YtdlmkienogimgaaGreatDoor

namespace Go.Proofs.YtdlmkienogimgaaGreatDoor
open Go.RowKit Go.Deep Go.Shelf

theorem get_data (s : ByteArray) (k : Nat) (h : k < s.size) : s.data.toList[k]? = some s[k] := by
  have h' : k < s.data.toList.length := by rw [← Lib.size_eq]; exact h
  rw [List.getElem?_eq_getElem h']
  rfl
theorem isN_short {s : ByteArray} (h : s.size < 1) : isN s.data.toList = false := by
  rw [Lib.size_eq] at h
  unfold isN
  rw [decide_eq_false (by omega)]; rfl
theorem isN_long {s : ByteArray} (h : 4 < s.size) : isN s.data.toList = false := by
  rw [Lib.size_eq] at h
  unfold isN
  rw [decide_eq_false (show ¬ s.data.toList.length ≤ 4 by omega)]; simp
theorem isN_bad {s : ByteArray} {k : Nat} (h : k < s.size) (hb : isL s[k] = false) : isN s.data.toList = false := by
  unfold isN
  rw [show s.data.toList.all isL = false from ?_]
  · simp
  · rw [List.all_eq_false]
    have := List.mem_of_getElem? (get_data s k h)
    exact ⟨_, this, by simp [hb]⟩
theorem isN_good {s : ByteArray} (h1 : ¬ s.size < 1) (h2 : ¬ 4 < s.size) (h : ∀ (k : Nat) (hk : k < s.size), isL s[k] = true) : isN s.data.toList = true := by
  unfold isN
  rw [← Lib.size_eq, decide_eq_true (by omega), decide_eq_true (by omega), show s.data.toList.all isL = true from ?_]
  · rfl
  · rw [List.all_eq_true]
    intro c hc
    obtain ⟨i, hi, rfl⟩ := List.getElem_of_mem hc
    have hi' : i < s.size := by rw [Lib.size_eq]; exact hi
    have := get_data s i hi'
    rw [List.getElem?_eq_getElem hi] at this
    rw [Option.some.inj this]
    exact h i hi'

set_option maxHeartbeats 2000000 in
theorem name_any (w : World) (s : ByteArray) (hs : s.size ≤ maxLen) : Calls Tryz.prog 63 #[.string s] w fun e w' => e = .returned (.bool (isN s.data.toList)) ∧ w = w' := by
  unfold maxLen at hs
  by_cases h1 : s.size < 1
  · rw [isN_short h1]
    go_enter Tryz.func63, Tryz.ntmps63
    go_wp2
    go_ret
    exact ⟨rfl, rfl⟩
  · by_cases h2 : 4 < s.size
    · rw [isN_long h2]
      go_enter Tryz.func63, Tryz.ntmps63
      go_wp2
      go_ret
      exact ⟨rfl, rfl⟩
    · obtain ⟨b, hb⟩ : ∃ b, isN s.data.toList = b := ⟨_, rfl⟩
      have HB : Hid (isN s.data.toList = b) := hb
      rw [hb]
      clear hb
      go_enter Tryz.func63, Tryz.ntmps63
      go_wp2
      go_loop [3, 14] (fun _ i => ∃ k : Nat, k ≤ s.size ∧ i = .int .i64 k ∧ ∀ (j : Nat) (hj : j < s.size), j < k → isL s[j] = true) (fun _ i => s.size - (intOf i).toNat)
      case atStart => exact ⟨0, Nat.zero_le _, rfl, fun j _ hj => absurd hj (Nat.not_lt_zero _)⟩
      case round =>
        obtain ⟨k, hk, rfl, hall⟩ := hrel
        have HA : Hid (∀ (j : Nat) (hj : j < s.size), j < k → isL s[j] = true) := hall
        clear hall
        by_cases hlt : k < s.size
        · by_cases h3 : 97 ≤ s[k].toNat
          · by_cases h4 : s[k].toNat ≤ 122
            · go_wp2
              go_round
              case rel =>
                refine ⟨k + 1, by omega, by go_num, fun j hj hj2 => ?_⟩
                by_cases e : j = k
                · subst e; simp [isL, h3, h4]
                · exact HA.out j hj (by omega)
              case measure => simp [intOf]; omega
            · go_wp2
              go_ret
              refine ⟨?_, rfl⟩
              rw [← HB.out, isN_bad hlt (by simp [isL]; omega)]; rfl
          · go_wp2
            go_ret
            refine ⟨?_, rfl⟩
            rw [← HB.out, isN_bad hlt (by simp [isL]; omega)]; rfl
        · have hkn : k = s.size := by omega
          subst hkn
          go_wp2
          go_ret
          refine ⟨?_, rfl⟩
          rw [← HB.out, isN_good h1 h2 fun j hj => HA.out j hj hj]; rfl

set_option maxHeartbeats 2000000 in
theorem nopart_any (w : World) (s : ByteArray) (hs : s.size ≤ maxLen) : Calls Tryz.prog 37 #[.string s] w fun e w' => e = .returned (.bool (noP s.data.toList)) ∧ w = w' := by
  have HK : Hid _ := fun (_ : Nat) => name_any w s hs
  go_enter Tryz.func37, Tryz.ntmps37
  go_wp2_with (go_at_call 63; refine (HK.out 0).mono ?_; rintro e w' ⟨rfl, rfl⟩)
  · rename_i h1
    go_ret
    refine ⟨?_, rfl⟩
    rw [ByteArray.toList_eq] at h1
    rw [h1]; rfl
  · rename_i h0 h1
    go_ret
    refine ⟨?_, rfl⟩
    rw [ByteArray.toList_eq] at h1
    rw [h1]; rfl
  · rename_i h00 h0 h1
    go_ret
    refine ⟨?_, rfl⟩
    rw [ByteArray.toList_eq] at h1
    rw [h1]; rfl
  · rename_i h1 h2 h3
    go_ret
    refine ⟨?_, rfl⟩
    rw [ByteArray.toList_eq] at h1 h2 h3
    have h1' : ¬ s.data = #[] := fun e => h1 (by rw [e])
    simp [noP, h1', h2, h3, ByteArray.toList_eq]

/-- The same of many texts. -/
theorem small_data {l : List UInt8} (h : l.length ≤ 1000000) : (bs l).size ≤ maxLen := by
  rw [Lib.size_eq, data_bs]; unfold maxLen; omega

set_option maxRecDepth 100000 in
theorem Tryz.enterNo : ∀ args w, (callFunc 37 args).run Tryz.prog w = .ok (.enter 37 args) w := fun _ _ => by rfl

theorem any_yes {ls : List (List UInt8)} {k : Nat} (hk : k < ls.length) (h : noP (sth ls k) = true) : ls.any noP = true := by
  rw [List.any_eq_true]
  exact ⟨_, sth_mem hk, h⟩
theorem any_no {ls : List (List UInt8)} (h : ∀ k, k < ls.length → noP (sth ls k) = false) : ls.any noP = false := by
  rw [List.any_eq_false]
  intro x hx
  obtain ⟨i, hi, rfl⟩ := List.getElem_of_mem hx
  rw [← sth_lt hi, h i hi]
  simp

set_option maxHeartbeats 2000000 in
theorem index_any (w : World) (v : Value) (ls : List (List UInt8)) (hx : StrsIs w v ls) (hsm : ∀ l ∈ ls, l.length ≤ 1000000) :
    Calls Tryz.prog 62 #[v, .func (.func 37) #[] #[]] w fun e w' => ∃ i : Int, e = .returned (.int .i64 i) ∧ decide (0 ≤ i) = ls.any noP ∧ w = w' := by
  obtain ⟨a, c, b, o, rfl, _, hl, ha, hc⟩ := hx.where
  obtain ⟨n, hxn⟩ : ∃ n, n = ls.length := ⟨_, rfl⟩
  have HX : Hid (n = ls.length) := hxn
  rw [← hxn] at hl ha hc ⊢
  have HC : Hid (∀ i, i < n → w.cell? ⟨b, o + i, none⟩ = some (.string (bs (sth ls i)))) := hc
  have HS : Hid (∀ i, i < n → (bs (sth ls i)).size ≤ maxLen) := fun i hi => small_data (hsm _ (sth_mem (by rw [← hxn]; exact hi)))
  unfold maxLen at hl
  have e30 := Tryz.enterNo
  clear hc hxn hx hsm
  go_enter Tryz.func62, Tryz.ntmps62
  go_wp2
  go_loop [5, 8] (fun _ i => ∃ k : Nat, k ≤ n ∧ i = .int .i64 k ∧ ∀ j, j < k → noP (sth ls j) = false) (fun _ i => n - (intOf i).toNat)
  case atStart => exact ⟨0, Nat.zero_le _, rfl, fun j hj => absurd hj (Nat.not_lt_zero _)⟩
  case round =>
    obtain ⟨k, hk, rfl, hall⟩ := hrel
    have HA : Hid (∀ j, j < k → noP (sth ls j) = false) := hall
    clear hall
    by_cases hlt : k < n
    · have haa := (ha (by omega)).1
      subst haa
      have hck := HC.out k hlt
      have HZ : Hid _ := fun (_ : Nat) => nopart_any w (bs (sth ls k)) (HS.out k hlt)
      rw [data_bs] at HZ
      cases hi : noP (sth ls k) with
      | true =>
        have HI : Hid (noP (sth ls k) = true) := hi
        rw [hi] at HZ
        clear hi
        go_wp2_with (go_at_call 37; refine (HZ.out 0).mono ?_; rintro e w' ⟨rfl, rfl⟩)
        go_ret
        exact ⟨_, rfl, by rw [any_yes (by rw [← HX.out]; exact hlt) HI.out]; simp, rfl⟩
      | false =>
        have HI : Hid (noP (sth ls k) = false) := hi
        rw [hi] at HZ
        clear hi
        go_wp2_with (go_at_call 37; refine (HZ.out 0).mono ?_; rintro e w' ⟨rfl, rfl⟩)
        go_round
        case rel =>
          refine ⟨k + 1, by omega, by go_num, fun j hj => ?_⟩
          by_cases e : j = k
          · subst e; exact HI.out
          · exact HA.out j (by omega)
        case measure => simp [intOf]; omega
    · have hkn : k = n := by omega
      subst hkn
      go_wp2
      go_ret
      exact ⟨_, rfl, by rw [any_no (by rw [← HX.out]; exact HA.out)]; rfl, rfl⟩

set_option maxHeartbeats 1000000 in
theorem contains_any (w : World) (v : Value) (ls : List (List UInt8)) (hx : StrsIs w v ls) (hsm : ∀ l ∈ ls, l.length ≤ 1000000) :
    Calls Tryz.prog 36 #[v, .func (.func 37) #[] #[]] w fun e w' => e = .returned (.bool (ls.any noP)) ∧ w = w' := by
  have HK : Hid _ := fun (_ : Nat) => index_any w v ls hx hsm
  go_enter Tryz.func36, Tryz.ntmps36
  go_wp2_with (go_at_call 62; refine (HK.out 0).mono ?_; rintro e w' ⟨i, rfl, hi, rfl⟩)
  go_ret
  refine ⟨?_, rfl⟩
  rw [← hi]; rfl

end Go.Proofs.YtdlmkienogimgaaGreatDoor
