/- This text proves what the document's own Without and Rising (package platterholdref1) answer: the list without the first of a number, and the same numbers, rising; the new lists lie in memory of the call's own and all old memory is as it was; the conditions: the slice lies there and holds at most 1000 numbers. -/
import Derived.Test.YtckdknkgadhmjaaDoorChecked
import Derived.Test.YtckdknkgadhmjaaDoorKp
import Derived.Test.YtckdknkgadhmjaaDoorKt
import Derived.WalkKit
import Derived.Outline
import Derived.WalkSpells
import Derived.WalkLawsBesides
namespace Go.Proofs.YtckdknkgadhmjaaDoor
open Go.RowKit Go.Deep

/-- The first i without the first of a number. -/
def woL (xs : List Int) (x : Int) (i : Nat) : List Int := (xs.take i).erase x
def woB (xs : List Int) (x : Int) (i : Nat) : Bool := decide (x ∈ xs.take i)

theorem woL_all (xs : List Int) (x : Int) : woL xs x xs.length = xs.erase x := by unfold woL; rw [List.take_length]
theorem woL_len (xs : List Int) (x : Int) (i : Nat) (hi : i ≤ xs.length) : (woL xs x i).length ≤ i := by
  have h1 : (woL xs x i).length ≤ (xs.take i).length := List.length_erase_le
  rw [List.length_take] at h1
  omega

theorem wo_gone {xs : List Int} {x : Int} {i : Nat} (hi : i < xs.length) (h : nth xs i = x) (hb : woB xs x i = false) : woL xs x (i + 1) = woL xs x i ∧ woB xs x (i + 1) = true := by
  have hb' : x ∉ xs.take i := by simpa [woB] using hb
  rw [nth_lt hi] at h
  unfold woL woB
  rw [List.take_succ_eq_append_getElem hi, h, List.erase_append, if_neg hb', List.erase_of_not_mem hb']
  simp
theorem wo_more {xs : List Int} {x : Int} {i : Nat} (hi : i < xs.length) (h : nth xs i ≠ x ∨ woB xs x i = true) : woL xs x (i + 1) = woL xs x i ++ [nth xs i] ∧ woB xs x (i + 1) = woB xs x i := by
  by_cases hm : x ∈ xs.take i
  · unfold woL woB
    rw [List.take_succ_eq_append_getElem hi, List.erase_append, if_pos hm, nth_lt hi]
    exact ⟨rfl, by rw [decide_eq_decide, List.mem_append, List.mem_singleton]; exact ⟨fun _ => hm, .inl⟩⟩
  · have hne : nth xs i ≠ x := by
      rcases h with h | h
      · exact h
      · simp [woB, hm] at h
    rw [nth_lt hi] at hne
    unfold woL woB
    rw [List.take_succ_eq_append_getElem hi, List.erase_append, if_neg hm, List.erase_of_not_mem hm, nth_lt hi, List.erase_of_not_mem (by simpa using fun h => hne h.symm)]
    exact ⟨rfl, by rw [decide_eq_decide, List.mem_append, List.mem_singleton]; exact ⟨fun h => h.resolve_right (fun e => hne e.symm), .inl⟩⟩

set_option maxHeartbeats 4000000 in
set_option maxRecDepth 100000 in
theorem without_any (w : World) (v : Value) (xs : List Int) (x : Int) (hx : SliceIs w v xs) (hn : xs.length ≤ 1000) :
    Calls Tryd.prog 19 #[v, .int .i64 x] w fun e w' => ∃ v', e = .returned v' ∧ w'.ownsRow w.heap.size 3 1 v' (xs.erase x).length (cellsOf (xs.erase x)) ∧ Below w.heap.size w w' := by
  have hlater := fun w' (hb : Below w.heap.size w w') => hx.later hb
  obtain ⟨a, c, hv, hl, hi⟩ := hx
  subst hv
  obtain ⟨n, hxn⟩ : ∃ n, n = xs.length := ⟨_, rfl⟩
  have HN : Hid (n = xs.length) := hxn
  have HC : Hid (∀ w', Below w.heap.size w w' → ∀ i, i < n → ∃ b o, a = some ⟨b, o, none⟩ ∧ w'.cell? ⟨b, o + i, none⟩ = some (.int .i64 (nth xs i))) := fun w' hb i hi => by
    obtain ⟨a', c', hv, _, hc⟩ := hlater w' hb
    cases hv
    obtain ⟨b, o, h1, _, h3⟩ := hc (fun e => by rw [e] at hxn; simp at hxn; omega)
    exact ⟨b, o, h1, h3 i (by rw [← hxn]; exact hi)⟩
  have HE : Hid (woL xs x n = xs.erase x) := by show woL xs x n = _; rw [hxn]; exact woL_all xs x
  rw [← hxn] at hn ⊢
  clear hlater hl hi hxn
  go_enter Tryd.func19, Tryd.ntmps19
  go_wp2
  go_loopw [5, 6, 7] (fun v5 v6 v7 wr => ∃ i : Nat, i ≤ n ∧ v7 = .int .i64 i ∧ v6 = .bool (woB xs x i) ∧ wr.ownsRow w.heap.size 3 1 v5 (woL xs x i).length (cellsOf (woL xs x i)) ∧ Below w.heap.size w wr) (fun _ _ i _ => n - (intOf i).toNat)
  case atStart => exact ⟨0, Nat.zero_le _, rfl, rfl, World.ownsRow_nil _ _ _ _, Below.refl _ _⟩
  case round =>
    obtain ⟨i, hi, rfl, rfl, hown, hb⟩ := hrel
    rename_i wr _
    have HO : Hid (wr.ownsRow w.heap.size 3 1 u5 (woL xs x i).length (cellsOf (woL xs x i))) := hown
    have HB : Hid (Below w.heap.size w wr) := hb
    clear hown hb
    by_cases hlt : i < n
    · obtain ⟨b, o, haa, hci⟩ := HC.out wr HB.out i hlt
      subst haa
      have hii : (i : Int) < (n : Int) := by omega
      have HLT : Hid (i < xs.length) := by rw [← HN.out]; exact hlt
      by_cases hg : nth xs i = x ∧ woB xs x i = false
      · obtain ⟨hg1, hg2⟩ := hg
        obtain ⟨q1, q2⟩ := wo_gone HLT.out hg1 hg2
        have HQ1 : Hid _ := q1
        have HQ2 : Hid _ := q2
        rw [hg1] at hci
        rw [hg2]
        clear q1 q2 hg1 hg2
        go_wp2
        go_roundw
        case rel => exact ⟨i + 1, by omega, by go_num, by rw [HQ2.out], by rw [HQ1.out]; exact HO.out, HB.out⟩
        case measure => simp [intOf]; omega
      · obtain ⟨q1, q2⟩ := wo_more (x := x) HLT.out (by
          by_cases h1 : nth xs i = x
          · right; cases h2 : woB xs x i with
            | true => rfl
            | false => exact absurd ⟨h1, h2⟩ hg
          · exact .inl h1)
        have HQ1 : Hid _ := q1
        have HQ2 : Hid _ := q2
        clear q1 q2
        have HLL : Hid ((woL xs x i).length ≤ i) := woL_len xs x i (by rw [← HN.out]; exact hi)
        have HO1 : Hid ((wr.alloc (.cells #[.int .i64 (nth xs i)] 3)).ownsRow w.heap.size 3 1 u5 (woL xs x i).length (cellsOf (woL xs x i))) := HO.out.alloc _
        have HY : Hid (SliceIs (wr.alloc (.cells #[.int .i64 (nth xs i)] 3)) (.slice (some ⟨wr.heap.size, 0, none⟩) 1 1) [nth xs i]) := ints_lit wr [nth xs i] (show 1 ≤ maxLen by decide) 1
        have HS0 : Hid (w.heap.size ≤ (wr.alloc (.cells #[.int .i64 (nth xs i)] 3)).heap.size) := Nat.le_trans HB.out.size (by simp)
        have H63 : Hid ((woL xs x i).length ≤ 1000000) := by have := HLL.out; show (woL xs x i).length ≤ 1000000; omega
        have FIN : Hid (∀ g2 c2 W1, W1.ownsRow w.heap.size 3 1 (.slice (some ⟨g2, 0, none⟩) ((woL xs x i).length + 1) c2) ((woL xs x i).length + 1) (cellsOf (woL xs x i ++ [nth xs i])) → (wr.alloc (.cells #[.int .i64 (nth xs i)] 3)).grownBy W1 u5.ownBlock →
            W1.ownsRow w.heap.size 3 1 (.slice (some ⟨g2, 0, none⟩) ((woL xs x i).length + 1) c2) (woL xs x (i + 1)).length (cellsOf (woL xs x (i + 1))) ∧ Below w.heap.size w W1) := fun g2 c2 W1 h1 h2 =>
          ⟨by rw [HQ1.out, List.length_append]; exact h1, (HB.out.trans ((Below.refl _ _).alloc HB.out.size _)).trans ((Below.refl _ _).grown h2 HS0.out (fun k e => (HO.out.lt k e).1))⟩
        by_cases h1 : nth xs i = x
        · have hg2 : woB xs x i = true := by
            cases h2 : woB xs x i with
            | true => rfl
            | false => exact absurd ⟨h1, h2⟩ hg
          have HG2 : Hid (woB xs x i = true) := hg2
          rw [hg2]
          have hb1 : (nth xs i == x) = true := by simp [h1]
          clear h1 hg hg2
          go_wp2_with (at_builtin; refine wpList_append_lie rfl (.tmp 24) (.tmp 29) rfl w.heap.size u5 _ (woL xs x i) rfl HO1.out _ (nth xs i) rfl HY.out H63.out HS0.out ?q1)
          case q1 =>
            intro g2 c2 W1 h1 h2 _ _
            obtain ⟨h3, h4⟩ := FIN.out g2 c2 W1 h1 h2
            have H3 : Hid _ := h3
            have H4 : Hid _ := h4
            clear h1 h2 h3 h4 FIN
            go_wp2
            go_roundw
            case rel => exact ⟨i + 1, by omega, by go_num, by rw [HQ2.out, HG2.out], H3.out, H4.out⟩
            case measure => simp [intOf]; omega
        · have hb1 : (nth xs i == x) = false := by simp [h1]
          clear h1 hg
          go_wp2_with (at_builtin; refine wpList_append_lie rfl (.tmp 24) (.tmp 29) rfl w.heap.size u5 _ (woL xs x i) rfl HO1.out _ (nth xs i) rfl HY.out H63.out HS0.out ?q1)
          case q1 =>
            intro g2 c2 W1 h1 h2 _ _
            obtain ⟨h3, h4⟩ := FIN.out g2 c2 W1 h1 h2
            have H3 : Hid _ := h3
            have H4 : Hid _ := h4
            clear h1 h2 h3 h4 FIN
            go_wp2
            go_roundw
            case rel => exact ⟨i + 1, by omega, by go_num, by rw [HQ2.out], H3.out, H4.out⟩
            case measure => simp [intOf]; omega
    · have hin : i = n := by omega
      subst hin
      go_wp2
      go_ret
      exact ⟨_, rfl, by rw [← HE.out]; exact HO.out, HB.out⟩

end Go.Proofs.YtckdknkgadhmjaaDoor
