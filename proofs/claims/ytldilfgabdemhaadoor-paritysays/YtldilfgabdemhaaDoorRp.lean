/- This text proves what the document's own function Parity (package platterholdref1) answers for rows that are as they should be: the exclusive or at each place, in new memory; the condition is that the rows lie there and are as they should be. -/
import Derived.Test.YtldilfgabdemhaaDoorRf
import Derived.Test.YtldilfgabdemhaaDoorBt
import Derived.Test.YtldilfgabdemhaaDoorOf
namespace Go.Proofs.YtldilfgabdemhaaDoor
open Go.RowKit Go.Deep

/-- The cells of what is left, the first k of them. -/
def parCells (rs : List (List Int)) (k : Nat) : List Value := (List.range k).map fun i => .int .i64 (parTo rs i rs.length)

theorem parCells_succ (rs : List (List Int)) (k : Nat) : parCells rs k ++ [.int .i64 (parTo rs k rs.length)] = parCells rs (k + 1) := by
  unfold parCells
  rw [List.range_succ, List.map_append]
  rfl

theorem slice_own {w : World} {base n : Nat} {v : Value} {rs : List (List Int)} (h : w.ownsRow base 3 1 v n (parCells rs n)) (hn : (rowAt rs 0).length = n) (hm : n ≤ maxLen) : SliceIs w v (parity rs) := by
  rcases h.2 with ⟨rfl, h0⟩ | ⟨g, cap, cur, rfl, h2, h3, _⟩
  · refine ⟨none, 0, by rw [parity_length, hn, h0], by rw [parity_length, hn]; exact hm, fun hne => absurd ?_ hne⟩
    exact List.eq_nil_of_length_eq_zero (by rw [parity_length, hn, h0])
  · refine ⟨_, cap, by rw [parity_length, hn], by rw [parity_length, hn]; exact hm, fun _ => ⟨g, 0, rfl, (Array.getElem?_eq_some_iff.1 h3).1, fun i hi => ?_⟩⟩
    rw [parity_length] at hi
    rw [Nat.zero_add, h.cellAt i (by rw [← hn]; omega), nth_parity hi]
    rw [hn] at hi
    simp [parCells, hi]

/-- A power of 2. -/
def pw (t : Nat) : Int := ((2 ^ t : Nat) : Int)

theorem pow_cases {t : Nat} (h : t < 8) {P : Int} (hP : P = pw t) : P = 1 ∨ P = 2 ∨ P = 4 ∨ P = 8 ∨ P = 16 ∨ P = 32 ∨ P = 64 ∨ P = 128 := by
  rcases (show t = 0 ∨ t = 1 ∨ t = 2 ∨ t = 3 ∨ t = 4 ∨ t = 5 ∨ t = 6 ∨ t = 7 by omega) with rfl | rfl | rfl | rfl | rfl | rfl | rfl | rfl <;> subst hP <;> simp [pw]

theorem pow_next {t : Nat} {P Q : Int} (hP : P = pw t) (hQ : Q = P * 2) : Q = pw (t + 1) := by
  unfold pw at *
  rw [Nat.pow_succ, hQ, hP]; simp

theorem sum_next {rs : List (List Int)} {k m t : Nat} {P S X : Int} (hP : P = pw t) (hS : S = sumTo rs k m t) (hX : X = S + P * (cnt rs k P m % 2)) : X = sumTo rs k m (t + 1) := by
  subst hP hS hX
  rfl

theorem val_eq {a b : Int} (h : a = b) : Value.int .i64 a = Value.int .i64 b := by rw [h]

set_option maxHeartbeats 8000000 in
theorem rpar_good (w : World) (b off cap n : Nat) (rs : List (List Int)) (hb : b < w.heap.size) (hg : GoodRows n rs)
    (hc : ∀ i, i < rs.length → ∃ v, w.cell? ⟨b, off + i, none⟩ = some v ∧ SliceIs w v (rowAt rs i)) :
    Calls Tryd.prog 8 #[.slice (some ⟨b, off, none⟩) rs.length cap] w fun e w' => ∃ v, e = .returned v ∧ w'.ownsRow w.heap.size 3 1 v n (parCells rs n) ∧ Below w.heap.size w w' := by
  obtain ⟨ti, hti, hz0, hz1, hz2⟩ := info_parts Tryd.info3
  obtain ⟨g1, g2, g3⟩ := hg
  have hn16 : n ≤ 16 := by have := (g3 0 g1); have := this.1; have := (g3 0 g1).2.1; omega
  obtain ⟨m, hm⟩ : ∃ m, m = rs.length := ⟨_, rfl⟩
  have HM : Hid (m = rs.length) := hm
  rw [← hm] at g1 g2 g3 hc ⊢
  clear hm
  have HG : Hid (∀ i, i < m → Good n (rowAt rs i)) := g3
  have HC : Hid (∀ i, i < m → ∃ v, w.cell? ⟨b, off + i, none⟩ = some v ∧ SliceIs w v (rowAt rs i)) := hc
  obtain ⟨v0, hc0, a0, cap0, hv0, _, _⟩ := hc 0 g1
  subst hv0
  rw [(g3 0 g1).2.1] at hc0
  simp only [Nat.add_zero] at hc0
  have hmpos : (0 : Int) < (m : Int) := by omega
  clear g3 hc
  go_enter Tryd.func8, Tryd.ntmps8
  go_wp2
  go_loopw [3, 4] (fun o i wr => ∃ k : Nat, k ≤ n ∧ i = .int .i64 k ∧ wr.ownsRow w.heap.size 3 1 o k (parCells rs k) ∧ Below w.heap.size w wr) (fun _ i _ => n - (intOf i).toNat)
  case atStart => exact ⟨0, Nat.zero_le _, rfl, World.ownsRow_nil _ _ _ _, Below.refl _ _⟩
  case round =>
    obtain ⟨k, hk, rfl, hown, hbel⟩ := hrel
    have HO : Hid (wr.ownsRow w.heap.size 3 1 u3 k (parCells rs k)) := hown
    have HB : Hid (Below w.heap.size w wr) := hbel
    clear hown hbel
    have h0 : wr.cell? ⟨b, off, none⟩ = some (.slice a0 n cap0) := by rw [HB.out.cell (p := ⟨b, off, none⟩) hb]; exact hc0
    by_cases hlt : k < n
    · have HP : Hid (sumTo rs k m 8 = parTo rs k m) := sumTo_par hlt HG.out
      go_wp2
      go_loop [5, 6] (fun s p => ∃ t : Nat, t ≤ 8 ∧ p = .int .i64 (pw t) ∧ s = .int .i64 (sumTo rs k m t)) (fun _ p => (256 - intOf p).toNat)
      case atStart => exact ⟨0, Nat.zero_le _, rfl, rfl⟩
      case round =>
        obtain ⟨t, ht, rfl, rfl⟩ := hrel
        by_cases ht8 : t < 8
        · have hsb := sumTo_bd rs k m t
          have hpw : (2 ^ t : Nat) ≤ 2 ^ 7 := Nat.pow_le_pow_right (by decide) (by omega)
          obtain ⟨S, hS⟩ : ∃ S, S = sumTo rs k m t := ⟨_, rfl⟩
          obtain ⟨P, hP⟩ : ∃ P : Int, P = pw t := ⟨_, rfl⟩
          have hS0 : 0 ≤ S := by rw [hS]; exact hsb.1
          have hS1 : S ≤ 255 := by rw [hS]; have := hsb.2; omega
          have HS : Hid (S = sumTo rs k m t) := hS
          have HPt : Hid (P = pw t) := hP
          rw [← hS, ← hP]
          have hcs := pow_cases ht8 hP
          clear hsb hpw hS hP
          rcases hcs with rfl | rfl | rfl | rfl | rfl | rfl | rfl | rfl
          all_goals
            go_wp2
            go_loop [7, 8] (fun s i => ∃ r : Nat, r ≤ m ∧ i = .int .i64 r ∧ s = .int .i64 (cnt rs k (pw t) r)) (fun _ i => m - (intOf i).toNat)
            case atStart => exact ⟨0, Nat.zero_le _, rfl, rfl⟩
            case round =>
              obtain ⟨r, hr, rfl, rfl⟩ := hrel
              have hcb := cnt_bd rs k (pw t) r
              obtain ⟨c, hcc⟩ : ∃ c, c = cnt rs k (pw t) r := ⟨_, rfl⟩
              rw [← hcc] at hcb ⊢
              have hc1 := hcb.1
              have hc2 := hcb.2
              have HCC : Hid (c = cnt rs k (pw t) r) := hcc
              clear hcc hcb
              by_cases hrm : r < m
              · obtain ⟨vr, hcr, ar, capr, hvr, hlr, hir⟩ := HC.out r hrm
                have gr := HG.out r hrm
                obtain ⟨br, orr, har, _, hcells⟩ := hir (fun e => by have := gr.2.1; rw [e] at this; simp at this; omega)
                have hlen : (rowAt rs r).length = n := gr.2.1
                rw [hlen] at hvr hcells
                subst hvr har
                have hrow : wr.cell? ⟨b, off + r, none⟩ = some (.slice (some ⟨br, orr, none⟩) n capr) := by rw [HB.out.cell (p := ⟨b, off + r, none⟩) hb]; exact hcr
                have hxk : wr.cell? ⟨br, orr + k, none⟩ = some (.int .i64 (nth (rowAt rs r) k)) := by
                  have hx := hcells k hlt
                  rw [HB.out.cell (p := ⟨br, orr + k, none⟩) (World.block_lt_of_cell? _ _ hx)]; exact hx
                have hby := good_nth gr hlt
                obtain ⟨y, hy⟩ : ∃ y, y = nth (rowAt rs r) k := ⟨_, rfl⟩
                rw [← hy] at hby hxk
                have hy0 := hby.1
                have hy1 := hby.2
                have HY : Hid (y = nth (rowAt rs r) k) := hy
                clear hcr hlr hir hcells gr hlen hby hy
                go_wp2
                go_round
                case rel => exact ⟨r + 1, by omega, by go_num, val_eq (by rw [cnt, ← HY.out, ← HCC.out, ← HPt.out] <;> simp)⟩
                case measure => simp [intOf]; omega
              · have hrm' : r = m := by omega
                subst hrm'
                go_wp2
                go_round
                case rel => exact ⟨t + 1, by omega, val_eq (pow_next HPt.out (by decide)), val_eq (sum_next HPt.out HS.out (by rw [HPt.out, ← HCC.out, ← HPt.out] <;> simp))⟩
                case measure => simp [intOf]
        · have : t = 8 := by omega
          subst this
          rw [HP.out]
          have hpb := parTo_byte (rs := rs) hlt (k := m) HG.out
          obtain ⟨z, hz⟩ : ∃ z, z = parTo rs k m := ⟨_, rfl⟩
          have HZ : Hid (z = parTo rs k m) := hz
          rw [← hz]
          clear hz hpb
          have hsz : w.heap.size ≤ wr.heap.size := HB.out.size
          go_wp2_with (at_builtin; refine wpList_append_own _ rfl (.tmp 45) (.tmp 47) 23 rfl w.heap.size 3 ti (.int .i64 0) 1 8 Tryd.underlying23 hti hz0 hz1 hz2 rfl (by decide) u3 k (parCells rs k) rfl (HO.out.alloc _) ⟨wr.heap.size, 0, none⟩ 1 1 [.int .i64 z] rfl ?q1 ?q2 ?q3 ?q4 ?q5 ?q6 ?q7)
          case q3 => rfl
          case q4 => unfold maxLen; omega
          case q5 => omega
          case q6 => omega
          case q7 =>
            intro v3 w3 hown hgr _
            have HO3 : Hid (w3.ownsRow w.heap.size 3 1 v3 (k + 1) (parCells rs (k + 1))) := by
              rw [HZ.out, HM.out, parCells_succ] at hown
              exact hown
            have HB3 : Hid (Below w.heap.size w w3) := (HB.out.alloc hsz _).grown hgr (by simp; omega) (fun k e => (HO.out.lt k e).1)
            clear hown hgr
            go_wp2
            go_roundw
            case rel => exact ⟨k + 1, by omega, by go_num, HO3.out, HB3.out⟩
            case measure => simp [intOf]; omega
    · have hkn : k = n := by omega
      subst hkn
      go_wp2
      go_ret
      exact ⟨_, rfl, HO.out, HB.out⟩

theorem rpar_any (w : World) (v : Value) (n : Nat) (rs : List (List Int)) (h : RowsIs w v rs) (hg : GoodRows n rs) :
    Calls Tryd.prog 8 #[v] w fun e w' => ∃ v', e = .returned v' ∧ SliceIs w' v' (parity rs) ∧ Below w.heap.size w w' := by
  obtain ⟨a, cap, rfl, hl, hx⟩ := h
  obtain ⟨b, off, rfl, hb, hc⟩ := hx (fun e => by have := hg.1; rw [e] at this; simp at this)
  refine (rpar_good w b off cap n rs hb hg hc).mono ?_
  rintro e w' ⟨v', rfl, ho, hbel⟩
  exact ⟨v', rfl, slice_own ho (good_len hg) (by unfold maxLen; have h1 := (hg.2.2 0 hg.1).1; have h2 := good_len hg; omega), hbel⟩

end Go.Proofs.YtldilfgabdemhaaDoor
