/- This text joins 3 parts of a proof. (1) This text proves what the document's Add answers: the tree with a name more, of a new thing or of one that is there, or what is wrong; old memory is as it was; the conditions are those of the document's At, and that there are few things. (2) This text proves that the document's step and the program's leave trees that are one another's; it speaks of no call; no condition. (3) This text says what the loop's body of platterholdlaw2.TreePlays is, taken out of the translation, and proves that texts without names lie anywhere; it speaks of no call; no condition. -/
import Derived.Test.YtdlmkienogimgaaGreatDoorU17
import Derived.Test.YtdlmkienogimgaaGreatDoorMb4
namespace Go.Proofs.YtdlmkienogimgaaGreatDoor
open Go.RowKit Go.Deep Go.Shelf

def adD (D : List Nm) (P : List UInt8) (n e : Nat) : List Nm := if e = 0 then D ++ [(P, n)] else D
theorem adD_zero (D : List Nm) (P : List UInt8) (n : Nat) : adD D P n 0 = D ++ [(P, n)] := rfl
theorem adD_bad {D : List Nm} {P : List UInt8} {n e : Nat} (h : e ≠ 0) : adD D P n e = D := if_neg h
/-- The truth values with one more, where a thing is new. -/
def adB (B : List Bool) (o : Option Nat) (dir : Bool) (e : Nat) : List Bool := if e = 0 ∧ o = none then B ++ [dir] else B
theorem adB_new (B : List Bool) (dir : Bool) : adB B none dir 0 = B ++ [dir] := rfl
theorem adB_old (B : List Bool) (z : Nat) (dir : Bool) (e : Nat) : adB B (some z) dir e = B := if_neg fun h => by cases h.2
theorem adB_bad {B : List Bool} {o : Option Nat} {dir : Bool} {e : Nat} (h : e ≠ 0) : adB B o dir e = B := if_neg fun h2 => h h2.1
/-- Which thing is named, as the document says it. -/
def oI (o : Option Nat) : Int := match o with | none => -1 | some z => (z : Int)
theorem Box2.set0 {w : World} {b : Nat} {x y : Value} (h : Box2 w b x y) (u : Value) : Box2 (w.setCell ⟨b, 0, none⟩ u) b u y := by
  unfold Box2 at h ⊢
  simp [World.setCell, Array.getElem?_modify, h]
theorem Box2.set1 {w : World} {b : Nat} {x y : Value} (h : Box2 w b x y) (u : Value) : Box2 (w.setCell ⟨b, 1, none⟩ u) b x u := by
  unfold Box2 at h ⊢
  simp [World.setCell, Array.getElem?_modify, h]
theorem Box2.other {w : World} {b : Nat} {x y : Value} (h : Box2 w b x y) {p : Addr} (u : Value) (hp : p.block ≠ b) : Box2 (w.setCell p u) b x y :=
  (Below.heap_setCell w p u b fun e => hp e.symm).trans h
theorem bools_one (w : World) (d : Bool) : BoolsIs (w.alloc (.cells #[.bool d] 4)) (.slice (some ⟨w.heap.size, 0, none⟩) 1 1) [d] := by
  refine ⟨_, 1, rfl, by simp [maxLen], fun _ => ⟨w.heap.size, 0, rfl, by simp, fun i hi => ?_⟩⟩
  have : i = 0 := by simpa using hi
  subst this
  simp
theorem names_one_text (w : World) (y : ByteArray) (P : List UInt8) (n : Nat) (h : y = bs P) : NamedIs (w.alloc (.cells #[.string y, .int .i64 (n : Int)] 90)) (.slice (some ⟨w.heap.size, 0, none⟩) 1 1) [(P, n)] := by rw [h]; exact names_one w (P, n)

set_option maxHeartbeats 8000000 in
set_option maxRecDepth 100000 in
theorem dadd_any (w : World) (vD vB : Value) (L : List Ent) (M : Nat → Option Nat) (num : Nat → Nat) (D : List Nm) (B : List Bool) (hD : NamedIs w vD D) (hB : BoolsIs w vB B) (hm : Mt L M num D B) (hBl : B.length ≤ 1000) (s : ByteArray) (hs : s.size ≤ maxLen) (o : Option Nat) (dir : Bool) :
    Calls Tryz.prog 19 #[.agg #[vD, vB], .string s, .int .i64 (oI o), .bool dir] w fun e w' => ∃ vD' vB', e = .returned (.tuple #[.agg #[vD', vB'], .int .i64 (puE L M s.data.toList : Nat)]) ∧ NamedIs w' vD' (adD D (shw (pN s.data.toList)) (o.getD B.length) (puE L M s.data.toList)) ∧ BoolsIs w' vB' (adB B o dir (puE L M s.data.toList)) ∧ Below w.heap.size w w' := by
  obtain ⟨aD, cD, rfl⟩ := hD.form
  obtain ⟨aB, cB, rfl⟩ := hB.form
  obtain ⟨nD, hnD⟩ : ∃ n, D.length = n := ⟨_, rfl⟩
  obtain ⟨nB, hnB⟩ : ∃ n, B.length = n := ⟨_, rfl⟩
  have HND : Hid (D.length = nD) := hnD
  have HNB : Hid (B.length = nB) := hnB
  rw [hnD] at hD ⊢
  rw [hnB] at hB hBl ⊢
  clear hnD hnB
  have h24 : nD ≤ 24 := by have := hm.few; have := hm.good.few; have := HND.out; omega
  have hLn : L.length = nD + 1 := by have := hm.few; have := HND.out; omega
  obtain ⟨w1, hw1⟩ : ∃ w1, (w.alloc (.cells #[.slice aD nD cD, .slice aB nB cB] 42)).alloc (.cells #[.slice none 0 0, .slice none 0 0] 42) = w1 := ⟨_, rfl⟩
  have hb1 : Below w.heap.size w w1 := by rw [← hw1]; exact (below_alloc w _).trans ((below_alloc _ _).mono (by simp))
  have hz1 : w1.heap.size = w.heap.size + 2 := by rw [← hw1]; simp
  have k0 : Box2 w1 w.heap.size (.slice aD nD cD) (.slice aB nB cB) := by rw [← hw1]; exact (box2_new w _ _).later (below_alloc _ _)
  have k1 : Box2 w1 (w.heap.size + 1) (.slice none 0 0) (.slice none 0 0) := by
    rw [← hw1]
    have := box2_new (w.alloc (.cells #[.slice aD nD cD, .slice aB nB cB] 42)) (.slice none 0 0) (.slice none 0 0)
    simpa using this
  have HX : Hid (∀ w', Below w1.heap.size w1 w' → Box2 w' w.heap.size (.slice aD nD cD) (.slice aB nB cB) ∧ Box2 w' (w.heap.size + 1) (.slice none 0 0) (.slice none 0 0)) :=
    fun w' hb => ⟨k0.later hb, k1.later hb⟩
  have HB1 : Hid (Below w.heap.size w w1) := hb1
  have HZ1 : Hid (w1.heap.size = w.heap.size + 2) := hz1
  have HSp : Hid _ := fun (w' : World) (hb : Below w.heap.size w w') => dspot_any w' (.slice aD nD cD) (.slice aB nB cB) L M num D B (hD.later hb) (hB.later hb) hm s hs
  have HFd : Hid _ := fun (w' : World) (hb : Below w.heap.size w w') => find_any w' (.slice aD nD cD) (.slice aB nB cB) D (hD.later hb)
  have HW1 : Hid ((w.alloc (.cells #[.slice aD nD cD, .slice aB nB cB] 42)).alloc (.cells #[.slice none 0 0, .slice none 0 0] 42) = w1) := hw1
  have HD : Hid (NamedIs w (.slice aD nD cD) D) := hD
  have HBo : Hid (BoolsIs w (.slice aB nB cB) B) := hB
  obtain ⟨l, hl⟩ : ∃ l, s.data.toList = l := ⟨_, rfl⟩
  rw [hl] at HSp ⊢
  clear k0 k1 hb1 hw1 hl hz1
  by_cases he : spE L M l = 0
  · obtain ⟨q, kn, d, m, hp, hqk, hk, hlq, hM, hV⟩ := spE_zero hm.good he
    obtain ⟨g1, g2⟩ := pN_right hp
    rw [hqk] at g1 g2
    have hT : spT L M l = shw (q ++ [kn]) := by unfold spT; rw [if_pos he, hqk]
    rw [hT, he] at HSp
    have HF1 : Hid _ := fun (w' : World) (hb : Below w.heap.size w w') => HFd.out w' hb (bs (shw (q ++ [kn])))
    rw [data_bs, hm.find g1 g2] at HF1
    rw [hqk]
    cases hlk : look L (q ++ [kn]) with
    | some i =>
      have hE : puE L M l = 6 := by
        have : frE L M l = 6 := by unfold frE; rw [if_neg (by simp [he]), hqk, hlk]; rfl
        unfold puE; rw [this]; rfl
      rw [hE]
      rw [hlk] at HF1
      simp only [nO] at HF1
      generalize shw (q ++ [kn]) = P at *
      generalize bs P = Y at *
      generalize num i = z at *
      have hz0 : (0 : Int) ≤ (z : Int) := by omega
      generalize oI o = oi
      clear hp hqk hk hlq hM hV g1 g2 hT he hlk hE hD hB hm hLn
      go_enter Tryz.func19, Tryz.ntmps19
      go_wp2_with fail
      rw [HW1.out]
      refine Calls.mono (HSp.out w1 HB1.out) ?_
      rintro e w2 ⟨rfl, hb2⟩
      obtain ⟨hx0, hx1⟩ := HX.out w2 hb2
      obtain ⟨x0, x1, _, _⟩ := hx0.facts
      have HB2 : Hid (Below w.heap.size w w2) := HB1.out.trans (hb2.mono HB1.out.size)
      have hG2 : w.heap.size + 2 ≤ w2.heap.size := by have := hb2.size; have := HZ1.out; omega
      clear hb2

      go_wp2_with fail
      refine Calls.mono (HF1.out w2 HB2.out) ?_
      rintro e w3 ⟨rfl, hb3⟩
      have hx0 := hx0.later hb3
      have hx1 := hx1.later hb3
      obtain ⟨x0, x1, _, _⟩ := hx0.facts
      have HB3 : Hid (Below w.heap.size w w3) := HB2.out.trans (hb3.mono HB2.out.size)
      have hG3 : w.heap.size + 2 ≤ w3.heap.size := by have := hb3.size; omega
      clear hb3

      obtain ⟨y0, y1, f0, f1⟩ := hx1.facts
      clear hx0 hx1
      go_wp2_with fail
      refine bodyPost_ret (v := .tuple #[.agg #[.slice aD nD cD, .slice aB nB cB], .int .i64 6]) ?_ rfl ?_
      · rw [results_cell2 rfl]
        go_simp
      · have hf := below_set2 (b := w.heap.size + 1) HB3.out (by omega) (.slice aD nD cD) (.slice aB nB cB)
        exact ⟨_, _, rfl, by rw [adD_bad (by decide)]; exact HD.out.later hf, by rw [adB_bad (by decide)]; exact HBo.out.later hf, hf⟩
    | none =>
      have hfr : frE L M l = 0 := by unfold frE; rw [if_neg (by simp [he]), hqk, hlk]; rfl
      have hE : puE L M l = if 24 ≤ nD then 4 else 0 := by
        unfold puE; rw [if_neg (by simp [hfr]), hLn]
        by_cases h : 24 ≤ nD
        · rw [if_pos (by omega), if_pos h]
        · rw [if_neg (by omega), if_neg h]
      rw [hE]
      rw [hlk] at HF1
      simp only [nO] at HF1
      obtain ⟨P, hP⟩ : ∃ P, shw (q ++ [kn]) = P := ⟨_, rfl⟩
      rw [hP] at HSp HF1 ⊢
      obtain ⟨Y, hY⟩ : ∃ Y, bs P = Y := ⟨_, rfl⟩
      rw [hY] at HSp HF1
      have HY : Hid (Y = bs P) := hY.symm
      clear hp hqk hk hlq hM hV g1 g2 hT he hlk hE hD hB hm hLn hfr hP hY
      by_cases hfull : 24 ≤ nD
      · rw [if_pos hfull]
        have hfl : (24 : Int) ≤ (nD : Int) := by omega
        generalize oI o = oi
        go_enter Tryz.func19, Tryz.ntmps19
        go_wp2_with fail
        rw [HW1.out]
        refine Calls.mono (HSp.out w1 HB1.out) ?_
        rintro e w2 ⟨rfl, hb2⟩
        obtain ⟨hx0, hx1⟩ := HX.out w2 hb2
        obtain ⟨x0, x1, _, _⟩ := hx0.facts
        have HB2 : Hid (Below w.heap.size w w2) := HB1.out.trans (hb2.mono HB1.out.size)
        have hG2 : w.heap.size + 2 ≤ w2.heap.size := by have := hb2.size; have := HZ1.out; omega
        clear hb2

        go_wp2_with fail
        refine Calls.mono (HF1.out w2 HB2.out) ?_
        rintro e w3 ⟨rfl, hb3⟩
        have hx0 := hx0.later hb3
        have hx1 := hx1.later hb3
        obtain ⟨x0, x1, _, _⟩ := hx0.facts
        have HB3 : Hid (Below w.heap.size w w3) := HB2.out.trans (hb3.mono HB2.out.size)
        have hG3 : w.heap.size + 2 ≤ w3.heap.size := by have := hb3.size; omega
        clear hb3

        obtain ⟨y0, y1, f0, f1⟩ := hx1.facts
        clear hx0 hx1
        go_wp2_with fail
        refine bodyPost_ret (v := .tuple #[.agg #[.slice aD nD cD, .slice aB nB cB], .int .i64 4]) ?_ rfl ?_
        · rw [results_cell2 rfl]
          go_simp
        · have hf := below_set2 (b := w.heap.size + 1) HB3.out (by omega) (.slice aD nD cD) (.slice aB nB cB)
          exact ⟨_, _, rfl, by rw [adD_bad (by decide)]; exact HD.out.later hf, by rw [adB_bad (by decide)]; exact HBo.out.later hf, hf⟩
      · rw [if_neg hfull]
        have hfl : (nD : Int) < 24 := by omega
        have h63 : (nB : Int) ≤ 1000 := by omega
        cases o with
        | none =>
          have hoi : oI none = -1 := rfl
          rw [hoi, Option.getD_none, adB_new, adD_zero]
          go_enter Tryz.func19, Tryz.ntmps19
          go_wp2_with fail
          rw [HW1.out]
          refine Calls.mono (HSp.out w1 HB1.out) ?_
          rintro e w2 ⟨rfl, hb2⟩
          obtain ⟨hx0, hx1⟩ := HX.out w2 hb2
          obtain ⟨x0, x1, _, _⟩ := hx0.facts
          have HB2 : Hid (Below w.heap.size w w2) := HB1.out.trans (hb2.mono HB1.out.size)
          have hG2 : w.heap.size + 2 ≤ w2.heap.size := by have := hb2.size; have := HZ1.out; omega
          clear hb2

          go_wp2_with fail
          refine Calls.mono (HF1.out w2 HB2.out) ?_
          rintro e w3 ⟨rfl, hb3⟩
          have hx0 := hx0.later hb3
          have hx1 := hx1.later hb3
          obtain ⟨x0, x1, _, _⟩ := hx0.facts
          have HB3 : Hid (Below w.heap.size w w3) := HB2.out.trans (hb3.mono HB2.out.size)
          have hG3 : w.heap.size + 2 ≤ w3.heap.size := by have := hb3.size; omega
          clear hb3
          have hbo3 := HBo.out.later HB3.out
          obtain ⟨_, _, _, _⟩ := hx0.facts
          go_wp2_with (at_builtin; refine wpList_append_bools rfl (.tmp 39) (.tmp 41) rfl w3.heap.size (.slice none 0 0) 0 [] rfl (World.ownsRow_nil _ _ _ _) (.slice aB nB cB) B rfl hbo3 ?q1 ?q2 ?q3)
          case q1 => have := HNB.out; first | omega | (simp; omega)
          case q2 => exact Nat.le_refl _
          case q3 =>
            intro v4 w4 hown4 hb4
            have HO4 : Hid (w4.ownsRow w3.heap.size 4 1 v4 nB (bcs B)) := by
              first
                | exact hown4
                | (have h := hown4; rw [HNB.out] at h; exact h)
                | (have h := hown4; rw [HNB.out, Nat.zero_add, List.nil_append] at h; exact h)
            have HB4 : Hid (Below w3.heap.size w3 w4) := hb4
            clear hown4 hb4
            have hone := bools_one w4 dir
            go_wp2_with (at_builtin; refine wpList_append_bools rfl (.tmp 43) (.tmp 45) rfl w3.heap.size v4 nB B rfl (HO4.out.alloc _) _ [dir] rfl hone ?q1 ?q2 ?q3)
            case q1 => first | omega | (simp; omega)
            case q2 => have := HB4.out.size; first | omega | (simp; omega)
            case q3 =>
              intro v5 w5 hown5 hb5
              have HO5 : Hid (w5.ownsRow w3.heap.size 4 1 v5 (nB + 1) (bcs (B ++ [dir]))) := hown5
              have HB5 : Hid (Below w3.heap.size w3 w5) := HB4.out.trans (((below_alloc w4 _).mono HB4.out.size).trans hb5)
              have hx0 := hx0.later HB5.out
              have hx1 := hx1.later HB5.out
              obtain ⟨x0, x1, g0, g1⟩ := hx0.facts
              obtain ⟨a5, c5, rfl⟩ := row_form HO5.out
              clear hown5 hb5 hone hbo3
              go_upto_region 13 with fail
              have hy0 := hx0.set1 (.slice a5 (nB + 1) c5)
              have hy1 := hx1.other (p := ⟨w.heap.size, 1, none⟩) (.slice a5 (nB + 1) c5) (by show w.heap.size ≠ w.heap.size + 1; omega)
              have HB7 : Hid (Below w.heap.size w (w5.setCell ⟨w.heap.size, 1, none⟩ (.slice a5 (nB + 1) c5))) := (HB3.out.trans (HB5.out.mono HB3.out.size)).setCell (p := ⟨w.heap.size, 1, none⟩) (Nat.le_refl _) _
              have HO7 : Hid ((w5.setCell ⟨w.heap.size, 1, none⟩ (.slice a5 (nB + 1) c5)).ownsRow w3.heap.size 4 1 (.slice a5 (nB + 1) c5) (nB + 1) (bcs (B ++ [dir]))) := own_off HO5.out (by show w.heap.size < _; omega) _
              have hG7 : w.heap.size + 2 ≤ (w5.setCell ⟨w.heap.size, 1, none⟩ (.slice a5 (nB + 1) c5)).heap.size := by
                have := HB5.out.size
                simp [World.setCell]; omega
              clear hx0 hx1 x0 x1 g0 g1
              generalize w5.setCell ⟨w.heap.size, 1, none⟩ (.slice a5 (nB + 1) c5) = w7 at *
              have HN1 : Hid (∀ w : World, NamedIs (w.alloc (.cells #[.string Y, .int .i64 (nB : Int)] 90)) (.slice (some ⟨w.heap.size, 0, none⟩) 1 1) [(P, nB)]) := fun w => names_one_text w Y P nB HY.out
              have hb7 : Below w.heap.size w w7 := HB7.out
              have hn7 := HD.out.later hb7
              obtain ⟨x0, x1, g0, g1⟩ := hy0.facts
              go_wp2_with (at_builtin; refine wpList_append_names rfl (.tmp 48) (.tmp 50) rfl w7.heap.size (.slice none 0 0) 0 [] rfl (World.ownsRow_nil _ _ _ _) (.slice aD nD cD) D rfl hn7 ?q1 ?q2 ?q3)
              case q1 => have := HND.out; first | omega | (simp; omega)
              case q2 => exact Nat.le_refl _
              case q3 =>
                intro v8 w8 hown8 hb8
                have HO8 : Hid (w8.ownsRow w7.heap.size 90 2 v8 nD (ndc D)) := by
                  first
                    | exact hown8
                    | (have h := hown8; rw [HND.out] at h; exact h)
                    | (have h := hown8; rw [HND.out, Nat.zero_add, List.nil_append] at h; exact h)
                have HB8 : Hid (Below w7.heap.size w7 w8) := hb8
                clear hown8 hb8 x0 x1 g0 g1
                go_wp2_with (at_builtin; refine wpList_append_names rfl (.tmp 52) (.tmp 56) rfl w7.heap.size v8 nD D rfl (HO8.out.alloc _) _ [(P, nB)] rfl (HN1.out w8) ?q1 ?q2 ?q3)
                case q1 => first | omega | (simp; omega)
                case q2 => have := HB8.out.size; first | omega | (simp; omega)
                case q3 =>
                  intro v9 w9 hown9 hb9
                  have HO9 : Hid (w9.ownsRow w7.heap.size 90 2 v9 (nD + 1) (ndc (D ++ [(P, nB)]))) := hown9
                  have HB9 : Hid (Below w7.heap.size w7 w9) := HB8.out.trans (((below_alloc w8 _).mono HB8.out.size).trans hb9)
                  have hy0 := hy0.later HB9.out
                  have hy1 := hy1.later HB9.out
                  obtain ⟨x0, x1, g0, g1⟩ := hy0.facts
                  obtain ⟨y0, y1, f0, f1⟩ := hy1.facts
                  clear hown9 hb9 hy0 hy1
                  obtain ⟨a9, c9, rfl⟩ := row_form HO9.out
                  go_wp2_with fail
                  refine bodyPost_ret (v := .tuple #[.agg #[.slice a9 (nD + 1) c9, .slice a5 (nB + 1) c5], .int .i64 0]) ?_ rfl ?_
                  · rw [results_cell2 rfl]
                    go_simp
                  · have hz7 := HB9.out.size
                    have hf := below_set2 (b := w.heap.size + 1) ((HB7.out.trans (HB9.out.mono HB7.out.size)).setCell (p := ⟨w.heap.size, 0, none⟩) (Nat.le_refl _) (.slice a9 (nD + 1) c9)) (by omega) (.slice a9 (nD + 1) c9) (.slice a5 (nB + 1) c5)
                    refine ⟨_, _, rfl, ?_, ?_, hf⟩
                    · refine names_own (base := w7.heap.size) (own_off (own_off (own_off HO9.out ?_ _) ?_ _) ?_ _) (by unfold maxLen; omega)
                      · show w.heap.size < _; omega
                      · show w.heap.size + 1 < _; omega
                      · show w.heap.size + 1 < _; omega
                    · refine bools_own (base := w3.heap.size) (own_off (own_off (own_off (row_still (row_still HO7.out HB9.out) (Below.refl _ _)) ?_ _) ?_ _) ?_ _) (by unfold maxLen; omega)
                      · show w.heap.size < _; omega
                      · show w.heap.size + 1 < _; omega
                      · show w.heap.size + 1 < _; omega
        | some z =>
          have hoi : oI (some z) = (z : Int) := rfl
          rw [hoi, Option.getD_some, adB_old, adD_zero]
          have hz0 : ¬ ((z : Int) < 0) := by omega
          go_enter Tryz.func19, Tryz.ntmps19
          go_wp2_with fail
          rw [HW1.out]
          refine Calls.mono (HSp.out w1 HB1.out) ?_
          rintro e w2 ⟨rfl, hb2⟩
          obtain ⟨hx0, hx1⟩ := HX.out w2 hb2
          obtain ⟨x0, x1, _, _⟩ := hx0.facts
          have HB2 : Hid (Below w.heap.size w w2) := HB1.out.trans (hb2.mono HB1.out.size)
          have hG2 : w.heap.size + 2 ≤ w2.heap.size := by have := hb2.size; have := HZ1.out; omega
          clear hb2

          go_wp2_with fail
          refine Calls.mono (HF1.out w2 HB2.out) ?_
          rintro e w3 ⟨rfl, hb3⟩
          have hx0 := hx0.later hb3
          have hx1 := hx1.later hb3
          obtain ⟨x0, x1, _, _⟩ := hx0.facts
          have HB3 : Hid (Below w.heap.size w w3) := HB2.out.trans (hb3.mono HB2.out.size)
          have hG3 : w.heap.size + 2 ≤ w3.heap.size := by have := hb3.size; omega
          clear hb3

          go_upto_region 13 with fail
          have hy0 := hx0
          have hy1 := hx1
          have HB7 : Hid (Below w.heap.size w w3) := HB3
          have hG7 : w.heap.size + 2 ≤ w3.heap.size := hG3
          clear hx0 hx1 x0 x1
          have HN1 : Hid (∀ w : World, NamedIs (w.alloc (.cells #[.string Y, .int .i64 (z : Int)] 90)) (.slice (some ⟨w.heap.size, 0, none⟩) 1 1) [(P, z)]) := fun w => names_one_text w Y P z HY.out

          have hb7 : Below w.heap.size w w3 := HB7.out
          have hn7 := HD.out.later hb7
          obtain ⟨x0, x1, g0, g1⟩ := hy0.facts
          go_wp2_with (at_builtin; refine wpList_append_names rfl (.tmp 48) (.tmp 50) rfl w3.heap.size (.slice none 0 0) 0 [] rfl (World.ownsRow_nil _ _ _ _) (.slice aD nD cD) D rfl hn7 ?q1 ?q2 ?q3)
          case q1 => have := HND.out; first | omega | (simp; omega)
          case q2 => exact Nat.le_refl _
          case q3 =>
            intro v8 w8 hown8 hb8
            have HO8 : Hid (w8.ownsRow w3.heap.size 90 2 v8 nD (ndc D)) := by
              first
                | exact hown8
                | (have h := hown8; rw [HND.out] at h; exact h)
                | (have h := hown8; rw [HND.out, Nat.zero_add, List.nil_append] at h; exact h)
            have HB8 : Hid (Below w3.heap.size w3 w8) := hb8
            clear hown8 hb8 x0 x1 g0 g1
            go_wp2_with (at_builtin; refine wpList_append_names rfl (.tmp 52) (.tmp 56) rfl w3.heap.size v8 nD D rfl (HO8.out.alloc _) _ [(P, z)] rfl (HN1.out w8) ?q1 ?q2 ?q3)
            case q1 => first | omega | (simp; omega)
            case q2 => have := HB8.out.size; first | omega | (simp; omega)
            case q3 =>
              intro v9 w9 hown9 hb9
              have HO9 : Hid (w9.ownsRow w3.heap.size 90 2 v9 (nD + 1) (ndc (D ++ [(P, z)]))) := hown9
              have HB9 : Hid (Below w3.heap.size w3 w9) := HB8.out.trans (((below_alloc w8 _).mono HB8.out.size).trans hb9)
              have hy0 := hy0.later HB9.out
              have hy1 := hy1.later HB9.out
              obtain ⟨x0, x1, g0, g1⟩ := hy0.facts
              obtain ⟨y0, y1, f0, f1⟩ := hy1.facts
              clear hown9 hb9 hy0 hy1
              obtain ⟨a9, c9, rfl⟩ := row_form HO9.out
              go_wp2_with fail
              refine bodyPost_ret (v := .tuple #[.agg #[.slice a9 (nD + 1) c9, .slice aB nB cB], .int .i64 0]) ?_ rfl ?_
              · rw [results_cell2 rfl]
                go_simp
              · have hz7 := HB9.out.size
                have hf := below_set2 (b := w.heap.size + 1) ((HB7.out.trans (HB9.out.mono HB7.out.size)).setCell (p := ⟨w.heap.size, 0, none⟩) (Nat.le_refl _) (.slice a9 (nD + 1) c9)) (by omega) (.slice a9 (nD + 1) c9) (.slice aB nB cB)
                refine ⟨_, _, rfl, ?_, ?_, hf⟩
                · refine names_own (base := w3.heap.size) (own_off (own_off (own_off HO9.out ?_ _) ?_ _) ?_ _) (by unfold maxLen; omega)
                  · show w.heap.size < _; omega
                  · show w.heap.size + 1 < _; omega
                  · show w.heap.size + 1 < _; omega
                · exact HBo.out.later hf
  · have hE : puE L M l = spE L M l := by
      have : frE L M l = spE L M l := if_pos he
      unfold puE; rw [this, if_pos he]
    have hT : spT L M l = [] := by unfold spT; rw [if_neg he]
    rw [hE]
    rw [hT] at HSp
    have hz : ¬ ((spE L M l : Int) = 0) := by omega
    have HBd : Hid (spE L M l ≠ 0) := he
    generalize spE L M l = E at *
    generalize oI o = oi
    clear hE hT he hD hB hm
    go_enter Tryz.func19, Tryz.ntmps19
    go_wp2_with fail
    rw [HW1.out]
    refine Calls.mono (HSp.out w1 HB1.out) ?_
    rintro e w2 ⟨rfl, hb2⟩
    obtain ⟨hx0, hx1⟩ := HX.out w2 hb2
    obtain ⟨x0, x1, _, _⟩ := hx0.facts
    have HB2 : Hid (Below w.heap.size w w2) := HB1.out.trans (hb2.mono HB1.out.size)
    have hG2 : w.heap.size + 2 ≤ w2.heap.size := by have := hb2.size; have := HZ1.out; omega
    clear hb2

    obtain ⟨y0, y1, f0, f1⟩ := hx1.facts
    clear hx0 hx1
    go_wp2_with fail
    refine bodyPost_ret (v := .tuple #[.agg #[.slice aD nD cD, .slice aB nB cB], .int .i64 (E : Nat)]) ?_ rfl ?_
    · rw [results_cell2 rfl]
      go_simp
    · have hf := below_set2 (b := w.heap.size + 1) HB2.out (by omega) (.slice aD nD cD) (.slice aB nB cB)
      exact ⟨_, _, rfl, by rw [adD_bad HBd.out]; exact HD.out.later hf, by rw [adB_bad HBd.out]; exact HBo.out.later hf, hf⟩

end Go.Proofs.YtdlmkienogimgaaGreatDoor

namespace Go.Proofs.YtdlmkienogimgaaGreatDoor
open Go.RowKit Go.Deep Go.Shelf Go.Maps

theorem Mt.congr {L : List Ent} {M M' : Nat → Option Nat} {num : Nat → Nat} {D : List Nm} {B : List Bool} (h : Mt L M num D B) (he : ∀ p j, (p, j) ∈ L → M' j = M j) : Mt L M' num D B :=
  ⟨h.good.congr he, h.names, fun p i hi => by rw [he p i hi]; exact h.dirs p i hi, h.inj, h.root⟩
theorem path_ne {L : List Ent} {M : Nat → Option Nat} (hG : Good L M) {s : List UInt8} (h : spE L M s = 0) : pN s ≠ [] ∧ (pN s).length ≤ 8 ∧ ∀ k ∈ pN s, isN k = true := by
  obtain ⟨q, k, d, m, g1, g2, _⟩ := spE_zero hG h
  obtain ⟨r1, r2⟩ := pN_right g1
  exact ⟨by rw [g2]; simp, r1, r2⟩

/-- What the document's tree is behind a step. -/
def Nx (L : List Ent) (M : Nat → Option Nat) (l : List (List UInt8)) (e : Nat) (D : List Nm) (B : List Bool) : Prop := ∀ n L' M', Stp L M l n L' M' → Good L' M' → n = e ∧ ∃ num, Mt L' M' num D B

theorem nx_new {L : List Ent} {M : Nat → Option Nat} {num : Nat → Nat} {D : List Nm} {B : List Bool} (h : Mt L M num D B) (dir : Bool) {s : List UInt8} {n : Nat} {L' : List Ent} {M' : Nat → Option Nat} (hs : MkS dir L M s n L' M') (hG : Good L' M') :
    n = puE L M s ∧ ∃ num', Mt L' M' num' (adD D (shw (pN s)) B.length (puE L M s)) (adB B none dir (puE L M s)) := by
  obtain ⟨h1, i, h2, h3, h4, h5⟩ := hs
  refine ⟨h1, ?_⟩
  have ag : ∀ p j, (p, j) ∈ L → M' j = M j := fun p j hj => h4 j fun e => h2 p (by rw [← e]; exact hj)
  by_cases hE : puE L M s = 0
  · rw [if_pos hE] at h5
    subst h5
    rw [hE, adD_zero, adB_new]
    exact ⟨_, h.put hG h2 ag h3⟩
  · rw [if_neg hE] at h5
    subst h5
    rw [adD_bad hE, adB_bad hE]
    exact ⟨_, h.congr ag⟩
theorem nx_d {L : List Ent} {M : Nat → Option Nat} {num : Nat → Nat} {D : List Nm} {B : List Bool} (h : Mt L M num D B) {l : List (List UInt8)} (h2 : l.length = 2) (h0 : sth l 0 = [100]) :
    Nx L M l (puE L M (sth l 1)) (adD D (shw (pN (sth l 1))) B.length (puE L M (sth l 1))) (adB B none true (puE L M (sth l 1))) := fun n L' M' hs hG => by
  unfold Stp at hs
  rw [if_pos ⟨h2, h0⟩] at hs
  exact nx_new h true hs hG
theorem nx_f {L : List Ent} {M : Nat → Option Nat} {num : Nat → Nat} {D : List Nm} {B : List Bool} (h : Mt L M num D B) {l : List (List UInt8)} (h2 : l.length = 2) (h0 : sth l 0 = [102]) :
    Nx L M l (puE L M (sth l 1)) (adD D (shw (pN (sth l 1))) B.length (puE L M (sth l 1))) (adB B none false (puE L M (sth l 1))) := fun n L' M' hs hG => by
  unfold Stp at hs
  rw [if_neg (by rw [h0]; simp), if_pos ⟨h2, h0⟩] at hs
  exact nx_new h false hs hG
theorem nx_x {L : List Ent} {M : Nat → Option Nat} {num : Nat → Nat} {D : List Nm} {B : List Bool} (h : Mt L M num D B) {l : List (List UInt8)} (h2 : l.length = 2) (h0 : sth l 0 = [120]) :
    Nx L M l (drE L M (sth l 1)) (drD D (shw (pN (sth l 1))) (drE L M (sth l 1))) B := fun n L' M' hs hG => by
  unfold Stp at hs
  rw [if_neg (by rw [h0]; simp), if_neg (by rw [h0]; simp), if_pos ⟨h2, h0⟩] at hs
  obtain ⟨h1, h3, h4⟩ := hs
  subst h4 h3
  refine ⟨h1, ?_⟩
  unfold drL at hG ⊢
  by_cases hE : drE L M' (sth l 1) = 0
  · rw [if_pos hE] at hG ⊢
    rw [hE, drD_zero]
    have hsp : spE L M' (sth l 1) = 0 := by
      unfold drE at hE
      split at hE
      · rename_i hc; exact absurd hE hc
      · rename_i hc; simpa using hc
    obtain ⟨r1, r2, r3⟩ := path_ne h.good hsp
    exact ⟨_, h.cut r1 r2 r3 hG⟩
  · rw [if_neg hE]
    rw [drD_bad hE]
    exact ⟨_, h⟩
theorem lk_stp {L : List Ent} {M : Nat → Option Nat} {l : List (List UInt8)} (h3 : l.length = 3) (h0 : sth l 0 = [108]) {n : Nat} {L' : List Ent} {M' : Nat → Option Nat} (hs : Stp L M l n L' M') :
    n = lkE L M (sth l 1) (sth l 2) ∧ L' = lkL L M (sth l 1) (sth l 2) ∧ M' = M := by
  unfold Stp at hs
  rw [if_neg (by omega), if_neg (by omega), if_neg (by omega), if_pos ⟨h3, h0⟩] at hs
  exact hs
/-- A link that is not made: the document's tree stays. -/
theorem nx_l_bad {L : List Ent} {M : Nat → Option Nat} {num : Nat → Nat} {D : List Nm} {B : List Bool} (h : Mt L M num D B) {l : List (List UInt8)} (h3 : l.length = 3) (h0 : sth l 0 = [108]) {e : Nat} (he : lkE L M (sth l 1) (sth l 2) = e) (hne : e ≠ 0) : Nx L M l e D B := fun n L' M' hs hG => by
  obtain ⟨h1, h2, h4⟩ := lk_stp h3 h0 hs
  subst h4
  unfold lkL at h2
  rw [if_neg (by rw [he]; exact hne)] at h2
  subst h2
  exact ⟨by rw [h1, he], _, h⟩
theorem nx_l {L : List Ent} {M : Nat → Option Nat} {num : Nat → Nat} {D : List Nm} {B : List Bool} (h : Mt L M num D B) {l : List (List UInt8)} (h3 : l.length = 3) (h0 : sth l 0 = [108]) {j : Nat} (ha : atS L M (sth l 1) = (0, some j)) (hj : look L (pN (sth l 1)) = some j) (hM : M j = none) :
    Nx L M l (puE L M (sth l 2)) (adD D (shw (pN (sth l 2))) (num j) (puE L M (sth l 2))) B := fun n L' M' hs hG => by
  obtain ⟨h1, h2, h4⟩ := lk_stp h3 h0 hs
  subst h4
  have hth : thing L M' (sth l 1) = j := by unfold thing; rw [ha]; rfl
  have hE : lkE L M' (sth l 1) (sth l 2) = puE L M' (sth l 2) := by unfold lkE; rw [ha, if_neg (by simp), hth, hM]; rfl
  rw [hE] at h1
  refine ⟨h1, ?_⟩
  unfold lkL at h2
  rw [hE, hth] at h2
  by_cases hp : puE L M' (sth l 2) = 0
  · rw [if_pos hp] at h2
    subst h2
    rw [hp, adD_zero]
    exact ⟨_, h.more hG (look_mem hj)⟩
  · rw [if_neg hp] at h2
    subst h2
    rw [adD_bad hp]
    exact ⟨_, h⟩
theorem mov_zero {L : List Ent} {M : Nat → Option Nat} (hG : Good L M) {a b : List UInt8} (h : mvE L M a b = 0) : ∃ q q2 k k2 i d d2, pN a = q ++ [k] ∧ pN b = q2 ++ [k2] ∧ Mov L M q q2 k k2 i d d2 := by
  have h0 := h
  unfold mvE at h
  split at h
  · rename_i hc; exact absurd h hc
  · rename_i hc
    obtain ⟨q, k, d, m, hp, hqk, hk, hl, hM, hV⟩ := spE_zero hG (show spE L M a = 0 by simpa using hc)
    split at h
    · cases h
    · rename_i hlk
      rw [hqk] at hlk
      obtain ⟨i, hi⟩ : ∃ i, look L (q ++ [k]) = some i := Option.ne_none_iff_exists'.1 hlk
      split at h
      · rename_i hf; exact absurd h hf
      · rename_i hf
        obtain ⟨q2, k2, d2, m2, hp2, hqk2, hkn2, hl2, hM2, hV2, hfree, h8⟩ := frE_zero hG (show frE L M b = 0 by simpa using hf)
        have hgd : ((atF L M (pN b).dropLast).2.getD 0) = d2 := by
          rw [hqk2, List.dropLast_concat]
          rcases atF_cases hG q2 with ⟨j, hj, hj2⟩ | ⟨e, _, hj, hj2⟩
          · rw [hj]; rw [hl2] at hj2; exact (Option.some.inj hj2).symm
          · rw [hl2] at hj2; cases hj2
        rw [hgd, hqk, hi, Option.getD_some] at h
        split at h
        · cases h
        · rename_i hmet
          split at h
          · cases h
          · rename_i hdp
            rw [hqk2, List.length_append, List.length_singleton] at hdp
            refine ⟨q, q2, k, k2, i, d, d2, hqk, hqk2, hG, hi, ⟨hl, by rw [hM]; rfl⟩, ⟨hl2, by rw [hM2]; rfl⟩, hfree, hkn2, fun hpre => hmet ((met_iff hG hi hl2 (by rw [hM2]; rfl)).2 hpre), fun u j hj => dpt_deep hG (by omega) u j hj⟩
theorem nx_m {L : List Ent} {M : Nat → Option Nat} {num : Nat → Nat} {D : List Nm} {B : List Bool} (h : Mt L M num D B) {l : List (List UInt8)} (h3 : l.length = 3) (h0 : sth l 0 = [109]) :
    Nx L M l (mvE L M (sth l 1) (sth l 2)) (mvN D (shw (pN (sth l 1))) (shw (pN (sth l 2))) (mvE L M (sth l 1) (sth l 2))) B := fun n L' M' hs hG => by
  unfold Stp at hs
  rw [if_neg (by omega), if_neg (by omega), if_neg (by omega), if_neg (by rw [h0]; simp), if_pos ⟨h3, h0⟩] at hs
  obtain ⟨h1, h2, h4⟩ := hs
  subst h4
  refine ⟨h1, ?_⟩
  unfold mvL at h2
  by_cases hE : mvE L M' (sth l 1) (sth l 2) = 0
  · rw [if_pos hE] at h2
    subst h2
    rw [hE, mvN_zero]
    obtain ⟨q, q2, k, k2, i, d, d2, e1, e2, hm⟩ := mov_zero h.good hE
    rw [e1, e2]
    exact ⟨_, h.mov hm⟩
  · rw [if_neg hE] at h2
    subst h2
    rw [mvN_bad hE]
    exact ⟨_, h⟩
theorem nx_none {L : List Ent} {M : Nat → Option Nat} {num : Nat → Nat} {D : List Nm} {B : List Bool} (h : Mt L M num D B) {l : List (List UInt8)}
    (k1 : ¬ (l.length = 2 ∧ sth l 0 = [100])) (k2 : ¬ (l.length = 2 ∧ sth l 0 = [102])) (k3 : ¬ (l.length = 2 ∧ sth l 0 = [120])) (k4 : ¬ (l.length = 3 ∧ sth l 0 = [108])) (k5 : ¬ (l.length = 3 ∧ sth l 0 = [109])) : Nx L M l 0 D B := fun n L' M' hs hG => by
  unfold Stp at hs
  rw [if_neg k1, if_neg k2, if_neg k3, if_neg k4, if_neg k5] at hs
  obtain ⟨h1, h2, h4⟩ := hs
  subst h4 h2
  exact ⟨h1, _, h⟩

/-- The document's tree in a box, and behind a step. -/
def DSt (w : World) (bx kb : Nat) (L : List Ent) (M : Nat → Option Nat) : Prop := ∃ vD vB D B num, Box2 w bx vD vB ∧ NamedIs w vD D ∧ BoolsIs w vB B ∧ B.length ≤ kb ∧ Mt L M num D B
def NSt (w : World) (bx kb : Nat) (L : List Ent) (M : Nat → Option Nat) (l : List (List UInt8)) (e : Nat) : Prop := ∃ vD vB D B, Box2 w bx vD vB ∧ NamedIs w vD D ∧ BoolsIs w vB B ∧ B.length ≤ kb ∧ Nx L M l e D B
theorem Box2.turned {w w' : World} {base b : Nat} {x y : Value} (h : Box2 w b x y) (hT : Turned base w w') : Box2 w' b x y :=
  (hT.rows b h.lt (fun es c e => by rw [show w.heap[b]? = _ from h] at e; cases e)).trans h
theorem NSt.did {w w' : World} {base bx kb : Nat} {L L' : List Ent} {M M' : Nat → Option Nat} {l : List (List UInt8)} {e n : Nat} (h : NSt w bx kb L M l e) (hs : Stp L M l n L' M') (hG : Good L' M') (hT : Turned base w w') : n = e ∧ DSt w' bx kb L' M' := by
  obtain ⟨vD, vB, D, B, h1, h2, h3, h4, h5⟩ := h
  obtain ⟨r1, num, r2⟩ := h5 n L' M' hs hG
  exact ⟨r1, vD, vB, D, B, num, h1.turned hT, h2.turned hT, h3.turned hT, h4, r2⟩
theorem DSt.later {w w' : World} {bx kb : Nat} {L : List Ent} {M : Nat → Option Nat} (h : DSt w bx kb L M) (hb : Below w.heap.size w w') : DSt w' bx kb L M := by
  obtain ⟨vD, vB, D, B, num, h1, h2, h3, h4, h5⟩ := h
  exact ⟨vD, vB, D, B, num, h1.later hb, h2.later hb, h3.later hb, h4, h5⟩

/-- The program's tree does not lie in the document's box. -/
theorem TreeAt.off {w : World} {base t bx : Nat} {L : List Ent} {M : Nat → Option Nat} {x y : Value} (h : TreeAt w base t L M) (hx : Box2 w bx x y) (u v : Value) : TreeAt ((w.setCell ⟨bx, 0, none⟩ u).setCell ⟨bx, 1, none⟩ v) base t L M := by
  have hx' : w.heap[bx]? = _ := hx
  refine h.frame fun b hF => ?_
  have hne : b ≠ bx := by
    rintro rfl
    rcases hF with rfl | ⟨p, i, hi, rfl | hm⟩
    · obtain ⟨r, hr, _⟩ := h.good.start
      have := h.tree r hr
      unfold Boxed at this
      rw [hx'] at this
      simp at this
    · have := (h.node p _ hi).1
      unfold NodeAt Boxed at this
      rw [hx'] at this
      simp at this
    · obtain ⟨es, c, hc⟩ := (h.maps p i b hi hm).1.map
      rw [hx'] at hc
      cases hc
  rw [Below.heap_setCell _ ⟨bx, 1, none⟩ v b hne, Below.heap_setCell _ ⟨bx, 0, none⟩ u b hne]
theorem Box2.what {w : World} {b o : Nat} {x y v : Value} (h : Box2 w b x y) (hc : w.cell? ⟨b, o, none⟩ = some v) : v = x ∨ v = y := by
  unfold Box2 at h
  match o, hc with
  | 0, hc => left; simp [World.cell?, h] at hc; exact hc.symm
  | 1, hc => right; simp [World.cell?, h] at hc; exact hc.symm
  | o + 2, hc => simp [World.cell?, h] at hc
theorem NamedIs.boxed {w : World} {bx : Nat} {x y v : Value} {l : List Nm} (h : NamedIs w v l) (hx : Box2 w bx x y) (hxs : ∀ s, x ≠ .string s) (hys : ∀ s, y ≠ .string s) : ∀ a n c, v = .slice (some a) n c → l ≠ [] → bx ≠ a.block := by
  rintro a n c e hne rfl
  obtain ⟨a', cap, hv, hl, hi⟩ := h
  obtain ⟨b, off, ha, hlt, hc⟩ := hi hne
  rw [hv] at e
  cases e
  cases ha
  have := (hc 0 (List.length_pos_iff.2 hne)).1
  rcases hx.what this with e | e
  · exact hxs _ e.symm
  · exact hys _ e.symm
theorem BoolsIs.boxed {w : World} {bx : Nat} {x y v : Value} {l : List Bool} (h : BoolsIs w v l) (hx : Box2 w bx x y) (hxs : ∀ s, x ≠ .bool s) (hys : ∀ s, y ≠ .bool s) : ∀ a n c, v = .slice (some a) n c → l ≠ [] → bx ≠ a.block := by
  rintro a n c e hne rfl
  obtain ⟨a', cap, hv, hl, hi⟩ := h
  obtain ⟨b, off, ha, hlt, hc⟩ := hi hne
  rw [hv] at e
  cases e
  cases ha
  have := hc 0 (List.length_pos_iff.2 hne)
  rcases hx.what this with e | e
  · exact hxs _ e.symm
  · exact hys _ e.symm
theorem BoolsIs.off {w : World} {v : Value} {l : List Bool} (h : BoolsIs w v l) {p : Addr} (u : Value) (hp : ∀ a n c, v = .slice (some a) n c → l ≠ [] → p.block ≠ a.block) : BoolsIs (w.setCell p u) v l := by
  obtain ⟨a, cap, hv, hl, hx⟩ := h
  refine ⟨a, cap, hv, hl, fun hne => ?_⟩
  obtain ⟨b, off, ha, hlt, hc⟩ := hx hne
  subst ha
  have hb := hp _ _ _ hv hne
  exact ⟨b, off, rfl, by simpa [World.setCell] using hlt, fun i hi => (cell_off (a := ⟨b, off + i, none⟩) u hb).trans (hc i hi)⟩
/-- What the document's call left is put into the box. -/
theorem NSt.put {w w' : World} {G bx kb t : Nat} {L : List Ent} {M : Nat → Option Nat} {l : List (List UInt8)} {e : Nat} {a b : Option Addr} {n c m d : Nat} (hx : Box2 w' bx (.slice a n c) (.slice b m d)) (hT : TreeAt w' G t L M) (hB : Below G w w') (hGb : G ≤ bx) {vD vB : Value} {D : List Nm} {B : List Bool} (hD : NamedIs w' vD D) (hBo : BoolsIs w' vB B) (hk : B.length ≤ kb) (hN : Nx L M l e D B) :
    NSt ((w'.setCell ⟨bx, 0, none⟩ vD).setCell ⟨bx, 1, none⟩ vB) bx kb L M l e ∧ TreeAt ((w'.setCell ⟨bx, 0, none⟩ vD).setCell ⟨bx, 1, none⟩ vB) G t L M ∧ Below G w ((w'.setCell ⟨bx, 0, none⟩ vD).setCell ⟨bx, 1, none⟩ vB) := by
  have o1 := hD.boxed hx (fun _ h => by cases h) (fun _ h => by cases h)
  have o2 := hBo.boxed hx (fun _ h => by cases h) (fun _ h => by cases h)
  exact ⟨⟨vD, vB, D, B, hx.set vD vB, (hD.off (p := ⟨bx, 0, none⟩) vD o1).off (p := ⟨bx, 1, none⟩) vB o1, (hBo.off (p := ⟨bx, 0, none⟩) vD o2).off (p := ⟨bx, 1, none⟩) vB o2, hk, hN⟩, hT.off hx vD vB, below_set2 hB hGb vD vB⟩

end Go.Proofs.YtdlmkienogimgaaGreatDoor

namespace Go.Proofs.YtdlmkienogimgaaGreatDoor
open Go.RowKit Go.Deep Go.Shelf Go.Maps

/-- The first loop's body. -/
def firstLoop : Code → Option Code
  | .loop c => some c
  | .seq a b => match firstLoop a with
    | some c => some c
    | none => firstLoop b
  | .block _ c => firstLoop c
  | .scope c => firstLoop c
  | .cond _ a b => match firstLoop a with
    | some c => some c
    | none => firstLoop b
  | _ => none
theorem nil_strs (w : World) : StrsIs w (.slice none 0 0) [] := ⟨none, 0, rfl, Nat.le_refl _, by simp, fun h => absurd rfl h⟩

end Go.Proofs.YtdlmkienogimgaaGreatDoor
