/- This text proves what the law's written returns: a file in which something was done, that lies in memory of its own, and the closed fact of the laws; old memory is as it was; the condition is that the rows lie there and have room. -/
import Derived.Test.YtepnbkonhaongaaF8
import Derived.Test.YtepnbkonhaongaaF5
import Derived.Test.YtepnbkonhaongaaF2
import Derived.Test.YtepnbkonhaongaaLj
import Derived.Deep.RegionHeld3
namespace Go.Proofs.Ytepnbkonhaongaa
open Go.RowKit Go.Deep Go.Maps

/-- The value is a slice of numbers, and has room for them. -/
def SliceC (w : World) (v : Value) (xs : List Int) : Prop := ∃ a c, v = .slice a xs.length c ∧ xs.length ≤ c ∧ SliceIs w v xs
theorem SliceC.is {w : World} {v : Value} {xs : List Int} (h : SliceC w v xs) : SliceIs w v xs := by
  obtain ⟨a, c, _, _, h⟩ := h
  exact h
/-- Rows, each with room. -/
def RowsC (w : World) (v : Value) (rs : List (List Int)) : Prop :=
  ∃ a cap, v = .slice a rs.length cap ∧ rs.length ≤ maxLen ∧ (rs ≠ [] → ∃ b off, a = some ⟨b, off, none⟩ ∧ b < w.heap.size ∧ ∀ i, i < rs.length → ∃ v, w.cell? ⟨b, off + i, none⟩ = some v ∧ SliceC w v (rowAt rs i))
theorem SliceC.later {w w' : World} {v : Value} {xs : List Int} (h : SliceC w v xs) (hb : Below w.heap.size w w') : SliceC w' v xs := by
  obtain ⟨a, c, h1, h2, h3⟩ := h
  exact ⟨a, c, h1, h2, h3.later hb⟩
theorem RowsC.later {w w' : World} {v : Value} {rs : List (List Int)} (h : RowsC w v rs) (hb : Below w.heap.size w w') : RowsC w' v rs := by
  obtain ⟨a, cap, hv, hl, hx⟩ := h
  refine ⟨a, cap, hv, hl, fun hne => ?_⟩
  obtain ⟨b, off, ha, hlt, hc⟩ := hx hne
  refine ⟨b, off, ha, Nat.lt_of_lt_of_le hlt hb.size, fun i hi => ?_⟩
  obtain ⟨v, h1, h2⟩ := hc i hi
  exact ⟨v, by rw [hb.cell (p := ⟨b, off + i, none⟩) hlt]; exact h1, h2.later hb⟩
theorem RowsC.row {w : World} {a : Option Addr} {n c : Nat} {rs : List (List Int)} (h : RowsC w (.slice a n c) rs) (i : Nat) (hi : i < n) :
    ∃ b o v, a = some ⟨b, o, none⟩ ∧ b < w.heap.size ∧ w.cell? ⟨b, o + i, none⟩ = some v ∧ SliceC w v (rowAt rs i) := by
  obtain ⟨a', c', e, hl, hx⟩ := h
  cases e
  obtain ⟨b, o, ha, hb, hc⟩ := hx (fun e => by rw [e] at hi; simp at hi)
  obtain ⟨v, h1, h2⟩ := hc i hi
  exact ⟨b, o, v, ha, hb, h1, h2⟩
theorem row_some {w : World} {v : Value} {xs : List Int} {z : Nat} (h : SliceC w v xs) (hl : xs.length = z) (hz : 0 < z) : ∃ b o c, v = .slice (some ⟨b, o, none⟩) z c ∧ z ≤ c ∧ z ≤ maxLen ∧ b < w.heap.size ∧ w.cell? ⟨b, o, none⟩ = some (.int .i64 (nth xs 0)) ∧ (1 < z → SliceIs w (.slice (some ⟨b, o + 1, none⟩) (z - 1) (c - 1)) (xs.drop 1)) := by
  obtain ⟨a, c, rfl, hc, a', c', hv, hm, hx⟩ := h
  cases hv
  obtain ⟨b, o, ha, hb, hcell⟩ := hx (fun e => by rw [e] at hl; simp at hl; omega)
  subst ha
  subst hl
  refine ⟨b, o, c, rfl, hc, hm, hb, hcell 0 hz, fun h1 => ?_⟩
  have e : (xs.drop 1).length = xs.length - 1 := by rw [List.length_drop]
  refine ⟨_, _, by rw [e], by rw [e]; omega, fun _ => ⟨b, o + 1, rfl, hb, fun i hi => ?_⟩⟩
  rw [e] at hi
  rw [Nat.add_assoc, hcell (1 + i) (by omega), nth_lt (by omega), nth_lt (by omega), List.getElem_drop]

theorem below_drew1 (B : Nat) (w : World) : Below B w w.drew := ⟨rfl, rfl, rfl, Nat.le_refl _, fun _ _ => rfl⟩
theorem keeps_old {w wr : World} {g b : Nat} {v : Value} {xs : List Int} (hB : Below w.heap.size w wr) (hg : w.heap.size ≤ g) (hb : w.heap.size ≤ b) (hx : SliceIs w v xs) : Keeps (Two g b) wr v xs := fun w' hs =>
  hx.later (hB.trans (hs.below (by rintro x (rfl | rfl) <;> assumption) hB.size))

/-- The file lies there, and old memory is as it was. -/
structure OnF (w wr : World) (g b : Nat) (f : Fil) : Prop where
  fil : FilM wr g b f
  wel : Wel f
  low : w.heap.size ≤ g ∧ w.heap.size ≤ b
  old : Below w.heap.size w wr
theorem OnF.step {w wr w' : World} {g b : Nat} {f f' : Fil} (h : OnF w wr g b f) (hf : FilM w' g b f') (hw : Wel f') (hs : Stay (Two g b) wr w') : OnF w w' g b f' :=
  ⟨hf, hw, h.low, h.old.trans (hs.below (by rintro x (rfl | rfl); exact h.low.1; exact h.low.2) h.old.size)⟩
theorem OnF.later {w wr w' : World} {g b : Nat} {f : Fil} (h : OnF w wr g b f) (hb : Below wr.heap.size wr w') : OnF w w' g b f :=
  h.step (h.fil.later hb) h.wel (Stay.of hb)
theorem OnF.drew1 {w wr : World} {g b : Nat} {f : Fil} (h : OnF w wr g b f) : OnF w wr.drew g b f := h.later (below_drew1 _ _)

set_option maxHeartbeats 8000000 in
set_option maxRecDepth 100000 in
theorem written_any (w : World) (v : Value) (rs : List (List Int)) (hr : RowsC w v rs) :
    Calls Try.prog 7 #[v] w fun e w' => ∃ g, e = .returned (ptrF g) ∧ ∃ b f, OnF w w' g b f := by
  have HR : Hid (RowsC w v rs) := hr
  obtain ⟨a, c, hv, hl, _⟩ := hr
  obtain ⟨n, hn⟩ : ∃ n, n = rs.length := ⟨_, rfl⟩
  rw [← hn] at hv hl
  unfold maxLen at hl
  subst hv
  clear hn
  go_enter Try.func7, Try.ntmps7
  go_wp2_with fail
  refine (sp_new _).mono ?_
  rintro e w1 ⟨g, b, rfl, hF, hg, hb, hB⟩
  have HS : Hid (OnF w w1 g b fil0) := ⟨hF, wel0, ⟨hg, hb⟩, hB⟩
  unfold ptrF
  clear hF hg hb hB
  go_wp2
  go_loopw [4] (fun i wr => ∃ k f, k ≤ 40 ∧ i = .int .i64 ((k : Nat) : Int) ∧ OnF w wr g b f) (fun i _ => 40 - (Go.RowKit.intOf i).toNat)
  case atStart => exact ⟨0, _, by omega, rfl, HS.out⟩
  case round =>
    obtain ⟨k, f, hk, rfl, hst⟩ := hrel
    have ST : Hid (OnF w wr g b f) := hst
    clear hst
    by_cases hlt : k < n
    · have hl1 : (k : Int) < (n : Int) := by omega
      by_cases hs : k < 40
      · have hs1 : (k : Int) < 40 := by omega
        obtain ⟨bb, o, vk, ha, hbs, hck, hsk⟩ := HR.out.row k hlt
        subst ha
        have HK : Hid (∀ {w'}, Below w.heap.size w w' → w'.cell? ⟨bb, o + k, none⟩ = some vk) := fun h => by rw [h.cell (p := ⟨bb, o + k, none⟩) hbs]; exact hck
        have hc0 := HK.out ST.out.old
        obtain ⟨z, hz⟩ : ∃ z, (rowAt rs k).length = z := ⟨_, rfl⟩
        clear hck
        by_cases h0 : z = 0
        · obtain ⟨a1, c1, hv1, _, _⟩ := hsk
          rw [hz, h0] at hv1
          subst hv1
          clear h0 hz
          go_wp2
          go_roundw
          case rel => exact ⟨k + 1, _, by omega, by go_num, ST.out⟩
          case measure => simp [Go.RowKit.intOf]; omega
        · obtain ⟨b1, o1, c1, hv1, hzc, hzm, hb1, hx, ht⟩ := row_some hsk hz (by omega)
          subst hv1
          have HX : Hid (∀ {w'}, Below w.heap.size w w' → w'.cell? ⟨b1, o1, none⟩ = some (.int .i64 (nth (rowAt rs k) 0))) := fun h => by rw [h.cell (p := ⟨b1, o1, none⟩) hb1]; exact hx
          have hx0 := HX.out ST.out.old
          clear hx hsk hz
          generalize nth (rowAt rs k) 0 = x at HX hx0
          by_cases h1 : z = 1
          · subst h1
            clear h0 ht
            go_wp2_with fail
            refine (sp_cut _ g b f ST.out.fil ST.out.wel x).mono ?_
            rintro e w2 ⟨rfl, hf2, hs2⟩
            have ST2 : Hid (OnF w w2 g b _) := ST.out.step hf2 (ctoF_wel ST.out.wel x) hs2
            clear hf2 hs2 hc0 hx0
            go_wp2
            go_roundw
            case rel => exact ⟨k + 1, _, by omega, by go_num, ST2.out⟩
            case measure => simp [Go.RowKit.intOf]; omega
          · have HT : Hid (SliceIs w (.slice (some ⟨b1, o1 + 1, none⟩) (z - 1) (c1 - 1)) ((rowAt rs k).drop 1)) := ht (by omega)
            generalize (rowAt rs k).drop 1 = xs at HT
            have n1 : ¬ z = 1 := by omega
            have n2 : (1 : Int) < (z : Int) := by omega
            unfold maxLen at hzm
            have n3 : (1 : Int) ≤ (z : Int) := by omega
            have n0 : 0 < z := by omega
            have n4 : (z : Int) ≤ (c1 : Int) := by omega
            have n5 : ¬ c1 = 1 := by omega
            clear h0 h1 ht
            go_wp2_with fail
            first | (go_region_held3 (fun w' => w'.cell? ⟨bb, o + k, none⟩ = some (.slice (some ⟨b1, o1, none⟩) z c1) ∧ w'.cell? ⟨b1, o1, none⟩ = some (.int .i64 x))
              (first | go_keep | (go_split_ands; exact ⟨HK.out ST2.out.old, HX.out ST2.out.old⟩))
              (first | (go_at_call 10; refine (sp_write _ g b f ST.out.drew1.fil x _ xs (keeps_old ST.out.drew1.old ST.out.low.1 ST.out.low.2 HT.out)).mono ?_; rintro e w2 ⟨rfl, hf2, hs2⟩; have ST2 : Hid (OnF w w2 g b _) := ST.out.drew1.step hf2 (wroF_wel ST.out.wel x xs) hs2))) | fail "held"
            clear hf2 hs2 hc0 hx0
            go_wp2
            go_roundw
            case rel => exact ⟨k + 1, _, by omega, by go_num, ST2.out⟩
            case measure => simp [Go.RowKit.intOf]; omega
      · have hs1 : ¬ (k : Int) < 40 := by omega
        go_wp2
        go_ret
        exact ⟨g, rfl, b, f, ST.out⟩
    · have hl1 : ¬ (k : Int) < (n : Int) := by omega
      go_wp2
      go_ret
      exact ⟨g, rfl, b, f, ST.out⟩

end Go.Proofs.Ytepnbkonhaongaa
