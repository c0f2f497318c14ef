/- This text proves what the law's logged returns: a disk with which something was done, in memory of its own; old memory is as it was; the condition is that the steps' rows lie there. -/
import Derived.Test.YtejganpamidkmaaZ10
import Derived.Test.YtejganpamidkmaaLj
import Derived.Deep.RegionWith
namespace Go.Proofs.Ytejganpamidkmaa
open Go.RowKit Go.Deep Go.Maps

/-- A disk in memory that was made behind a world, whose memory is as it was. -/
structure OnD (w wr : World) (g : Nat) (v : Value) (d : Dk) : Prop where
  disk : DiskM wr w.heap.size g v d
  old : Below w.heap.size w wr
theorem OnD.later {w wr w' : World} {g : Nat} {v : Value} {d : Dk} (h : OnD w wr g v d) (hb : Below wr.heap.size wr w') : OnD w w' g v d := ⟨h.disk.later hb, h.old.trans (hb.mono h.old.size)⟩
theorem OnD.step {w wr w' : World} {g : Nat} {v v' : Value} {d d' : Dk} (h : OnD w wr g v d) (hs : Step wr w' w.heap.size g v v' d') : OnD w w' g v' d' :=
  ⟨hs.disk, h.old.trans (hs.stay.below (fun _ hx => (h.disk.fp hx).1) h.old.size)⟩
theorem OnD.sync {w wr w' : World} {g : Nat} {v : Value} {d d' : Dk} (h : OnD w wr g v d) (hd : DiskM w' w.heap.size g v d') (hs : Stay (fun x => x = g) wr w') : OnD w w' g v d' :=
  ⟨hd, h.old.trans (hs.below (by rintro x rfl; exact h.disk.low) h.old.size)⟩

/-- The log behind a step, and behind the first steps. -/
def stepL (L : List Rc) (row : List Int) : List Rc := if row.length = 1 then enL L (nth row 0) else if row.length = 3 then wrL L (nth row 0) (nth row 1) (nth row 2) else L
def lgd (rs : List (List Int)) : Nat → List Rc
  | 0 => []
  | k + 1 => stepL (lgd rs k) (rowAt rs k)
theorem lgd_one {rs : List (List Int)} {k : Nat} (h : (rowAt rs k).length = 1) : lgd rs (k + 1) = enL (lgd rs k) (nth (rowAt rs k) 0) := by
  show stepL _ _ = _
  unfold stepL
  rw [if_pos h]
theorem lgd_three {rs : List (List Int)} {k : Nat} (h : (rowAt rs k).length = 3) : lgd rs (k + 1) = wrL (lgd rs k) (nth (rowAt rs k) 0) (nth (rowAt rs k) 1) (nth (rowAt rs k) 2) := by
  show stepL _ _ = _
  unfold stepL
  rw [if_neg (by omega), if_pos h]
theorem lgd_other {rs : List (List Int)} {k : Nat} (h1 : (rowAt rs k).length ≠ 1) (h3 : (rowAt rs k).length ≠ 3) : lgd rs (k + 1) = lgd rs k := by
  show stepL _ _ = _
  unfold stepL
  rw [if_neg h1, if_neg h3]

/-- Where a row's slice lies. -/
theorem RowsIs.row {w : World} {a : Option Addr} {n c : Nat} {rs : List (List Int)} (h : RowsIs w (.slice a n c) rs) (i : Nat) (hi : i < n) :
    ∃ b o v, a = some ⟨b, o, none⟩ ∧ b < w.heap.size ∧ w.cell? ⟨b, o + i, none⟩ = some v ∧ SliceIs w v (rowAt rs i) := by
  obtain ⟨a', c', e, hl, hx⟩ := h
  cases e
  obtain ⟨b, o, ha, hb, hc⟩ := hx (fun e => by rw [e] at hi; simp at hi)
  obtain ⟨v, h1, h2⟩ := hc i hi
  exact ⟨b, o, v, ha, hb, h1, h2⟩
theorem row_cells {w : World} {v : Value} {xs : List Int} {z : Nat} (h : SliceIs w v xs) (hl : xs.length = z) (hz : 0 < z) :
    ∃ b o c, v = .slice (some ⟨b, o, none⟩) z c ∧ b < w.heap.size ∧ ∀ i, i < z → w.cell? ⟨b, o + i, none⟩ = some (.int .i64 (nth xs i)) := by
  obtain ⟨a, c, rfl, _, hx⟩ := h
  obtain ⟨b, o, ha, hb, hc⟩ := hx (fun e => by rw [e] at hl; simp at hl; omega)
  subst ha
  exact ⟨b, o, c, by rw [hl], hb, fun i hi => hc i (by omega)⟩

set_option maxHeartbeats 8000000 in
set_option maxRecDepth 100000 in
theorem logged_any (w : World) (v : Value) (rs : List (List Int)) (hr : RowsIs w v rs) :
    Calls Try.prog 7 #[v] w fun e w' => ∃ g v' s, e = .returned (ptrD g) ∧ OnD w w' g v' ⟨nV, lgd rs (min rs.length 80), s⟩ := by
  have HR : Hid (RowsIs w v rs) := hr
  obtain ⟨a, c, hv, hl, _⟩ := hr
  obtain ⟨n, hn⟩ : ∃ n, n = rs.length := ⟨_, rfl⟩
  rw [← hn] at hv hl
  have HN : Hid (n = rs.length) := hn
  unfold maxLen at hl
  subst hv
  clear hn
  go_enter Try.func7, Try.ntmps7
  go_wp2_with fail
  refine (new_any _).mono ?_
  rintro e w1 ⟨rfl, hT, hb⟩
  have HS : Hid (OnD w w1 w.heap.size (.slice none 0 0) ⟨nV, lgd rs 0, 0⟩) := ⟨hT, hb⟩
  clear hT hb
  unfold ptrD
  go_wp2
  have HS0 : Hid (∃ g v s, OnD w w1 g v ⟨nV, lgd rs 0, s⟩ ∧ g = w.heap.size) := ⟨_, _, _, HS.out, rfl⟩
  clear HS
  obtain ⟨g, hG⟩ : ∃ g, g = w.heap.size := ⟨_, rfl⟩
  rw [← hG]
  rw [← hG] at HS0
  have HG : Hid (g = w.heap.size) := hG
  clear hG
  go_loopw [4] (fun i wr => ∃ k v s, k ≤ n ∧ k ≤ 80 ∧ i = .int .i64 ((k : Nat) : Int) ∧ OnD w wr g v ⟨nV, lgd rs k, s⟩) (fun i _ => 80 - (Go.RowKit.intOf i).toNat)
  case atStart =>
    obtain ⟨g', v, s, h, rfl⟩ := HS0.out
    exact ⟨0, v, s, Nat.zero_le _, by omega, rfl, h⟩
  case round =>
    obtain ⟨k, v, s, hkn, hk, rfl, hst⟩ := hrel
    have ST : Hid (OnD w wr g v ⟨nV, lgd rs k, s⟩) := hst
    clear hst HS0
    by_cases hlt : k < n
    · have hl1 : (k : Int) < (n : Int) := by omega
      by_cases hs : k < 80
      · have hs1 : (k : Int) < 80 := by omega
        obtain ⟨b, o, vk, ha, hbs, hck, hsk⟩ := HR.out.row k hlt
        subst ha
        have hc0 : wr.cell? ⟨b, o + k, none⟩ = some vk := by rw [ST.out.old.cell (p := ⟨b, o + k, none⟩) hbs]; exact hck
        clear hck
        obtain ⟨z, hz⟩ : ∃ z, (rowAt rs k).length = z := ⟨_, rfl⟩
        by_cases h1 : z = 1
        · subst h1
          obtain ⟨b1, o1, c1, rfl, hb1, hx⟩ := row_cells hsk hz (by omega)
          have x0 : wr.cell? ⟨b1, o1, none⟩ = some (.int .i64 (nth (rowAt rs k) 0)) := by rw [ST.out.old.cell (p := ⟨b1, o1, none⟩) hb1]; exact hx 0 (by omega)
          have HL : Hid (lgd rs (k + 1) = enL (lgd rs k) (nth (rowAt rs k) 0)) := lgd_one hz
          have HEn : Hid _ := fun (_ : Nat) => end_any wr w.heap.size g v _ ST.out.disk (nth (rowAt rs k) 0)
          unfold ptrD at HEn
          generalize nth (rowAt rs k) 0 = X0 at x0 HL HEn
          clear hx hsk hz
          go_wp2_with (go_at_call 14; refine (HEn.out 0).mono ?_; rintro e w2 ⟨rfl, v2, hst2⟩; have ST2 : Hid (OnD w w2 g v2 (enD ⟨nV, lgd rs k, s⟩ X0)) := ST.out.step hst2; clear hst2)
          go_roundw
          case rel => exact ⟨k + 1, v2, s, by omega, by omega, by go_num, by rw [HL.out]; exact ST2.out⟩
          case measure => simp [Go.RowKit.intOf]; omega
        · by_cases h3 : z = 3
          · subst h3
            obtain ⟨b1, o1, c1, rfl, hb1, hx⟩ := row_cells hsk hz (by omega)
            have HXs : Hid (∀ w2, Below w.heap.size w w2 → w2.cell? ⟨b1, o1, none⟩ = some (.int .i64 (nth (rowAt rs k) 0)) ∧ w2.cell? ⟨b1, o1 + 1, none⟩ = some (.int .i64 (nth (rowAt rs k) 1)) ∧ w2.cell? ⟨b1, o1 + 2, none⟩ = some (.int .i64 (nth (rowAt rs k) 2))) := fun w2 h =>
              ⟨by rw [h.cell (p := ⟨b1, o1, none⟩) hb1]; exact hx 0 (by omega), by rw [h.cell (p := ⟨b1, o1 + 1, none⟩) hb1]; exact hx 1 (by omega), by rw [h.cell (p := ⟨b1, o1 + 2, none⟩) hb1]; exact hx 2 (by omega)⟩
            have HL : Hid (lgd rs (k + 1) = wrL (lgd rs k) (nth (rowAt rs k) 0) (nth (rowAt rs k) 1) (nth (rowAt rs k) 2)) := lgd_three hz
            have STd : Hid (OnD w wr.drew g v ⟨nV, lgd rs k, s⟩) := ST.out.later (below_drew1 _ _)
            have HWr : Hid _ := fun (_ : Nat) => write_any wr.drew w.heap.size g v _ STd.out.disk (nth (rowAt rs k) 0) (nth (rowAt rs k) 1) (nth (rowAt rs k) 2)
            unfold ptrD at HWr
            generalize nth (rowAt rs k) 0 = X0 at HXs HL HWr
            generalize nth (rowAt rs k) 1 = X1 at HXs HL HWr
            generalize nth (rowAt rs k) 2 = X2 at HXs HL HWr
            obtain ⟨x0, x1, x2⟩ := HXs.out wr ST.out.old
            clear hx hsk hz
            go_wp2_with fail
            go_region_held3 (fun w' => w'.cell? ⟨b1, o1, none⟩ = some (.int .i64 X0) ∧ w'.cell? ⟨b1, o1 + 1, none⟩ = some (.int .i64 X1) ∧ w'.cell? ⟨b1, o1 + 2, none⟩ = some (.int .i64 X2))
              (first | (go_split_ands; exact HXs.out _ ST2.out.old) | go_keep)
              (first | (go_at_call 13; refine (HWr.out 0).mono ?_; rintro e w2 ⟨rfl, v2, hst2⟩; have ST2 : Hid (OnD w w2 g v2 (wrD ⟨nV, lgd rs k, s⟩ X0 X1 X2)) := STd.out.step hst2; clear hst2))
            go_wp2
            go_roundw
            case rel => exact ⟨k + 1, v2, s, by omega, by omega, by go_num, by rw [HL.out]; exact ST2.out⟩
            case measure => simp [Go.RowKit.intOf]; omega
          · have HL : Hid (lgd rs (k + 1) = lgd rs k) := lgd_other (by omega) (by omega)
            obtain ⟨a1, c1, hv1, _, _⟩ := hsk
            rw [hz] at hv1
            subst hv1
            have b1 : ((z : Int) == 1) = false := by simp; omega
            have b3 : ((z : Int) == 3) = false := by simp; omega
            by_cases h4 : z = 4
            · subst h4
              have HSy : Hid _ := fun (_ : Nat) => sync_any wr w.heap.size g v _ ST.out.disk
              unfold ptrD at HSy
              clear hz
              go_wp2_with (go_at_call 16; refine (HSy.out 0).mono ?_; rintro e w2 ⟨rfl, hd2, hs2⟩; have ST2 : Hid (OnD w w2 g v (syD ⟨nV, lgd rs k, s⟩)) := ST.out.sync hd2 hs2; clear hd2 hs2)
              go_roundw
              case rel => exact ⟨k + 1, v, _, by omega, by omega, by go_num, by rw [HL.out]; exact ST2.out⟩
              case measure => simp [Go.RowKit.intOf]; omega
            · have b4 : ((z : Int) == 4) = false := by simp; omega
              clear hz
              go_wp2
              go_roundw
              case rel => exact ⟨k + 1, v, s, by omega, by omega, by go_num, by rw [HL.out]; exact ST.out⟩
              case measure => simp [Go.RowKit.intOf]; omega
      · have hs1 : ¬ (k : Int) < 80 := by omega
        have HK : Hid (min rs.length 80 = k) := by have := HN.out; show min rs.length 80 = k; omega
        go_wp2
        go_ret
        exact ⟨g, rfl, v, s, by rw [HK.out]; exact ST.out⟩
    · have hl1 : ¬ (k : Int) < (n : Int) := by omega
      have HK : Hid (min rs.length 80 = k) := by have := HN.out; show min rs.length 80 = k; omega
      go_wp2
      go_ret
      exact ⟨g, rfl, v, s, by rw [HK.out]; exact ST.out⟩

end Go.Proofs.Ytejganpamidkmaa
