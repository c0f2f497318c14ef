/- This text proves what the document's Ways (package platterholdref1) returns: the ways to all blocks, in their order, in new memory; and plain facts on rows of the call's own; no condition. -/
import Derived.Test.YteapobmmfjpblaaDoorP1
import Derived.OwnWalk
namespace Go.Proofs.YteapobmmfjpblaaDoor
open Go.RowKit Go.Deep

theorem Tryd.info22 : (Tryd.prog.info? 22).map (fun i => (i.zero, i.size, i.bytes)) = some (some (.slice none 0 0), 1, 24) := by kernel_rfl

theorem own_apart {w : World} {b1 b2 e1 e2 n1 n2 : Nat} {v1 v2 : Value} {vs1 vs2 : List Value} (h1 : w.ownsRow b1 e1 1 v1 n1 vs1) (h2 : w.ownsRow b2 e2 1 v2 n2 vs2) (he : e1 ≠ e2) : v1.ownBlock = none ∨ v1.ownBlock ≠ v2.ownBlock := by
  rcases h1.2 with ⟨rfl, _⟩ | ⟨g, cap, cur, rfl, _, hg, _⟩
  · exact .inl rfl
  · refine .inr fun e => ?_
    rcases h2.2 with ⟨rfl, _⟩ | ⟨g', cap', cur', rfl, _, hg', _⟩
    · cases e
    · cases e
      rw [hg] at hg'
      cases hg'
      exact he rfl

/-- A list of numbers that the call itself lays is its own. -/
theorem own_lit (w : World) (base : Nat) (xs : List Int) (hm : xs.length ≤ maxLen) (hb : base ≤ w.heap.size) :
    (w.alloc (.cells (xs.map fun x => Value.int .i64 x).toArray 3)).ownsRow base 3 1 (.slice (some ⟨w.heap.size, 0, none⟩) xs.length xs.length) xs.length (cellsOf xs) := by
  refine ⟨by rw [cellsOf_len, Nat.mul_one], .inr ⟨w.heap.size, xs.length, _, rfl, hb, blk_alloc_new _ _, Nat.le_refl _, hm, by simp, ?_⟩⟩
  rw [Nat.mul_one]
  unfold cellsOf
  exact List.take_of_length_le (by simp)

/-- Rows of numbers of the call's own, in a slice of the call's own. -/
def RwsOwn (w : World) (base : Nat) (v : Value) (rs : List (List Int)) (vs : List Value) : Prop :=
  w.ownsRow base 22 1 v rs.length vs ∧ ∀ i (h : i < vs.length), w.ownsRow base 3 1 vs[i] (rowAt rs i).length (cellsOf (rowAt rs i))

theorem RwsOwn.len {w : World} {base : Nat} {v : Value} {rs : List (List Int)} {vs : List Value} (h : RwsOwn w base v rs vs) : vs.length = rs.length := by
  have := h.1.1
  omega

theorem rws_none (w : World) (base : Nat) : RwsOwn w base (.slice none 0 0) [] [] := ⟨World.ownsRow_nil _ _ _ _, fun _ hi => absurd hi (Nat.not_lt_zero _)⟩

theorem RwsOwn.alloc {w : World} {base : Nat} {v : Value} {rs : List (List Int)} {vs : List Value} (h : RwsOwn w base v rs vs) (o : Obj) : RwsOwn (w.alloc o) base v rs vs :=
  ⟨h.1.alloc _, fun i hi => (h.2 i hi).alloc _⟩

theorem rowAt_snoc {rs : List (List Int)} {x : List Int} {i : Nat} (h : i < rs.length + 1) : rowAt (rs ++ [x]) i = if i = rs.length then x else rowAt rs i := by
  rw [rowAt_lt (by simpa using h)]
  by_cases e : i = rs.length
  · subst e; simp
  · rw [if_neg e, rowAt_lt (by omega), List.getElem_append_left]

/-- One row more, behind an append. -/
theorem RwsOwn.more {w w' : World} {base : Nat} {v v' u : Value} {rs : List (List Int)} {vs : List Value} {x : List Int} (h : RwsOwn w base v rs vs) (hu : w.ownsRow base 3 1 u x.length (cellsOf x)) (hg : w.grownBy w' v.ownBlock)
    (ho : w'.ownsRow base 22 1 v' (rs.length + 1) (vs ++ [u])) : RwsOwn w' base v' (rs ++ [x]) (vs ++ [u]) := by
  refine ⟨by rw [List.length_append, List.length_singleton]; exact ho, fun i hi => ?_⟩
  have hl := h.len
  have hi' : i < rs.length + 1 := by simpa [hl] using hi
  rw [rowAt_snoc hi']
  by_cases e : i = rs.length
  · subst e
    rw [if_pos rfl, List.getElem_append_right (by omega)]
    simp only [hl, Nat.sub_self, List.getElem_cons_zero]
    exact hu.kept hg (own_apart hu h.1 (by decide))
  · rw [if_neg e, List.getElem_append_left (by omega)]
    exact (h.2 i (by omega)).kept hg (own_apart (h.2 i (by omega)) h.1 (by decide))

/-- And so they are rows. -/
theorem RwsOwn.rows {w : World} {base : Nat} {v : Value} {rs : List (List Int)} {vs : List Value} (h : RwsOwn w base v rs vs) (hm : rs.length ≤ maxLen) (hr : ∀ i, i < rs.length → (rowAt rs i).length ≤ maxLen) : RowsIs w v rs := by
  have hl := h.len
  rcases h.1.2 with ⟨h0, h1⟩ | ⟨g, cap, cur, h1, h2, h3, _⟩
  · subst h0
    obtain rfl : rs = [] := List.length_eq_zero_iff.1 h1
    exact ⟨none, 0, rfl, Nat.zero_le _, fun h => absurd rfl h⟩
  · subst h1
    refine ⟨_, cap, rfl, hm, fun _ => ⟨g, 0, rfl, (Array.getElem?_eq_some_iff.1 h3).1, fun i hi => ⟨vs[i]'(by omega), ?_, slice_own (h.2 i (by omega)) (hr i hi)⟩⟩⟩
    rw [Nat.zero_add, h.1.cellAt i (by omega)]
    simp [hl, hi]

/-- The ways to the first blocks. -/
def ways (k : Nat) : List (List Int) := (List.range k).map fun (i : Nat) => ofL (i : Int)
theorem ways_len (k : Nat) : (ways k).length = k := by simp [ways]
theorem ways_at {k i : Nat} (h : i < k) : rowAt (ways k) i = ofL (i : Int) := by rw [rowAt_lt (by rw [ways_len]; exact h)]; simp [ways]
theorem ways_snoc (k : Nat) : ways k ++ [ofL (k : Int)] = ways (k + 1) := by simp [ways, List.range_succ]

theorem ones_slice (a : Option Addr) (n c : Nat) : ∀ u ∈ [Value.slice a n c], u.oneCell' = true := fun u hu => by rw [List.mem_singleton.1 hu]; rfl

theorem ways_step {w wr w1 : World} {u v1 : Value} {vs : List Value} {k n : Nat} {c : Array Value} (hb : Below w.heap.size w wr) (h : RwsOwn wr w.heap.size u (ways k) vs)
    (hl : (wr.alloc (.cells c 3)).ownsRow w.heap.size 3 1 (.slice (some ⟨wr.heap.size, 0, none⟩) n n) n (cellsOf (ofL (k : Int))))
    (hg : ((wr.alloc (.cells c 3)).alloc (.cells #[.slice (some ⟨wr.heap.size, 0, none⟩) n n] 22)).grownBy w1 u.ownBlock)
    (ho : w1.ownsRow w.heap.size 22 1 v1 (k + 1) (vs ++ [.slice (some ⟨wr.heap.size, 0, none⟩) n n])) :
    RwsOwn w1 w.heap.size v1 (ways (k + 1)) (vs ++ [.slice (some ⟨wr.heap.size, 0, none⟩) n n]) ∧ Below w.heap.size w w1 := by
  have e : (ofL (k : Int)).length = n := by have := hl.1; rw [cellsOf_len] at this; omega
  refine ⟨?_, ((hb.alloc hb.size _).alloc (by have := hb.size; simp; omega) _).grown hg (by have := hb.size; simp; omega) (fun k e => (h.1.lt k e).1)⟩
  rw [← ways_snoc]
  refine ((h.alloc _).alloc _).more (by rw [e]; exact hl.alloc _) hg (by rw [ways_len]; exact ho)

theorem row_lit (wr : World) (B : Nat) (k : Nat) (xs : List Int) (hx : ofL (k : Int) = xs) (hB : B ≤ wr.heap.size) :
    (wr.alloc (.cells (xs.map fun x => Value.int .i64 x).toArray 3)).ownsRow B 3 1 (.slice (some ⟨wr.heap.size, 0, none⟩) xs.length xs.length) xs.length (cellsOf (ofL (k : Int))) := by
  subst hx
  exact own_lit wr B _ (by have := ofL_len (k : Int); unfold maxLen; omega) hB

set_option maxHeartbeats 2000000 in
theorem ways_any (w : World) : Calls Tryd.prog 4 #[] w fun e w' => ∃ v, e = .returned v ∧ RowsIs w' v (ways 24) ∧ Below w.heap.size w w' := by
  obtain ⟨ti, hti, z0, z1, z2⟩ := info_parts Tryd.info22
  go_enter Tryd.func4, Tryd.ntmps4
  go_wp2
  go_loopw [1, 2] (fun v1 v2 wr => ∃ (i : Nat) (vs : List Value), i ≤ 4 ∧ v2 = .int .i64 i ∧ RwsOwn wr w.heap.size v1 (ways i) vs ∧ Below w.heap.size w wr) (fun _ i _ => 4 - (intOf i).toNat)
  case atStart => exact ⟨0, [], Nat.zero_le _, rfl, rws_none _ _, Below.refl _ _⟩
  case round =>
    obtain ⟨i, vs, hi, rfl, hown, hbel⟩ := hrel
    have HO : Hid (RwsOwn wr w.heap.size u1 (ways i) vs) := hown
    have HB : Hid (Below w.heap.size w wr) := hbel
    clear hown hbel
    by_cases hlt : i < 4
    · have hi' : (i : Int) < 4 := by omega
      have HLt : Hid _ := row_lit wr w.heap.size (i) [(i : Int)] (by exact ofL_one ⟨by omega, by omega⟩) HB.out.size
      have HOo : Hid (wr.ownsRow w.heap.size 22 1 u1 (i) vs) := by have := HO.out.1; rwa [ways_len] at this
      go_wp2_with (at_builtin; refine wpList_append_own _ rfl (.tmp 10) (.tmp 13) 23 rfl w.heap.size 22 ti (.slice none 0 0) 1 24 Tryd.underlying23 hti z0 z1 z2 rfl (by decide) u1 (i) vs rfl ((HOo.out.alloc _).alloc _) ⟨wr.heap.size + 1, 0, none⟩ 1 1 [.slice (some ⟨wr.heap.size, 0, none⟩) 1 1] rfl rfl ?p0 (ones_slice _ _ _) ?p1 ?p2 ?p3 ?p4)
      case p0 => simpa using cell_one_new (wr.alloc (.cells #[.int .i64 (i : Int)] 3)) (.slice (some ⟨wr.heap.size, 0, none⟩) 1 1) 22
      case p1 => unfold maxLen; omega
      case p2 => omega
      case p3 => have := HB.out.size; simp; omega
      case p4 =>
        intro v1 w1 hown hgr _
        have HW : Hid _ := fun (_ : Nat) => ways_step HB.out HO.out HLt.out hgr hown
        clear hown hgr
        go_wp2
        go_roundw
        case rel => exact ⟨i + 1, _, by omega, by go_num, (HW.out 0).1, (HW.out 0).2⟩
        case measure => simp [intOf]; omega
    · have hi4 : i = 4 := by omega
      subst hi4
      clear hlt hi
      rw [show ((4 : Nat) : Int) = 4 from rfl]
      rename World => w0
      generalize u1 = U1 at HO ⊢
      go_wp2
      go_loopw [1, 3] (fun v1 v3 wr => ∃ (i : Nat) (vs : List Value), i ≤ 4 ∧ v3 = .int .i64 i ∧ RwsOwn wr w.heap.size v1 (ways (4 + i)) vs ∧ Below w.heap.size w wr) (fun _ i _ => 4 - (intOf i).toNat)
      case atStart => exact ⟨0, _, Nat.zero_le _, rfl, HO.out, HB.out⟩
      case round =>
        clear HO HB
        obtain ⟨i, vs, hi, rfl, hown, hbel⟩ := hrel
        have HO : Hid (RwsOwn wr w.heap.size u1 (ways (4 + i)) vs) := hown
        have HB : Hid (Below w.heap.size w wr) := hbel
        clear hown hbel
        by_cases hlt : i < 4
        · have hi' : (i : Int) < 4 := by omega
          have HLt : Hid _ := row_lit wr w.heap.size (4 + i) [4, (i : Int)] (by rw [ofL_two ⟨by omega, by omega⟩, show ((4 + i : Nat) : Int) - 4 = (i : Int) by omega]) HB.out.size
          have HOo : Hid (wr.ownsRow w.heap.size 22 1 u1 (4 + i) vs) := by have := HO.out.1; rwa [ways_len] at this
          go_wp2_with (at_builtin; refine wpList_append_own _ rfl (.tmp 19) (.tmp 22) 23 rfl w.heap.size 22 ti (.slice none 0 0) 1 24 Tryd.underlying23 hti z0 z1 z2 rfl (by decide) u1 (4 + i) vs rfl ((HOo.out.alloc _).alloc _) ⟨wr.heap.size + 1, 0, none⟩ 1 1 [.slice (some ⟨wr.heap.size, 0, none⟩) 2 2] rfl rfl ?p0 (ones_slice _ _ _) ?p1 ?p2 ?p3 ?p4)
          case p0 => simpa using cell_one_new (wr.alloc (.cells #[.int .i64 4, .int .i64 (i : Int)] 3)) (.slice (some ⟨wr.heap.size, 0, none⟩) 2 2) 22
          case p1 => unfold maxLen; omega
          case p2 => omega
          case p3 => have := HB.out.size; simp; omega
          case p4 =>
            intro v1 w1 hown hgr _
            have HW : Hid _ := fun (_ : Nat) => ways_step HB.out HO.out HLt.out hgr hown
            clear hown hgr
            go_wp2
            go_roundw
            case rel => exact ⟨i + 1, _, by omega, by go_num, (HW.out 0).1, (HW.out 0).2⟩
            case measure => simp [intOf]; omega
        · have hi4 : i = 4 := by omega
          subst hi4
          clear hlt hi
          rw [show ((4 : Nat) : Int) = 4 from rfl]
          rename World => w0
          generalize u1 = U2 at HO ⊢
          go_wp2
          go_loopw [1, 4, 5] (fun v1 v4 _ wr => ∃ (i : Nat) (vs : List Value), i ≤ 4 ∧ v4 = .int .i64 i ∧ RwsOwn wr w.heap.size v1 (ways (8 + 4 * i)) vs ∧ Below w.heap.size w wr) (fun _ i _ _ => 4 - (intOf i).toNat)
          case atStart => exact ⟨0, _, Nat.zero_le _, rfl, HO.out, HB.out⟩
          case round =>
            clear HO HB
            obtain ⟨i, vs, hi, rfl, hown, hbel⟩ := hrel
            have HO : Hid (RwsOwn wr w.heap.size u1 (ways (8 + 4 * i)) vs) := hown
            have HB : Hid (Below w.heap.size w wr) := hbel
            clear hown hbel
            by_cases hlt : i < 4
            · have hi' : (i : Int) < 4 := by omega
              rename World => w2
              generalize u1 = U3 at HO ⊢
              go_wp2
              go_loopw [1, 5] (fun v1 v5 wr => ∃ (j : Nat) (vs : List Value), j ≤ 4 ∧ v5 = .int .i64 j ∧ RwsOwn wr w.heap.size v1 (ways (8 + 4 * i + j)) vs ∧ Below w.heap.size w wr) (fun _ i _ => 4 - (intOf i).toNat)
              case atStart => exact ⟨0, _, Nat.zero_le _, rfl, HO.out, HB.out⟩
              case round =>
                clear HO HB
                obtain ⟨j, vs, hj, rfl, hown, hbel⟩ := hrel
                have HO : Hid (RwsOwn wr w.heap.size u1 (ways (8 + 4 * i + j)) vs) := hown
                have HB : Hid (Below w.heap.size w wr) := hbel
                clear hown hbel
                by_cases hlt : j < 4
                · have hi' : (j : Int) < 4 := by omega
                  have HLt : Hid _ := row_lit wr w.heap.size (8 + 4 * i + j) [5, (i : Int), (j : Int)] (by rw [ofL_three ⟨by omega, by omega⟩, show (((8 + 4 * i + j : Nat) : Int) - 8) / 4 = (i : Int) by omega, show (((8 + 4 * i + j : Nat) : Int) - 8) % 4 = (j : Int) by omega]) HB.out.size
                  have HOo : Hid (wr.ownsRow w.heap.size 22 1 u1 (8 + 4 * i + j) vs) := by have := HO.out.1; rwa [ways_len] at this
                  go_wp2_with (at_builtin; refine wpList_append_own _ rfl (.tmp 32) (.tmp 36) 23 rfl w.heap.size 22 ti (.slice none 0 0) 1 24 Tryd.underlying23 hti z0 z1 z2 rfl (by decide) u1 (8 + 4 * i + j) vs rfl ((HOo.out.alloc _).alloc _) ⟨wr.heap.size + 1, 0, none⟩ 1 1 [.slice (some ⟨wr.heap.size, 0, none⟩) 3 3] rfl rfl ?p0 (ones_slice _ _ _) ?p1 ?p2 ?p3 ?p4)
                  case p0 => simpa using cell_one_new (wr.alloc (.cells #[.int .i64 5, .int .i64 (i : Int), .int .i64 (j : Int)] 3)) (.slice (some ⟨wr.heap.size, 0, none⟩) 3 3) 22
                  case p1 => unfold maxLen; omega
                  case p2 => omega
                  case p3 => have := HB.out.size; simp; omega
                  case p4 =>
                    intro v1 w1 hown hgr _
                    have HW : Hid _ := fun (_ : Nat) => ways_step HB.out HO.out HLt.out hgr hown
                    clear hown hgr
                    go_wp2
                    go_roundw
                    case rel => exact ⟨j + 1, _, by omega, by go_num, (HW.out 0).1, (HW.out 0).2⟩
                    case measure => simp [intOf]; omega
                · have hj4 : j = 4 := by omega
                  subst hj4
                  clear hlt hj
                  rw [show ((4 : Nat) : Int) = 4 from rfl]
                  go_wp2
                  go_roundw
                  case rel => exact ⟨i + 1, vs, by omega, by go_num, by rw [show 8 + 4 * (i + 1) = 8 + 4 * i + 4 by omega]; exact HO.out, HB.out⟩
                  case measure => simp [intOf]; omega
            · have hi4 : i = 4 := by omega
              subst hi4
              clear hlt hi
              have HF : Hid (RowsIs wr u1 (ways 24)) := HO.out.rows (by rw [ways_len]; unfold maxLen; omega) (fun k hk => by rw [ways_len] at hk; rw [ways_at hk]; have := ofL_len (k : Int); unfold maxLen; omega)
              rw [show ((4 : Nat) : Int) = 4 from rfl]
              go_wp2
              go_ret
              exact ⟨_, rfl, HF.out, HB.out⟩

end Go.Proofs.YteapobmmfjpblaaDoor
