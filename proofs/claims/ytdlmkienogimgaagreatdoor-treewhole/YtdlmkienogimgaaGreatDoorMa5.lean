/- This text joins 2 parts of a proof. (1) This text lays the shelf's contracts of maps.Keys, slices.Sorted and slices.Sort at this program, and proves what a node's rising answers: the names in a directory, in their order, in new memory, and none of a file; the conditions are that the node and its map lie there. (2) This text says what it means that a tree of directories lies in memory, and proves what isDir and follow answer: what is at a path, or what is wrong; nothing is written; the condition is that the tree lies there. -/
import Derived.Test.YtdlmkienogimgaaGreatDoorT1
import Derived.Shelf.SlIter.Nil
import Derived.Shelf.SortM.Plain
import Derived.Shelf.SortM.SortNone
namespace Go.Proofs.YtdlmkienogimgaaGreatDoor
open Go.RowKit Go.Deep Go.Shelf Go.Maps Go.Sort

set_option maxRecDepth 100000

def Tryz.renK : Go.Shelf.Ren := ⟨fun | 7 => 69 | 10 => 87 | n => n, fun | 0 => 0 | 3 => 59 | 4 => 4 | 23 => 75 | 26 => 9 | 27 => 110 | 28 => 111 | 33 => 70 | n => n, fun n => n⟩

theorem Tryz.lay_renK : SlLaysZ.n7 Tryz.prog Tryz.renK where
  mixed := by kernel_rfl
  f7 := ⟨Tryz.f69.name, by decide, Tryz.func69.trans (congrArg some (by kernel_rfl))⟩
  f10 := ⟨Tryz.f87.name, by decide, Tryz.func87.trans (congrArg some (by kernel_rfl))⟩
  t0 := Tryz.underlying0
  a0 := Tryz.isAgg0
  z0 := Tryz.sizeOf0
  v0 := Tryz.zeroValue0
  t4 := Tryz.underlying4
  a4 := Tryz.isAgg4
  z4 := Tryz.sizeOf4
  v4 := Tryz.zeroValue4
  t23 := Tryz.underlying75
  a23 := Tryz.isAgg75
  z23 := Tryz.sizeOf75
  v23 := Tryz.zeroValue75
  t26 := Tryz.underlying9
  a26 := Tryz.isAgg9
  z26 := Tryz.sizeOf9
  v26 := Tryz.zeroValue9
  t27 := Tryz.underlying110
  a27 := Tryz.isAgg110
  z27 := Tryz.sizeOf110
  v27 := Tryz.zeroValue110
  t28 := Tryz.underlying111
  a28 := Tryz.isAgg111
  z28 := Tryz.sizeOf111
  v28 := Tryz.zeroValue111
  t33 := Tryz.underlying70
  a33 := Tryz.isAgg70
  z33 := Tryz.sizeOf70
  v33 := Tryz.zeroValue70

def Tryz.renS : Go.Shelf.Ren := ⟨fun | 6 => 68 | 8 => 85 | 9 => 86 | 11 => 100 | n => n, fun | 0 => 0 | 24 => 26 | 26 => 9 | 28 => 111 | 33 => 70 | n => n, fun n => n⟩

theorem Tryz.lay_renS : SlLaysZ.n6 Tryz.prog Tryz.renS where
  mixed := by kernel_rfl
  f6 := ⟨Tryz.f68.name, by decide, Tryz.func68.trans (congrArg some (by kernel_rfl))⟩
  f8 := ⟨Tryz.f85.name, by decide, Tryz.func85.trans (congrArg some (by kernel_rfl))⟩
  f11 := ⟨Tryz.f100.name, by decide, Tryz.func100.trans (congrArg some (by kernel_rfl))⟩
  t0 := Tryz.underlying0
  a0 := Tryz.isAgg0
  z0 := Tryz.sizeOf0
  v0 := Tryz.zeroValue0
  t24 := Tryz.underlying26
  a24 := Tryz.isAgg26
  z24 := Tryz.sizeOf26
  v24 := Tryz.zeroValue26
  t26 := Tryz.underlying9
  a26 := Tryz.isAgg9
  z26 := Tryz.sizeOf9
  v26 := Tryz.zeroValue9
  t28 := Tryz.underlying111
  a28 := Tryz.isAgg111
  z28 := Tryz.sizeOf111
  v28 := Tryz.zeroValue111
  i26 := by kernel_rfl

def Tryz.renT : Go.Shelf.Ren := ⟨fun | 6 => 86 | 8 => 102 | 9 => 101 | 19 => 120 | 20 => 121 | 21 => 111 | 22 => 112 | 23 => 113 | 24 => 114 | 25 => 115 | 26 => 116 | 27 => 117 | 28 => 118 | 29 => 119 | 31 => 125 | 32 => 126 | 36 => 124 | 37 => 127 | 38 => 128 | 39 => 129 | 41 => 130 | n => n, fun | 0 => 0 | 3 => 3 | 4 => 4 | 5 => 5 | 9 => 9 | 26 => 26 | 27 => 26 | 29 => 9 | 32 => 141 | 35 => 157 | 36 => 158 | 41 => 162 | 44 => 165 | 46 => 167 | 53 => 174 | 57 => 178 | 63 => 180 | 64 => 47 | n => n, fun n => n⟩

theorem Tryz.lay_renT : SlLaysM.n6 Tryz.prog Tryz.renT where
  mixed := by kernel_rfl
  f6 := ⟨Tryz.f86.name, by decide, Tryz.func86.trans (congrArg some (by kernel_rfl))⟩
  f8 := Tryz.func102.trans (congrArg some (by kernel_rfl))
  f9 := ⟨Tryz.f101.name, by decide, Tryz.func101.trans (congrArg some (by kernel_rfl))⟩
  f19 := Tryz.func120.trans (congrArg some (by kernel_rfl))
  f20 := Tryz.func121.trans (congrArg some (by kernel_rfl))
  f21 := ⟨Tryz.f111.name, by decide, Tryz.func111.trans (congrArg some (by kernel_rfl))⟩
  f22 := ⟨Tryz.f112.name, by decide, Tryz.func112.trans (congrArg some (by kernel_rfl))⟩
  f23 := ⟨Tryz.f113.name, by decide, Tryz.func113.trans (congrArg some (by kernel_rfl))⟩
  f24 := ⟨Tryz.f114.name, by decide, Tryz.func114.trans (congrArg some (by kernel_rfl))⟩
  f25 := ⟨Tryz.f115.name, by decide, Tryz.func115.trans (congrArg some (by kernel_rfl))⟩
  f26 := ⟨Tryz.f116.name, by decide, Tryz.func116.trans (congrArg some (by kernel_rfl))⟩
  f27 := ⟨Tryz.f117.name, by decide, Tryz.func117.trans (congrArg some (by kernel_rfl))⟩
  f28 := ⟨Tryz.f118.name, by decide, Tryz.func118.trans (congrArg some (by kernel_rfl))⟩
  f29 := ⟨Tryz.f119.name, by decide, Tryz.func119.trans (congrArg some (by kernel_rfl))⟩
  f31 := Tryz.func125.trans (congrArg some (by kernel_rfl))
  f32 := Tryz.func126.trans (congrArg some (by kernel_rfl))
  f36 := ⟨Tryz.f124.name, by decide, Tryz.func124.trans (congrArg some (by kernel_rfl))⟩
  f37 := ⟨Tryz.f127.name, by decide, Tryz.func127.trans (congrArg some (by kernel_rfl))⟩
  f38 := ⟨Tryz.f128.name, by decide, Tryz.func128.trans (congrArg some (by kernel_rfl))⟩
  f39 := ⟨Tryz.f129.name, by decide, Tryz.func129.trans (congrArg some (by kernel_rfl))⟩
  f41 := ⟨Tryz.f130.name, by decide, Tryz.func130.trans (congrArg some (by kernel_rfl))⟩
  t0 := Tryz.underlying0
  a0 := Tryz.isAgg0
  z0 := Tryz.sizeOf0
  v0 := Tryz.zeroValue0
  t3 := Tryz.underlying3
  a3 := Tryz.isAgg3
  z3 := Tryz.sizeOf3
  v3 := Tryz.zeroValue3
  t4 := Tryz.underlying4
  a4 := Tryz.isAgg4
  z4 := Tryz.sizeOf4
  v4 := Tryz.zeroValue4
  t5 := Tryz.underlying5
  a5 := Tryz.isAgg5
  z5 := Tryz.sizeOf5
  v5 := Tryz.zeroValue5
  t9 := Tryz.underlying9
  a9 := Tryz.isAgg9
  z9 := Tryz.sizeOf9
  v9 := Tryz.zeroValue9
  t26 := Tryz.underlying26
  a26 := Tryz.isAgg26
  z26 := Tryz.sizeOf26
  v26 := Tryz.zeroValue26
  t27 := Tryz.underlying26
  a27 := Tryz.isAgg26
  z27 := Tryz.sizeOf26
  v27 := Tryz.zeroValue26
  t29 := Tryz.underlying9
  a29 := Tryz.isAgg9
  z29 := Tryz.sizeOf9
  v29 := Tryz.zeroValue9
  t32 := Tryz.underlying141
  a32 := Tryz.isAgg141
  z32 := Tryz.sizeOf141
  v32 := Tryz.zeroValue141
  t35 := Tryz.underlying157
  a35 := Tryz.isAgg157
  z35 := Tryz.sizeOf157
  v35 := Tryz.zeroValue157
  t36 := Tryz.underlying158
  a36 := Tryz.isAgg158
  z36 := Tryz.sizeOf158
  v36 := Tryz.zeroValue158
  t41 := Tryz.underlying162
  a41 := Tryz.isAgg162
  z41 := Tryz.sizeOf162
  v41 := Tryz.zeroValue162
  t44 := Tryz.underlying165
  a44 := Tryz.isAgg165
  z44 := Tryz.sizeOf165
  v44 := Tryz.zeroValue165
  t46 := Tryz.underlying167
  a46 := Tryz.isAgg167
  z46 := Tryz.sizeOf167
  v46 := Tryz.zeroValue167
  t53 := Tryz.underlying174
  a53 := Tryz.isAgg174
  z53 := Tryz.sizeOf174
  v53 := Tryz.zeroValue174
  t57 := Tryz.underlying178
  a57 := Tryz.isAgg178
  z57 := Tryz.sizeOf178
  v57 := Tryz.zeroValue178
  t63 := Tryz.underlying180
  a63 := Tryz.isAgg180
  z63 := Tryz.sizeOf180
  v63 := Tryz.zeroValue180
  t64 := Tryz.underlying47
  a64 := Tryz.isAgg47
  z64 := Tryz.sizeOf47
  v64 := Tryz.zeroValue47


/-- slices.Sort's two contracts at this program. -/
theorem Tryz.sortsK (m : Nat) : AnyZ.SortsIn Tryz.prog Tryz.renS Fence.wide m :=
  ⟨fun blk off cap ss W hH hblk hsz => callsIn_wide.2 (AnyM.slices_Sort_string Tryz.lay_renT blk off cap ss W hH hblk hsz),
   fun p cap W => callsIn_wide.2 (AnyM.slices_Sort_string_none Tryz.lay_renT p cap W)⟩

theorem keysOf_any (mb : Option Nat) (W : World) : CallsIn Fence.wide 5 Tryz.prog 69 #[.map mb] W fun e w' => e = .returned (.func (.func 87) #[] #[.pointer (some ⟨W.heap.size, 0, none⟩)]) ∧ w' = W.alloc (.cells #[.map mb] 75) :=
  AnyZ.keys_in Tryz.lay_renK Fence.wide 5 trivial rfl mb W

set_option maxHeartbeats 1000000 in
theorem sortedOf_any (b nn : Nat) (D0 : DataW Unit) (w : World) (hown : w.ownsMap Tryz.prog 9 elR b nn D0) (hmax : Maps.size D0 ≤ maxLen) (hbytes : Maps.size D0 * 16 ≤ 140737488355328) :
    CallsIn Fence.wide 5 Tryz.prog 68 #[.func (.func 87) #[] #[.pointer (some ⟨w.heap.size, 0, none⟩)]] (w.alloc (.cells #[.map (some b)] 75)) fun e w' => ∃ (v : Value) (ss : List (List UInt8)), e = .returned v ∧ ss.Perm (strKeys D0) ∧
      w'.ownsRow (w.alloc (.cells #[.map (some b)] 75)).heap.size 9 1 v ss.length ((ss.mergeSort (fun x y => decide (x ≤ y))).map encStr) ∧ (v = .slice none 0 0 ↔ ss = []) ∧ Below (w.alloc (.cells #[.map (some b)] 75)).heap.size (w.alloc (.cells #[.map (some b)] 75)) w' := by
  have hbl := hown.lt
  have hseq : SeqGives Fence.wide 2 Tryz.prog 87 #[.pointer (some ⟨w.heap.size, 0, none⟩)] encStr (fun ss => ss.Perm (strKeys D0)) (Maps.size D0) (w.alloc (.cells #[.map (some b)] 75)) :=
    AnyZ.keys_gives (ρ := Tryz.renK) { Tryz.lay_renK with } Fence.wide _ trivial rfl (by omega) w.heap.size b nn D0 _ (by simp) (by simp) (by
      obtain ⟨es, clock, hb, Ft, hs, hD⟩ := hown
      exact ⟨es, clock, (Below.heap_alloc _ _ b hbl).trans hb, Ft, hs, hD⟩)
  exact AnyZ.sorted_in Tryz.lay_renS Fence.wide 5 trivial trivial trivial trivial rfl (by omega) (Tryz.sortsK _) (enters_of Tryz.func86 (by kernel_rfl) rfl) 87 #[.pointer (some ⟨w.heap.size, 0, none⟩)] trivial (enters_of Tryz.func87 (by kernel_rfl) rfl) _ _ hmax hbytes _ hseq

set_option maxHeartbeats 1000000 in
theorem sortedNil_any (w : World) :
    CallsIn Fence.wide 5 Tryz.prog 68 #[.func (.func 87) #[] #[.pointer (some ⟨w.heap.size, 0, none⟩)]] (w.alloc (.cells #[.map none] 75)) fun e w' => ∃ (v : Value) (ss : List (List UInt8)), e = .returned v ∧ ss = [] ∧
      w'.ownsRow (w.alloc (.cells #[.map none] 75)).heap.size 9 1 v ss.length ((ss.mergeSort (fun x y => decide (x ≤ y))).map encStr) ∧ (v = .slice none 0 0 ↔ ss = []) ∧ Below (w.alloc (.cells #[.map none] 75)).heap.size (w.alloc (.cells #[.map none] 75)) w' := by
  have hseq : SeqGives Fence.wide 2 Tryz.prog 87 #[.pointer (some ⟨w.heap.size, 0, none⟩)] encStr (fun ss : List (List UInt8) => ss = []) 0 (w.alloc (.cells #[.map none] 75)) :=
    AnyZ.keys_gives_nil (ρ := Tryz.renK) { Tryz.lay_renK with } Fence.wide _ trivial rfl w.heap.size _ (by simp) (by simp)
  exact AnyZ.sorted_in Tryz.lay_renS Fence.wide 5 trivial trivial trivial trivial rfl (by omega) (Tryz.sortsK _) (enters_of Tryz.func86 (by kernel_rfl) rfl) 87 #[.pointer (some ⟨w.heap.size, 0, none⟩)] trivial (enters_of Tryz.func87 (by kernel_rfl) rfl) _ 0 (Nat.zero_le _) (by omega) _ hseq

/-- A node, by what its field holds. -/
abbrev NodeAt (w : World) (i : Nat) (m : Option Nat) : Prop := Boxed w i 77 (.map m)

theorem own_low {w : World} {base base' e n : Nat} {v : Value} {xs : List Value} (h : w.ownsRow base e 1 v n xs) (hb : base' ≤ base) : w.ownsRow base' e 1 v n xs := by
  refine ⟨h.1, ?_⟩
  rcases h.2 with h0 | ⟨b, cap, cur, h1, h2, h3⟩
  · exact .inl h0
  · exact .inr ⟨b, cap, cur, h1, Nat.le_trans hb h2, h3⟩

set_option maxHeartbeats 1000000 in
theorem rising_dir (w : World) (i b : Nat) (f : List UInt8 → Option Nat) (hB : NodeAt w i (some b)) (hM : MapIs w b f) (ks : List (List UInt8)) (hnd : ks.Nodup) (hm : ∀ k, k ∈ ks ↔ (f k).isSome = true) (hl : ks.length ≤ 1000) :
    Calls Tryz.prog 40 #[ptr i] w fun e w' => ∃ v, e = .returned v ∧ w'.ownsRow w.heap.size 9 1 v ks.length (cellsS (ks.mergeSort fun x y => decide (x ≤ y))) ∧ Below w.heap.size w w' := by
  obtain ⟨D, hD, hk⟩ := hM
  obtain ⟨hp, hsz⟩ := own_keys hD (fun k => (hk k).1) hnd hm
  refine (callsIn_wide (n := 6)).1 ?_
  have cK := keysOf_any
  have HS : Hid _ := fun (_ : Nat) => sortedOf_any b _ D w hD (by rw [hsz]; unfold maxLen; omega) (by rw [hsz]; omega)
  have hfK : Fence.wide.fn 69 := trivial
  have hfS : Fence.wide.fn 68 := trivial
  have hc := hB.cell
  unfold ptr
  clear hB
  refine callsIn_of_wp Tryz.func40 rfl trivial ?_ rfl
  simp only [Tryz.ntmps40, List.size_toArray, List.length_cons, List.length_nil, Nat.reduceAdd, Nat.reduceSub, Array.replicate_succ, Array.replicate_zero, List.push_toArray, List.append_toArray, List.nil_append, List.cons_append]
  gi_wp2_with (first
    | (gi_at_call 69; refine (cK _ _).mono ?_; rintro e w' ⟨rfl, rfl⟩)
    | (gi_at_call 68; refine (HS.out 0).mono ?_; rintro e w' ⟨v, ss, rfl, hss, hrow, hnil, hb⟩))
  go_ret
  refine ⟨v, rfl, ?_, ((Below.refl _ w).alloc (Nat.le_refl _) _).trans (hb.mono (by simp))⟩
  have e1 := hss.trans hp.symm
  have e2 := mergeSort_of_perm e1
  rw [e1.length_eq] at hrow
  rw [show (ss.mergeSort fun x y => decide (x ≤ y)) = ks.mergeSort fun x y => decide (x ≤ y) from e2] at hrow
  exact own_low hrow (by simp)

set_option maxHeartbeats 1000000 in
theorem rising_file (w : World) (i : Nat) (hB : NodeAt w i none) :
    Calls Tryz.prog 40 #[ptr i] w fun e w' => ∃ v, e = .returned v ∧ w'.ownsRow w.heap.size 9 1 v 0 (cellsS []) ∧ Below w.heap.size w w' := by
  refine (callsIn_wide (n := 6)).1 ?_
  have cK := keysOf_any
  have HS : Hid _ := fun (_ : Nat) => sortedNil_any w
  have hfK : Fence.wide.fn 69 := trivial
  have hfS : Fence.wide.fn 68 := trivial
  have hc := hB.cell
  unfold ptr
  clear hB
  refine callsIn_of_wp Tryz.func40 rfl trivial ?_ rfl
  simp only [Tryz.ntmps40, List.size_toArray, List.length_cons, List.length_nil, Nat.reduceAdd, Nat.reduceSub, Array.replicate_succ, Array.replicate_zero, List.push_toArray, List.append_toArray, List.nil_append, List.cons_append]
  gi_wp2_with (first
    | (gi_at_call 69; refine (cK _ _).mono ?_; rintro e w' ⟨rfl, rfl⟩)
    | (gi_at_call 68; refine (HS.out 0).mono ?_; rintro e w' ⟨v, ss, rfl, rfl, hrow, hnil, hb⟩))
  go_ret
  rw [show ([] : List (List UInt8)).mergeSort (fun x y => decide (x ≤ y)) = [] by simp] at hrow
  exact ⟨v, rfl, own_low (base := (w.alloc _).heap.size) hrow (by simp), ((Below.refl _ w).alloc (Nat.le_refl _) _).trans (hb.mono (by simp))⟩

end Go.Proofs.YtdlmkienogimgaaGreatDoor

namespace Go.Proofs.YtdlmkienogimgaaGreatDoor
open Go.RowKit Go.Deep Go.Shelf Go.Maps

/-- A tree in memory. -/
structure TreeAt (w : World) (base t : Nat) (L : List Ent) (M : Nat → Option Nat) : Prop where
  good : Good L M
  low : base ≤ t
  tree : ∀ r, ([], r) ∈ L → Boxed w t 61 (ptr r)
  node : ∀ p i, (p, i) ∈ L → NodeAt w i (M i) ∧ base ≤ i
  maps : ∀ p i m, (p, i) ∈ L → M i = some m → MapIs w m (fun k => look L (p ++ [k])) ∧ base ≤ m
  apart : ∀ p i q j m, (p, i) ∈ L → (q, j) ∈ L → M i = some m → M j = some m → i = j

/-- Its blocks. -/
def Fp (t : Nat) (L : List Ent) (M : Nat → Option Nat) (b : Nat) : Prop := b = t ∨ ∃ p i, (p, i) ∈ L ∧ (b = i ∨ M i = some b)

theorem TreeAt.frame {w w' : World} {base t : Nat} {L : List Ent} {M : Nat → Option Nat} (h : TreeAt w base t L M) (hs : ∀ b, Fp t L M b → w'.heap[b]? = w.heap[b]?) : TreeAt w' base t L M :=
  ⟨h.good, h.low, fun r hr => (hs t (.inl rfl)).trans (h.tree r hr), fun p i hi => ⟨(hs i (.inr ⟨p, i, hi, .inl rfl⟩)).trans (h.node p i hi).1, (h.node p i hi).2⟩,
    fun p i m hi hm => ⟨(h.maps p i m hi hm).1.block (hs m (.inr ⟨p, i, hi, .inr hm⟩)), (h.maps p i m hi hm).2⟩, h.apart⟩
theorem TreeAt.fp {w : World} {base t : Nat} {L : List Ent} {M : Nat → Option Nat} (h : TreeAt w base t L M) {b : Nat} (hb : Fp t L M b) : base ≤ b ∧ b < w.heap.size := by
  rcases hb with rfl | ⟨p, i, hi, rfl | hm⟩
  · obtain ⟨r, hr, _⟩ := h.good.start
    exact ⟨h.low, (h.tree r hr).lt⟩
  · exact ⟨(h.node p _ hi).2, (h.node p _ hi).1.lt⟩
  · exact ⟨(h.maps p i b hi hm).2, (h.maps p i b hi hm).1.lt⟩
theorem TreeAt.later {w w' : World} {base t : Nat} {L : List Ent} {M : Nat → Option Nat} (h : TreeAt w base t L M) (hb : Below w.heap.size w w') : TreeAt w' base t L M :=
  h.frame fun b hF => hb.block b (h.fp hF).2

/-- What is at a path, name by name: what is wrong, and the thing. -/
def fo (L : List Ent) (M : Nat → Option Nat) : List (List UInt8) → Nat → List (List UInt8) → Nat × Option Nat
  | _, i, [] => (0, some i)
  | p, i, k :: ks => match M i with
    | none => (3, none)
    | some _ => match look L (p ++ [k]) with
      | none => (5, none)
      | some j => fo L M (p ++ [k]) j ks
def rootOf (L : List Ent) : Nat := (look L []).getD 0
def atF (L : List Ent) (M : Nat → Option Nat) (ns : List (List UInt8)) : Nat × Option Nat := fo L M [] (rootOf L) ns

theorem fo_file {L : List Ent} {M : Nat → Option Nat} {p : List (List UInt8)} {i : Nat} {k : List UInt8} {ks : List (List UInt8)} (h : M i = none) : fo L M p i (k :: ks) = (3, none) := by
  rw [fo, h]
theorem fo_none {L : List Ent} {M : Nat → Option Nat} {p : List (List UInt8)} {i m : Nat} {k : List UInt8} {ks : List (List UInt8)} (h : M i = some m) (hl : look L (p ++ [k]) = none) : fo L M p i (k :: ks) = (5, none) := by
  rw [fo, h, hl]
theorem fo_some {L : List Ent} {M : Nat → Option Nat} {p : List (List UInt8)} {i m j : Nat} {k : List UInt8} {ks : List (List UInt8)} (h : M i = some m) (hl : look L (p ++ [k]) = some j) : fo L M p i (k :: ks) = fo L M (p ++ [k]) j ks := by
  rw [fo, h, hl]

theorem root_look {L : List Ent} {M : Nat → Option Nat} (h : Good L M) : look L [] = some (rootOf L) := by
  obtain ⟨r, hr, _⟩ := h.start
  unfold rootOf
  rw [h.uni.look.2 hr]; rfl

theorem neq_file (w : World) : (binOp .neq 75 (.map none) (.map none)).run Tryz.prog w = .ok (.bool false) w := by kernel_rfl
theorem neq_dir (w : World) (b : Nat) : (binOp .neq 75 (.map (some b)) (.map none)).run Tryz.prog w = .ok (.bool true) w := by kernel_rfl

set_option maxRecDepth 100000 in
theorem isDir_any (w : World) (i : Nat) (m : Option Nat) (h : NodeAt w i m) :
    Calls Tryz.prog 33 #[ptr i] w fun e w' => e = .returned (.bool m.isSome) ∧ w = w' := by
  have hc := h.cell
  unfold ptr
  clear h
  cases m with
  | none =>
    have h1 := neq_file w
    go_enter Tryz.func33, Tryz.ntmps33
    go_wp2
    go_ret
    exact ⟨rfl, rfl⟩
  | some b =>
    have h1 := neq_dir w b
    go_enter Tryz.func33, Tryz.ntmps33
    go_wp2
    go_ret
    exact ⟨rfl, rfl⟩

theorem bs_short {k : List UInt8} (h : k.length ≤ 1000) : (bs k).size ≤ maxLen := by
  rw [Lib.size_eq, data_bs]; unfold maxLen; omega

set_option maxHeartbeats 4000000 in
theorem follow_any (w : World) (base t : Nat) (L : List Ent) (M : Nat → Option Nat) (h : TreeAt w base t L M) (v : Value) (ns : List (List UInt8)) (hv : StrsIs w v ns) (hn : ∀ k ∈ ns, k.length ≤ 1000) :
    Calls Tryz.prog 67 #[ptr t, v] w fun e w' => e = .returned (.tuple #[valO (atF L M ns).2, errV (atF L M ns).1]) ∧ w = w' := by
  obtain ⟨a, c, b, o, rfl, hl, hm, ha, hc⟩ := hv.where
  have HT : Hid (TreeAt w base t L M) := h
  have HN : Hid (∀ k ∈ ns, k.length ≤ 1000) := hn
  have HA : Hid (0 < ns.length → a = some ⟨b, o, none⟩ ∧ b < w.heap.size) := ha
  have HC : Hid (∀ i, i < ns.length → w.cell? ⟨b, o + i, none⟩ = some (.string (bs (sth ns i)))) := hc
  have hr := root_look h.good
  have htc := (h.tree _ (look_mem hr)).cell
  have HR : Hid (look L [] = some (rootOf L)) := hr
  obtain ⟨R, hR⟩ : ∃ R, atF L M ns = R := ⟨_, rfl⟩
  have HF : Hid (fo L M [] (rootOf L) ns = R) := hR
  rw [hR]
  unfold maxLen at hm
  unfold ptr at htc ⊢
  generalize rootOf L = r at *
  clear hR hr h hv hn ha hc hl
  go_enter Tryz.func67, Tryz.ntmps67
  go_wp2
  go_loop [6, 8, 9, 10, 17] (fun now _ _ _ q => ∃ (k : Nat) (i : Nat), k ≤ ns.length ∧ q = .int .i64 k ∧ now = .pointer (some ⟨i, 0, none⟩) ∧ Hid (look L (ns.take k) = some i) ∧ Hid (fo L M (ns.take k) i (ns.drop k) = R)) (fun _ _ _ _ q => ns.length - (intOf q).toNat)
  case atStart => exact ⟨0, r, Nat.zero_le _, rfl, rfl, HR, HF⟩
  case round =>
    obtain ⟨k, i, hk, rfl, rfl, HL, HO⟩ := hrel
    by_cases hlt : k < ns.length
    · have hck := HC.out k hlt
      obtain ⟨haa, _⟩ := HA.out (by omega)
      subst haa
      obtain ⟨hnode, _⟩ := HT.out.node _ _ (look_mem HL.out)
      have HD : Hid _ := fun (_ : Nat) => isDir_any w i (M i) hnode
      unfold ptr at HD
      have hdr : ns.drop k = sth ns k :: ns.drop (k + 1) := by rw [sth_lt hlt]; exact List.drop_eq_getElem_cons hlt
      have htk : ns.take (k + 1) = ns.take k ++ [sth ns k] := by rw [sth_lt hlt]; exact (List.take_succ_eq_append_getElem hlt)
      have hsl : (bs (sth ns k)).size ≤ maxLen := bs_short (HN.out _ (sth_mem hlt))
      have HO2 := HO.out
      rw [hdr] at HO2
      cases hM : M i with
      | none =>
        rw [fo_file hM] at HO2
        rw [hM] at HD
        subst HO2
        clear HL HO hM htk hdr hnode hsl
        go_wp2_with (go_at_call 33; refine (HD.out 0).mono ?_; rintro e w' ⟨rfl, rfl⟩)
        go_ret2
        exact ⟨rfl, rfl⟩
      | some m =>
        have hnc := hnode.cell
        rw [hM] at HD hnc
        obtain ⟨hmap, _⟩ := HT.out.maps _ _ _ (look_mem HL.out) hM
        have hlk := hmap.look hsl
        simp only [data_bs] at hlk
        obtain ⟨s, hs⟩ : ∃ s, bs (sth ns k) = s := ⟨_, rfl⟩
        rw [hs] at hck hlk
        cases hj : look L (ns.take k ++ [sth ns k]) with
        | none =>
          rw [fo_none hM hj] at HO2
          rw [hj] at hlk
          subst HO2
          clear HL HO hM htk hdr hnode hsl hj hs hmap
          go_wp2_with (go_at_call 33; refine (HD.out 0).mono ?_; rintro e w' ⟨rfl, rfl⟩)
          go_ret2
          exact ⟨rfl, rfl⟩
        | some j =>
          rw [fo_some hM hj] at HO2
          rw [hj] at hlk
          have HL2 : Hid (look L (ns.take (k + 1)) = some j) := by rw [htk]; exact hj
          have HO3 : Hid (fo L M (ns.take (k + 1)) j (ns.drop (k + 1)) = R) := by rw [htk]; exact HO2
          clear HL HO hM htk hdr hnode hsl hj hs hmap HO2
          go_wp2_with (go_at_call 33; refine (HD.out 0).mono ?_; rintro e w' ⟨rfl, rfl⟩)
          go_round
          case rel => exact ⟨k + 1, j, by omega, by go_num, rfl, HL2, HO3⟩
          case measure => simp [intOf]; omega
    · have hkn : k = ns.length := by omega
      subst hkn
      have HO2 := HO.out
      rw [List.drop_length, fo] at HO2
      subst HO2
      go_wp2
      go_ret2
      exact ⟨rfl, rfl⟩

end Go.Proofs.YtdlmkienogimgaaGreatDoor
