/- This text says what it means that a tree of directories lies in memory, and proves what isDir and follow answer: what is at a path, or what is wrong; nothing is written; the condition is that the tree lies there. -/
import Derived.Test.YtdlmkienogimgaaGreatDoorT2
namespace Go.Proofs.YtdlmkienogimgaaGreatDoor
open Go.RowKit Go.Deep Go.Shelf Go.Maps

/-- A tree in memory. -/
structure TreeAt (w : World) (base t : Nat) (L : List Ent) (M : Nat → Option Nat) : Prop where
  good : Good L M
  low : base ≤ t
  tree : ∀ r, ([], r) ∈ L → Boxed w t 61 (ptr r)
  node : ∀ p i, (p, i) ∈ L → NodeAt w i (M i) ∧ base ≤ i
  maps : ∀ p i m, (p, i) ∈ L → M i = some m → MapIs w m (fun k => look L (p ++ [k])) ∧ base ≤ m
  apart : ∀ p i q j m, (p, i) ∈ L → (q, j) ∈ L → M i = some m → M j = some m → i = j

/-- Its blocks. -/
def Fp (t : Nat) (L : List Ent) (M : Nat → Option Nat) (b : Nat) : Prop := b = t ∨ ∃ p i, (p, i) ∈ L ∧ (b = i ∨ M i = some b)

theorem TreeAt.frame {w w' : World} {base t : Nat} {L : List Ent} {M : Nat → Option Nat} (h : TreeAt w base t L M) (hs : ∀ b, Fp t L M b → w'.heap[b]? = w.heap[b]?) : TreeAt w' base t L M :=
  ⟨h.good, h.low, fun r hr => (hs t (.inl rfl)).trans (h.tree r hr), fun p i hi => ⟨(hs i (.inr ⟨p, i, hi, .inl rfl⟩)).trans (h.node p i hi).1, (h.node p i hi).2⟩,
    fun p i m hi hm => ⟨(h.maps p i m hi hm).1.block (hs m (.inr ⟨p, i, hi, .inr hm⟩)), (h.maps p i m hi hm).2⟩, h.apart⟩
theorem TreeAt.fp {w : World} {base t : Nat} {L : List Ent} {M : Nat → Option Nat} (h : TreeAt w base t L M) {b : Nat} (hb : Fp t L M b) : base ≤ b ∧ b < w.heap.size := by
  rcases hb with rfl | ⟨p, i, hi, rfl | hm⟩
  · obtain ⟨r, hr, _⟩ := h.good.start
    exact ⟨h.low, (h.tree r hr).lt⟩
  · exact ⟨(h.node p _ hi).2, (h.node p _ hi).1.lt⟩
  · exact ⟨(h.maps p i b hi hm).2, (h.maps p i b hi hm).1.lt⟩
theorem TreeAt.later {w w' : World} {base t : Nat} {L : List Ent} {M : Nat → Option Nat} (h : TreeAt w base t L M) (hb : Below w.heap.size w w') : TreeAt w' base t L M :=
  h.frame fun b hF => hb.block b (h.fp hF).2

/-- What is at a path, name by name: what is wrong, and the thing. -/
def fo (L : List Ent) (M : Nat → Option Nat) : List (List UInt8) → Nat → List (List UInt8) → Nat × Option Nat
  | _, i, [] => (0, some i)
  | p, i, k :: ks => match M i with
    | none => (3, none)
    | some _ => match look L (p ++ [k]) with
      | none => (5, none)
      | some j => fo L M (p ++ [k]) j ks
def rootOf (L : List Ent) : Nat := (look L []).getD 0
def atF (L : List Ent) (M : Nat → Option Nat) (ns : List (List UInt8)) : Nat × Option Nat := fo L M [] (rootOf L) ns

theorem fo_file {L : List Ent} {M : Nat → Option Nat} {p : List (List UInt8)} {i : Nat} {k : List UInt8} {ks : List (List UInt8)} (h : M i = none) : fo L M p i (k :: ks) = (3, none) := by
  rw [fo, h]
theorem fo_none {L : List Ent} {M : Nat → Option Nat} {p : List (List UInt8)} {i m : Nat} {k : List UInt8} {ks : List (List UInt8)} (h : M i = some m) (hl : look L (p ++ [k]) = none) : fo L M p i (k :: ks) = (5, none) := by
  rw [fo, h, hl]
theorem fo_some {L : List Ent} {M : Nat → Option Nat} {p : List (List UInt8)} {i m j : Nat} {k : List UInt8} {ks : List (List UInt8)} (h : M i = some m) (hl : look L (p ++ [k]) = some j) : fo L M p i (k :: ks) = fo L M (p ++ [k]) j ks := by
  rw [fo, h, hl]

theorem root_look {L : List Ent} {M : Nat → Option Nat} (h : Good L M) : look L [] = some (rootOf L) := by
  obtain ⟨r, hr, _⟩ := h.start
  unfold rootOf
  rw [h.uni.look.2 hr]; rfl

theorem neq_file (w : World) : (binOp .neq 75 (.map none) (.map none)).run Tryz.prog w = .ok (.bool false) w := by kernel_rfl
theorem neq_dir (w : World) (b : Nat) : (binOp .neq 75 (.map (some b)) (.map none)).run Tryz.prog w = .ok (.bool true) w := by kernel_rfl

set_option maxRecDepth 100000 in
theorem isDir_any (w : World) (i : Nat) (m : Option Nat) (h : NodeAt w i m) :
    Calls Tryz.prog 33 #[ptr i] w fun e w' => e = .returned (.bool m.isSome) ∧ w = w' := by
  have hc := h.cell
  unfold ptr
  clear h
  cases m with
  | none =>
    have h1 := neq_file w
    go_enter Tryz.func33, Tryz.ntmps33
    go_wp2
    go_ret
    exact ⟨rfl, rfl⟩
  | some b =>
    have h1 := neq_dir w b
    go_enter Tryz.func33, Tryz.ntmps33
    go_wp2
    go_ret
    exact ⟨rfl, rfl⟩

theorem bs_short {k : List UInt8} (h : k.length ≤ 1000) : (bs k).size ≤ maxLen := by
  rw [Lib.size_eq, data_bs]; unfold maxLen; omega

set_option maxHeartbeats 4000000 in
theorem follow_any (w : World) (base t : Nat) (L : List Ent) (M : Nat → Option Nat) (h : TreeAt w base t L M) (v : Value) (ns : List (List UInt8)) (hv : StrsIs w v ns) (hn : ∀ k ∈ ns, k.length ≤ 1000) :
    Calls Tryz.prog 67 #[ptr t, v] w fun e w' => e = .returned (.tuple #[valO (atF L M ns).2, errV (atF L M ns).1]) ∧ w = w' := by
  obtain ⟨a, c, b, o, rfl, hl, hm, ha, hc⟩ := hv.where
  have HT : Hid (TreeAt w base t L M) := h
  have HN : Hid (∀ k ∈ ns, k.length ≤ 1000) := hn
  have HA : Hid (0 < ns.length → a = some ⟨b, o, none⟩ ∧ b < w.heap.size) := ha
  have HC : Hid (∀ i, i < ns.length → w.cell? ⟨b, o + i, none⟩ = some (.string (bs (sth ns i)))) := hc
  have hr := root_look h.good
  have htc := (h.tree _ (look_mem hr)).cell
  have HR : Hid (look L [] = some (rootOf L)) := hr
  obtain ⟨R, hR⟩ : ∃ R, atF L M ns = R := ⟨_, rfl⟩
  have HF : Hid (fo L M [] (rootOf L) ns = R) := hR
  rw [hR]
  unfold maxLen at hm
  unfold ptr at htc ⊢
  generalize rootOf L = r at *
  clear hR hr h hv hn ha hc hl
  go_enter Tryz.func67, Tryz.ntmps67
  go_wp2
  go_loop [6, 8, 9, 10, 17] (fun now _ _ _ q => ∃ (k : Nat) (i : Nat), k ≤ ns.length ∧ q = .int .i64 k ∧ now = .pointer (some ⟨i, 0, none⟩) ∧ Hid (look L (ns.take k) = some i) ∧ Hid (fo L M (ns.take k) i (ns.drop k) = R)) (fun _ _ _ _ q => ns.length - (intOf q).toNat)
  case atStart => exact ⟨0, r, Nat.zero_le _, rfl, rfl, HR, HF⟩
  case round =>
    obtain ⟨k, i, hk, rfl, rfl, HL, HO⟩ := hrel
    by_cases hlt : k < ns.length
    · have hck := HC.out k hlt
      obtain ⟨haa, _⟩ := HA.out (by omega)
      subst haa
      obtain ⟨hnode, _⟩ := HT.out.node _ _ (look_mem HL.out)
      have HD : Hid _ := fun (_ : Nat) => isDir_any w i (M i) hnode
      unfold ptr at HD
      have hdr : ns.drop k = sth ns k :: ns.drop (k + 1) := by rw [sth_lt hlt]; exact List.drop_eq_getElem_cons hlt
      have htk : ns.take (k + 1) = ns.take k ++ [sth ns k] := by rw [sth_lt hlt]; exact (List.take_succ_eq_append_getElem hlt)
      have hsl : (bs (sth ns k)).size ≤ maxLen := bs_short (HN.out _ (sth_mem hlt))
      have HO2 := HO.out
      rw [hdr] at HO2
      cases hM : M i with
      | none =>
        rw [fo_file hM] at HO2
        rw [hM] at HD
        subst HO2
        clear HL HO hM htk hdr hnode hsl
        go_wp2_with (go_at_call 33; refine (HD.out 0).mono ?_; rintro e w' ⟨rfl, rfl⟩)
        go_ret2
        exact ⟨rfl, rfl⟩
      | some m =>
        have hnc := hnode.cell
        rw [hM] at HD hnc
        obtain ⟨hmap, _⟩ := HT.out.maps _ _ _ (look_mem HL.out) hM
        have hlk := hmap.look hsl
        simp only [data_bs] at hlk
        obtain ⟨s, hs⟩ : ∃ s, bs (sth ns k) = s := ⟨_, rfl⟩
        rw [hs] at hck hlk
        cases hj : look L (ns.take k ++ [sth ns k]) with
        | none =>
          rw [fo_none hM hj] at HO2
          rw [hj] at hlk
          subst HO2
          clear HL HO hM htk hdr hnode hsl hj hs hmap
          go_wp2_with (go_at_call 33; refine (HD.out 0).mono ?_; rintro e w' ⟨rfl, rfl⟩)
          go_ret2
          exact ⟨rfl, rfl⟩
        | some j =>
          rw [fo_some hM hj] at HO2
          rw [hj] at hlk
          have HL2 : Hid (look L (ns.take (k + 1)) = some j) := by rw [htk]; exact hj
          have HO3 : Hid (fo L M (ns.take (k + 1)) j (ns.drop (k + 1)) = R) := by rw [htk]; exact HO2
          clear HL HO hM htk hdr hnode hsl hj hs hmap HO2
          go_wp2_with (go_at_call 33; refine (HD.out 0).mono ?_; rintro e w' ⟨rfl, rfl⟩)
          go_round
          case rel => exact ⟨k + 1, j, by omega, by go_num, rfl, HL2, HO3⟩
          case measure => simp [intOf]; omega
    · have hkn : k = ns.length := by omega
      subst hkn
      have HO2 := HO.out
      rw [List.drop_length, fo] at HO2
      subst HO2
      go_wp2
      go_ret2
      exact ⟨rfl, rfl⟩

end Go.Proofs.YtdlmkienogimgaaGreatDoor
