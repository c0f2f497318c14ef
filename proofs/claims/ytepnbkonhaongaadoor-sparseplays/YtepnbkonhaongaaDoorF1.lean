/- This text says what it means that a file's blocks lie in a map in memory, and proves what a look-up, a store and a deletion there are, and which keys it has; the condition is that the map lies there. -/
import Derived.Test.YtepnbkonhaongaaDoorLo
import Derived.Test.YtepnbkonhaongaaDoorF0
import Derived.Maps.OwnSet
import Derived.Maps.Ext
import Derived.Lib.SlKeysI
namespace Go.Proofs.YtepnbkonhaongaaDoor
open Go.RowKit Go.Deep Go.Maps

/-- Each element, four numbers, is told by itself. -/
def elT : Value → Option (DataW Value × List MemPlace)
  | .agg cs => match cs.toList with
    | [.int .i64 x, .int .i64 y, .int .i64 z, .int .i64 u] => some (.held (.agg #[.int .i64 x, .int .i64 y, .int .i64 z, .int .i64 u]), [])
    | _ => none
  | _ => none

theorem elT_form {v : Value} {d : DataW Value × List MemPlace} (h : elT v = some d) : ∃ q : Int × Int × Int × Int, v = .agg #[.int .i64 q.1, .int .i64 q.2.1, .int .i64 q.2.2.1, .int .i64 q.2.2.2] ∧ d = (.held v, []) := by
  unfold elT at h
  split at h
  · rename_i cs
    split at h
    · rename_i x y z u e
      cases h
      obtain ⟨l⟩ := cs
      have e2 : l = [.int .i64 x, .int .i64 y, .int .i64 z, .int .i64 u] := e
      subst e2
      exact ⟨(x, y, z, u), rfl, rfl⟩
    · cases h
  · cases h
theorem elT_inv {v u : Value} {ps : List MemPlace} (h : elT v = some (.held u, ps)) : v = u := by
  obtain ⟨q, _, e⟩ := elT_form h
  cases e; rfl

/-- Four bytes of a file. -/
def quad (c : Nat → Int) (k : Nat) : Value := .agg #[.int .i64 (c (4 * k)), .int .i64 (c (4 * k + 1)), .int .i64 (c (4 * k + 2)), .int .i64 (c (4 * k + 3))]
def zeroQ : Value := .agg #[.int .i64 0, .int .i64 0, .int .i64 0, .int .i64 0]
def kyL (k : Nat) : Lit := .int .i64 (k : Int)
theorem kyL_ne {k j : Nat} (h : k ≠ j) : kyL k ≠ kyL j := fun e => h (by unfold kyL at e; cases e; rfl)
theorem keyed3 : Keyed Tryd.prog 3 := int_keyed Tryd.underlying3
theorem kyL_is {k : Nat} (h : k ≤ 1000) : WideAt.IsKeyLit (kyL k) := keyed3.key (keyOf_int_mk Tryd.underlying3 (q := .i64) (a := (k : Int)) (WalkArith.wf_i64 (by omega)))
theorem keyOf3 {k : Nat} (h : k ≤ 1000) : keyOf Tryd.prog 3 (.int .i64 (k : Int)) = some (kyL k) := keyOf_int_mk Tryd.underlying3 (WalkArith.wf_i64 (by omega))
theorem zeroB (w : World) : (zeroValue 61).run Tryd.prog w = .ok zeroQ w := by kernel_rfl

/-- The block is a map with these blocks of a file. -/
def MapIs (w : World) (b : Nat) (f : Fil) : Prop :=
  ∃ D : DataW Value, w.ownsMap Tryd.prog 3 elT b (Maps.size D) D ∧ (∀ kl, Maps.has D kl = true → ∃ k, k < 16 ∧ kl = kyL k) ∧ ∀ k, k ≤ 16 → Maps.has D (kyL k) = f.h k ∧ D.atKey (kyL k) (.held zeroQ) = .held (quad f.c k)

theorem own_size {w : World} {b n : Nat} {D : DataW Value} (h : w.ownsMap Tryd.prog 3 elT b n D) : w.ownsMap Tryd.prog 3 elT b (Maps.size D) D := by
  obtain ⟨es, clock, hb, F, hs, rfl⟩ := h
  exact ⟨es, clock, hb, F, by simp [Maps.size, length_sorted], rfl⟩
theorem MapIs.block {w w' : World} {b : Nat} {f : Fil} (h : MapIs w b f) (e : w'.heap[b]? = w.heap[b]?) : MapIs w' b f := by
  obtain ⟨D, ⟨es, c, hb, r⟩, hk⟩ := h
  exact ⟨D, ⟨es, c, e.trans hb, r⟩, hk⟩
theorem MapIs.lt {w : World} {b : Nat} {f : Fil} (h : MapIs w b f) : b < w.heap.size := by
  obtain ⟨D, h, _⟩ := h
  exact h.lt
theorem MapIs.map {w : World} {b : Nat} {f : Fil} (h : MapIs w b f) : ∃ es c, w.heap[b]? = some (.map es c) := by
  obtain ⟨D, ⟨es, c, hb, r⟩, hk⟩ := h
  exact ⟨es, c, hb⟩
theorem MapIs.alike {w : World} {b : Nat} {f g : Fil} (h : MapIs w b f) (hc : ∀ p, p < 68 → g.c p = f.c p) (hh : ∀ k, k ≤ 16 → g.h k = f.h k) : MapIs w b g := by
  obtain ⟨D, h1, h2, h3⟩ := h
  refine ⟨D, h1, h2, fun k hk => ?_⟩
  obtain ⟨g1, g2⟩ := h3 k hk
  refine ⟨g1.trans (hh k hk).symm, g2.trans ?_⟩
  unfold quad
  rw [hc (4 * k) (by omega), hc (4 * k + 1) (by omega), hc (4 * k + 2) (by omega), hc (4 * k + 3) (by omega)]
theorem MapIs.made (w : World) : MapIs (w.alloc (.map #[] 0)) w.heap.size fil0 :=
  ⟨.map [], World.ownsMap_made _ _ _ _, (fun kl h => by cases h), fun k _ => ⟨rfl, rfl⟩⟩

theorem MapIs.look {w : World} {b : Nat} {f : Fil} (h : MapIs w b f) {k : Nat} (hk : k ≤ 16) :
    (Instr.lookup 52 (.map (some b)) (.int .i64 (k : Int)) true).run Tryd.prog w = .ok (.tuple #[quad f.c k, .bool (f.h k)]) w := by
  obtain ⟨D, hD, _, hk3⟩ := h
  obtain ⟨v, ps, hrun, hv⟩ := hD.look_ok keyed3 Tryd.underlying52 (zeroB w) (show elT zeroQ = some (.held zeroQ, []) from rfl) (keyOf3 (by omega : k ≤ 1000))
  obtain ⟨h1, h2⟩ := hk3 k hk
  rw [h1] at hrun
  rw [h2] at hv
  rw [elT_inv hv] at hrun
  exact hrun
theorem MapIs.look1 {w : World} {b : Nat} {f : Fil} (h : MapIs w b f) {k : Nat} (hk : k ≤ 16) :
    (Instr.lookup 52 (.map (some b)) (.int .i64 (k : Int)) false).run Tryd.prog w = .ok (quad f.c k) w := by
  obtain ⟨D, hD, _, hk3⟩ := h
  obtain ⟨v, ps, hrun, hv⟩ := hD.lookup keyed3 Tryd.underlying52 (zeroB w) (show elT zeroQ = some (.held zeroQ, []) from rfl) (keyOf3 (by omega : k ≤ 1000))
  obtain ⟨h1, h2⟩ := hk3 k hk
  rw [h2] at hv
  rw [elT_inv hv] at hrun
  exact hrun

/-- Its keys. -/
theorem own_keys {w : World} {b n : Nat} {D : DataW Value} {f : Fil} (hw : Wel f) (hD : w.ownsMap Tryd.prog 3 elT b n D) (hl : ∀ kl, Maps.has D kl = true → ∃ k, k < 16 ∧ kl = kyL k) (hk : ∀ k, k ≤ 16 → Maps.has D (kyL k) = f.h k) :
    (blL f).Perm (intKeys D) ∧ Maps.size D = (blL f).length := by
  obtain ⟨es, rfl, hpw⟩ := hD.tidy keyed3
  have hkey : ∀ p ∈ es, ∃ k, k < 16 ∧ p.1 = kyL k := fun p hp => hl p.1 (List.any_eq_true.2 ⟨p, hp, by
    obtain ⟨es', he, hko⟩ := hD.keysOf
    cases he
    obtain ⟨v, hv⟩ := hko p hp
    exact WideAt.sameKey_self (keyed3.key hv)⟩)
  have hp : (blL f).Perm (intKeys (.map es)) := perm_intKeys hpw (fun p hp => by obtain ⟨k, _, e⟩ := hkey p hp; exact ⟨_, e⟩) (blL_nodup f) (fun x => by
    unfold blL
    rw [List.mem_map]
    constructor
    · rintro ⟨k, hk1, rfl⟩
      have h1 := (blN_mem hw k).1 hk1
      have h2 := hw.low k h1
      have h3 := hw.big
      exact (hk k (by omega)).trans h1
    · intro hx
      obtain ⟨k, hk1, e⟩ := hl _ hx
      unfold kyL at e
      cases e
      exact ⟨k, (blN_mem hw k).2 ((hk k (by omega)).symm.trans hx), rfl⟩)
  refine ⟨hp, ?_⟩
  rw [hp.length_eq]
  show es.length = (es.map fun p => intOf p.1).length
  rw [List.length_map]

theorem size_small {w : World} {b n : Nat} {D : DataW Value} (hD : w.ownsMap Tryd.prog 3 elT b n D) (hl : ∀ kl, Maps.has D kl = true → ∃ k, k < 16 ∧ kl = kyL k) : Maps.size D ≤ 16 := by
  have hw : Wel ⟨64, fun _ => 0, fun k => Maps.has D (kyL k) && decide (k < 16)⟩ := ⟨Nat.le_refl _, fun _ _ => rfl, fun _ _ => rfl, fun k h => by
    have h2 : (Maps.has D (kyL k) && decide (k < 16)) = true := h
    rw [Bool.and_eq_true, decide_eq_true_eq] at h2
    show 4 * k < 64
    omega⟩
  rw [(own_keys hw hD hl (fun k _ => by
    show _ = (Maps.has D (kyL k) && decide (k < 16))
    cases e : Maps.has D (kyL k)
    · rfl
    · obtain ⟨j, hj, ej⟩ := hl _ e
      by_cases ek : k = j
      · subst ek; rw [decide_eq_true hj]; rfl
      · exact absurd ej (kyL_ne ek))).2, blL_len]
  exact blN_le _

theorem MapIs.put {w : World} {b : Nat} {f : Fil} (h : MapIs w b f) {p : Nat} (hp : p < 64) (x : Int) :
    ∃ w', (Instr.mapUpdate 52 (.map (some b)) (.int .i64 ((p / 4 : Nat) : Int)) (quad (put1 f p x).c (p / 4))).run Tryd.prog w = .ok () w' ∧ MapIs w' b (put1 f p x) ∧ w.mapTurned w' b := by
  obtain ⟨D, hD, hl, hk⟩ := h
  have hsz := size_small hD hl
  obtain ⟨w', h1, h2, h3⟩ := hD.store keyed3 Tryd.underlying52 (by unfold maxLen; omega) (keyOf3 (by omega : p / 4 ≤ 1000)) (show elT (quad (put1 f p x).c (p / 4)) = some (.held (quad (put1 f p x).c (p / 4)), []) from rfl)
  refine ⟨w', h1, ⟨_, own_size h2, fun kl hkl => ?_, fun k hk16 => ?_⟩, h3⟩
  · by_cases e : kl = kyL (p / 4)
    · exact ⟨p / 4, by omega, e⟩
    · rw [has_put_other e] at hkl
      exact hl kl hkl
  · show Maps.has _ _ = (if k = p / 4 then true else f.h k) ∧ _
    by_cases e : k = p / 4
    · subst e
      rw [if_pos rfl]
      exact ⟨has_put_same hD.isMap (kyL_is (by omega)) _, atKey_put_same hD.isMap (kyL_is (by omega)) _ _⟩
    · rw [if_neg e, has_put_other (kyL_ne e), atKey_put_other (kyL_ne e)]
      obtain ⟨g1, g2⟩ := hk k hk16
      refine ⟨g1, g2.trans ?_⟩
      unfold quad put1
      dsimp only
      rw [if_neg (by omega), if_neg (by omega), if_neg (by omega), if_neg (by omega)]
end Go.Proofs.YtepnbkonhaongaaDoor
