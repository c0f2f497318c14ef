/- This text says what it means that a directory's map lies in memory, and proves what a look-up in it, a store, a deletion, its length and its keys in their order are; the conditions are that the map lies there, and that a key is no longer than texts can be. -/
import Derived.Test.YtdlmkienogimgaaGreatDoorMa1
import Derived.Test.YtdlmkienogimgaaGreatDoorQ6
import Derived.Maps.OwnSet
import Derived.Maps.Ext
import Derived.Sort.KeysCollected
namespace Go.Proofs.YtdlmkienogimgaaGreatDoor
open Go.RowKit Go.Deep Go.Shelf Go.Maps

/-- A pointer to the thing in a block. -/
def ptr (b : Nat) : Value := .pointer (some ⟨b, 0, none⟩)
/-- How an element of a directory's map reads. -/
def elR : Value → Option (DataW Unit × List MemPlace)
  | .pointer none => some (.nil, [])
  | .pointer (some ⟨b, 0, none⟩) => some (.lit (.int .i64 (b : Int)), [])
  | _ => none
def valO : Option Nat → Value
  | none => .pointer none
  | some j => ptr j
def datO : Option Nat → DataW Unit
  | none => .nil
  | some j => .lit (.int .i64 (j : Int))
theorem elR_nil : elR (.pointer none) = some (.nil, []) := rfl
theorem elR_ptr (b : Nat) : elR (ptr b) = some (.lit (.int .i64 (b : Int)), []) := rfl
theorem elR_inv {v : Value} {o : Option Nat} {ps : List MemPlace} (h : elR v = some (datO o, ps)) : v = valO o := by
  unfold elR at h
  split at h
  · cases o with
    | none => rfl
    | some j => simp [datO] at h
  · cases o with
    | none => simp [datO] at h
    | some j =>
      simp only [datO, Option.some.injEq, Prod.mk.injEq, DataW.lit.injEq, Lit.int.injEq, true_and] at h
      have : _ = j := Int.ofNat_inj.1 h.1
      rw [this]; rfl
  · cases h

/-- The block is a map with these names. -/
def MapIs (w : World) (b : Nat) (f : List UInt8 → Option Nat) : Prop :=
  ∃ D : DataW Unit, w.ownsMap Tryz.prog 9 elR b (Maps.size D) D ∧ ∀ k, Maps.has D (.string k) = (f k).isSome ∧ D.atKey (.string k) .nil = datO (f k)

theorem key9 : Keyed Tryz.prog 9 := string_keyed Tryz.underlying9
theorem keyOf9 {s : ByteArray} (hs : s.size ≤ maxLen) : keyOf Tryz.prog 9 (.string s) = some (.string s.data.toList) := WideMaps.keyOf_string_mk Tryz.underlying9 hs
theorem zeroNode (w : World) : (zeroValue 59).run Tryz.prog w = .ok (.pointer none) w := by kernel_rfl

theorem own_size {w : World} {b n : Nat} {D : DataW Unit} (h : w.ownsMap Tryz.prog 9 elR b n D) : w.ownsMap Tryz.prog 9 elR b (Maps.size D) D := by
  obtain ⟨es, clock, hb, F, hs, rfl⟩ := h
  exact ⟨es, clock, hb, F, by simp [Maps.size, length_sorted], rfl⟩

theorem MapIs.block {w w' : World} {b : Nat} {f : List UInt8 → Option Nat} (h : MapIs w b f) (e : w'.heap[b]? = w.heap[b]?) : MapIs w' b f := by
  obtain ⟨D, ⟨es, c, hb, r⟩, hk⟩ := h
  exact ⟨D, ⟨es, c, e.trans hb, r⟩, hk⟩
theorem MapIs.lt {w : World} {b : Nat} {f : List UInt8 → Option Nat} (h : MapIs w b f) : b < w.heap.size := by
  obtain ⟨D, h, _⟩ := h
  exact h.lt
theorem MapIs.map {w : World} {b : Nat} {f : List UInt8 → Option Nat} (h : MapIs w b f) : ∃ es c, w.heap[b]? = some (.map es c) := by
  obtain ⟨D, ⟨es, c, hb, r⟩, hk⟩ := h
  exact ⟨es, c, hb⟩
theorem MapIs.made (w : World) : MapIs (w.alloc (.map #[] 0)) w.heap.size (fun _ => none) :=
  ⟨.map [], World.ownsMap_made _ _ _ _, fun _ => ⟨rfl, rfl⟩⟩

theorem MapIs.look {w : World} {b : Nat} {f : List UInt8 → Option Nat} (h : MapIs w b f) {s : ByteArray} (hs : s.size ≤ maxLen) :
    (Instr.lookup 75 (.map (some b)) (.string s) true).run Tryz.prog w = .ok (.tuple #[valO (f s.data.toList), .bool (f s.data.toList).isSome]) w := by
  obtain ⟨D, hD, hk⟩ := h
  obtain ⟨v, ps, hrun, hv⟩ := hD.look_ok key9 Tryz.underlying75 (zeroNode w) elR_nil (keyOf9 hs)
  obtain ⟨h1, h2⟩ := hk s.data.toList
  rw [h1] at hrun
  rw [h2] at hv
  rw [elR_inv hv] at hrun
  exact hrun
theorem MapIs.look1 {w : World} {b : Nat} {f : List UInt8 → Option Nat} (h : MapIs w b f) {s : ByteArray} (hs : s.size ≤ maxLen) :
    (Instr.lookup 75 (.map (some b)) (.string s) false).run Tryz.prog w = .ok (valO (f s.data.toList)) w := by
  obtain ⟨D, hD, hk⟩ := h
  obtain ⟨v, ps, hrun, hv⟩ := hD.lookup key9 Tryz.underlying75 (zeroNode w) elR_nil (keyOf9 hs)
  obtain ⟨h1, h2⟩ := hk s.data.toList
  rw [h2] at hv
  rw [elR_inv hv] at hrun
  exact hrun

/-- Its keys. -/
theorem own_keys {w : World} {b n : Nat} {D : DataW Unit} {f : List UInt8 → Option Nat} (hD : w.ownsMap Tryz.prog 9 elR b n D) (hk : ∀ k, Maps.has D (.string k) = (f k).isSome) {ks : List (List UInt8)} (hnd : ks.Nodup) (hm : ∀ k, k ∈ ks ↔ (f k).isSome = true) :
    ks.Perm (strKeys D) ∧ Maps.size D = ks.length := by
  obtain ⟨es, rfl, hpw⟩ := hD.tidy key9
  obtain ⟨es', he, hko⟩ := hD.keysOf
  cases he
  have hp : ks.Perm (strKeys (.map es)) := perm_strKeys hpw (fun p hp => by obtain ⟨v, hv⟩ := hko p hp; obtain ⟨x, _, hx, _⟩ := Maps.keyOf_str Tryz.underlying9 hv; exact ⟨x, hx⟩) hnd (fun x => by rw [hk x]; exact hm x)
  refine ⟨hp, ?_⟩
  rw [hp.length_eq]
  show es.length = (es.map fun p => strOf p.1).length
  rw [List.length_map]

theorem has_lit {a b : List UInt8} (h : a ≠ b) : (Lit.string a) ≠ .string b := fun e => h (by cases e; rfl)

def upd (f : List UInt8 → Option Nat) (k : List UInt8) (o : Option Nat) : List UInt8 → Option Nat := fun x => if x = k then o else f x

theorem MapIs.put {w : World} {b : Nat} {f : List UInt8 → Option Nat} (h : MapIs w b f) {ks : List (List UInt8)} (hnd : ks.Nodup) (hm : ∀ k, k ∈ ks ↔ (f k).isSome = true) (hl : ks.length ≤ 1000) {s : ByteArray} (hs : s.size ≤ maxLen) (j : Nat) :
    ∃ w', (Instr.mapUpdate 75 (.map (some b)) (.string s) (ptr j)).run Tryz.prog w = .ok () w' ∧ MapIs w' b (upd f s.data.toList (some j)) ∧ w.mapTurned w' b := by
  obtain ⟨D, hD, hk⟩ := h
  obtain ⟨_, hsz⟩ := own_keys hD (fun k => (hk k).1) hnd hm
  obtain ⟨w', h1, h2, h3⟩ := hD.store key9 Tryz.underlying75 (by rw [hsz]; unfold maxLen; omega) (keyOf9 hs) (elR_ptr j)
  refine ⟨w', h1, ⟨_, own_size h2, fun k => ?_⟩, h3⟩
  unfold upd
  by_cases e : k = s.data.toList
  · subst e
    rw [if_pos rfl]
    exact ⟨has_put_same hD.isMap (key9.key (keyOf9 hs)) _, atKey_put_same hD.isMap (key9.key (keyOf9 hs)) _ _⟩
  · rw [if_neg e, has_put_other (has_lit e), atKey_put_other (has_lit e)]
    exact hk k
theorem MapIs.cut {w : World} {b : Nat} {f : List UInt8 → Option Nat} (h : MapIs w b f) {s : ByteArray} (hs : s.size ≤ maxLen) (ty : TypeId) :
    ∃ w', (Builtin.delete_ #[75, 9] ty #[.map (some b), .string s]).run Tryz.prog w = .ok (.tuple #[]) w' ∧ MapIs w' b (upd f s.data.toList none) ∧ w.mapTurned w' b := by
  obtain ⟨D, hD, hk⟩ := h
  obtain ⟨w', h1, h2, h3⟩ := hD.drop key9 Tryz.underlying75 (keyOf9 hs) ty
  refine ⟨w', h1, ⟨_, own_size h2, fun k => ?_⟩, h3⟩
  unfold upd
  by_cases e : k = s.data.toList
  · subst e
    rw [if_pos rfl]
    exact ⟨has_del_same, atKey_del_same _⟩
  · rw [if_neg e, has_del_other (has_lit e), atKey_del_other (has_lit e)]
    exact hk k
theorem MapIs.len {w : World} {b : Nat} {f : List UInt8 → Option Nat} (h : MapIs w b f) {ks : List (List UInt8)} (hnd : ks.Nodup) (hm : ∀ k, k ∈ ks ↔ (f k).isSome = true) (ty : TypeId) :
    (Builtin.len_ #[75] ty #[.map (some b)]).run Tryz.prog w = .ok (.int .i64 (ks.length : Int)) w := by
  obtain ⟨D, hD, hk⟩ := h
  obtain ⟨_, hsz⟩ := own_keys hD (fun k => (hk k).1) hnd hm
  rw [← hsz]
  exact hD.len Tryz.underlying75 ty
/-- A file's map is nil. -/
theorem nil_len (w : World) (ty : TypeId) : (Builtin.len_ #[75] ty #[.map none]).run Tryz.prog w = .ok (.int .i64 0) w := Maps.len_nil Tryz.underlying75 ty

end Go.Proofs.YtdlmkienogimgaaGreatDoor
