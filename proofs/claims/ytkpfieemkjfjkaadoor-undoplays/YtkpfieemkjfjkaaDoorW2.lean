/- This text proves what Add of package set leaves of a set, and what its length is; nothing is turned but the set itself; the condition is that the set lies there. -/
import Derived.Test.YtkpfieemkjfjkaaDoorWs
import Derived.Test.YtkpfieemkjfjkaaDoorW0
namespace Go.Proofs.YtkpfieemkjfjkaaDoor
open Go.RowKit Go.Deep Go.Maps

/-- The block is a set with just these numbers below 20. -/
def SetN (w : World) (b n : Nat) (f : Nat → Bool) : Prop := ∃ D : DataW Value, w.ownsMap Tryd.prog 3 elE b n D ∧ (∀ k, k < 20 → Maps.has D (kyL k) = f k) ∧ Maps.size D = cnt f 20
theorem SetN.block {w w' : World} {b n : Nat} {f : Nat → Bool} (h : SetN w b n f) (e : w'.heap[b]? = w.heap[b]?) : SetN w' b n f := by
  obtain ⟨D, ⟨es, c, hb, r⟩, hk⟩ := h
  exact ⟨D, ⟨es, c, e.trans hb, r⟩, hk⟩
theorem SetN.lt {w : World} {b n : Nat} {f : Nat → Bool} (h : SetN w b n f) : b < w.heap.size := by
  obtain ⟨D, h, _⟩ := h
  exact h.lt
theorem SetN.later {w w' : World} {b n : Nat} {f : Nat → Bool} (h : SetN w b n f) (hb : Below w.heap.size w w') : SetN w' b n f := h.block (hb.block b h.lt)
theorem SetN.alike {w : World} {b n : Nat} {f g : Nat → Bool} (h : SetN w b n f) (e : ∀ k, k < 20 → f k = g k) : SetN w b n g := by
  obtain ⟨D, h1, h2, h3⟩ := h
  exact ⟨D, h1, fun k hk => (h2 k hk).trans (e k hk), h3.trans (cnt_same e)⟩
theorem SetN.made (w : World) : SetN (w.alloc (.map #[] 0)) w.heap.size 0 (fun _ => false) := ⟨.map [], World.ownsMap_made _ _ _ _, fun _ _ => rfl, (cnt_none fun _ _ => rfl).symm⟩
theorem SetN.len {w : World} {b n : Nat} {f : Nat → Bool} (h : SetN w b n f) (ty : TypeId) : (Builtin.len_ #[66] ty #[.map (some b)]).run Tryd.prog w = .ok (.int .i64 (cnt f 20 : Int)) w := by
  obtain ⟨D, hD, _, h3⟩ := h
  rw [← h3]
  exact hD.len Tryd.underlying66 ty
theorem SetN.put {w : World} {b n : Nat} {f : Nat → Bool} (h : SetN w b n f) (hn : n ≤ 1000) {k : Nat} (hk : k < 20) :
    ∃ w', (Instr.mapUpdate 66 (.map (some b)) (.int .i64 (k : Int)) (.agg #[])).run Tryd.prog w = .ok () w' ∧ SetN w' b (n + 1) (fun j => f j || k == j) ∧ w.mapTurned w' b := by
  obtain ⟨D, hD, hk2, hsz⟩ := h
  obtain ⟨w', h1, h2, h3⟩ := hD.store keyed3 Tryd.underlying66 (by unfold maxLen; omega) (keyOf3 (by omega : k ≤ 1000)) (show elE (.agg #[]) = some (.held (.agg #[]), []) from rfl)
  refine ⟨w', h1, ⟨_, h2, fun j hj => ?_, ?_⟩, h3⟩
  · by_cases e : j = k
    · subst e
      rw [has_put_same hD.isMap (kyL_is (by omega)) _]
      simp
    · rw [has_put_other (kyL_ne e), hk2 j hj]
      have : (k == j) = false := by simp; omega
      show f j = (f j || k == j)
      rw [this, Bool.or_false]
  · rw [Maps.size_put (hD.tidy keyed3), hsz, cnt_put, hk2 k hk]
    cases hf : f k with
    | true => rw [if_pos rfl, if_neg (by simp)]; rfl
    | false => rw [if_neg (by decide), if_pos ⟨hk, rfl⟩]

set_option maxHeartbeats 1000000 in
theorem addN_any (w : World) (b n : Nat) (f : Nat → Bool) (h : SetN w b n f) (hn : n ≤ 1000) (k : Nat) (hk : k < 20) :
    Calls Tryd.prog 28 #[.map (some b), .int .i64 (k : Int)] w fun e w' => e = .returned (.tuple #[]) ∧ SetN w' b (n + 1) (fun j => f j || k == j) ∧ Stay (fun x => x = b) w w' := by
  obtain ⟨w1, u1, u2, u3⟩ := h.put hn hk
  have HZ : Hid _ := And.intro u2 (Stay.map (S := fun x => x = b) u3 rfl)
  clear h u2 u3
  go_enter Tryd.func28, Tryd.ntmps28
  go_wp2
  go_end0
  exact ⟨rfl, HZ.out⟩

end Go.Proofs.YtkpfieemkjfjkaaDoor
