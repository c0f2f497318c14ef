/- This text proves plain facts on lists of truth values that the call itself lays, and on rows of zeros; it speaks of no call; no condition. -/
import Derived.Test.YtgkmgcmppkdbgaaDoorV2
import Derived.Laws.AppendOwnNone
namespace Go.Proofs.YtgkmgcmppkdbgaaDoor
open Go.RowKit Go.Deep

theorem Tryd.info4 : (Tryd.prog.info? 4).map (fun i => (i.zero, i.size, i.bytes)) = some (some (.bool false), 1, 1) := by kernel_rfl

/-- The first k answers of a function, as cells. -/
def cB (k : Nat) (f : Nat → Bool) : List Value := (List.range k).map fun i => .bool (f i)

theorem cB_len (k : Nat) (f : Nat → Bool) : (cB k f).length = k := by simp [cB]
theorem cB_snoc (k : Nat) (f : Nat → Bool) : cB k f ++ [.bool (f k)] = cB (k + 1) f := by simp [cB, List.range_succ]
theorem cB_get {k i : Nat} {f : Nat → Bool} (h : i < k) : (cB k f)[i]? = some (.bool (f i)) := by simp [cB, h]

theorem wpList_append_bool {ops : Array Oper} {rest : List Oper} {o : Oper} {a : Act} {w : World} {Q : Exit → Act → World → Prop} (hgd : o.guard = none) (s x : Operand)
    (ho : o.op = .call { callee := .builtin .append, args := #[s, x], argTypes := #[28, 28] })
    (base : Nat) (v : Value) (k : Nat) (f : Nat → Bool) (hs : a.eval s = v) (hown : w.ownsRow base 4 1 v k (cB k f))
    (hx : a.eval x = .slice (some ⟨w.heap.size, 0, none⟩) 1 1) (h63 : k ≤ 1000000) (hbase : base ≤ w.heap.size)
    (h : ∀ v' w', w'.ownsRow base 4 1 v' (k + 1) (cB (k + 1) f) → Below base w w' → wpList Tryd.prog ops Q rest (a.put o.dst v') w') :
    wpList Tryd.prog ops Q (o :: rest) a (w.alloc (.cells #[.bool (f k)] 4)) := by
  obtain ⟨ti, hti, hz0, hz1, hz2⟩ := info_parts Tryd.info4
  refine wpList_append_own _ hgd s x 28 ho base 4 ti (.bool false) 1 1 Tryd.underlying28 hti hz0 hz1 hz2 rfl (by decide) v k (cB k f) hs (hown.alloc _) ⟨w.heap.size, 0, none⟩ 1 1 [.bool (f k)] hx rfl
    (fun i u hu => by rw [addr_at]; exact (cell_new w _ 4 i).trans (by simpa using hu)) (fun u hu => by rw [List.mem_singleton.1 hu]; rfl) (by unfold maxLen; omega) (by omega) (Nat.le_trans hbase (by simp)) ?_
  intro v' w' h1 h2 _
  rw [cB_snoc] at h1
  exact h v' w' h1 (((below_alloc w _).mono hbase).grown h2 (Nat.le_trans hbase (by simp)) (fun k e => (hown.lt k e).1))

/-- Are the first t places from p on zeros? -/
def frB (m p : Nat) : Nat → Bool
  | 0 => true
  | t + 1 => frB m p t && !m.testBit (p + t)

theorem frB_iff (m p : Nat) : ∀ t, frB m p t = true ↔ fr m p t
  | 0 => ⟨fun _ i h1 h2 => by omega, fun _ => rfl⟩
  | t + 1 => by
    simp only [frB, Bool.and_eq_true, frB_iff m p t, Bool.not_eq_true']
    constructor
    · rintro ⟨h1, h2⟩ i k1 k2
      by_cases e : i = p + t
      · rw [e]; exact h2
      · exact h1 i k1 (by omega)
    · intro h
      exact ⟨fun i k1 k2 => h i k1 (by omega), h (p + t) (by omega) (by omega)⟩

end Go.Proofs.YtgkmgcmppkdbgaaDoor
