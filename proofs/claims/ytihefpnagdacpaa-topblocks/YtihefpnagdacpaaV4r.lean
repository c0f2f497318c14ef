/- This text proves nothing of the program: it takes rows of numbers apart, and says what stays when a map's word is changed; no condition. -/
import Derived.Test.YtihefpnagdacpaaV3
namespace Go.Proofs.Ytihefpnagdacpaa
open Go.RowKit Go.Deep

theorem MapAt.drew1 {w : World} {g m : Nat} (h : MapAt w g m) : MapAt w.drew g m := ⟨h.blk, h.lt⟩
theorem below_drew1 (B : Nat) (w : World) : Below B w w.drew := ⟨rfl, rfl, rfl, Nat.le_refl _, fun _ _ => rfl⟩
theorem below_chg {B g : Nat} {a w w' : World} (h : Below B a w) (hB : B ≤ g) (hc : Chg g w w') : Below B a w' := h.trans (hc.below hB)

/-- Where a row's slice lies. -/
theorem RowsIs.row {w : World} {a : Option Addr} {n c : Nat} {rs : List (List Int)} (h : RowsIs w (.slice a n c) rs) (i : Nat) (hi : i < n) :
    ∃ b o v, a = some ⟨b, o, none⟩ ∧ b < w.heap.size ∧ w.cell? ⟨b, o + i, none⟩ = some v ∧ SliceIs w v (rowAt rs i) := by
  obtain ⟨a', c', e, hl, hx⟩ := h
  cases e
  obtain ⟨b, o, ha, hb, hc⟩ := hx (fun e => by rw [e] at hi; simp at hi)
  obtain ⟨v, h1, h2⟩ := hc i hi
  exact ⟨b, o, v, ha, hb, h1, h2⟩

/-- A row of one number, and of two. -/
theorem row_one {w : World} {v : Value} {xs : List Int} (h : SliceIs w v xs) (hl : xs.length = 1) : ∃ b o c, v = .slice (some ⟨b, o, none⟩) 1 c ∧ b < w.heap.size ∧ w.cell? ⟨b, o, none⟩ = some (.int .i64 (nth xs 0)) := by
  obtain ⟨a, c, rfl, _, hx⟩ := h
  obtain ⟨b, o, ha, hb, hc⟩ := hx (fun e => by rw [e] at hl; simp at hl)
  subst ha
  exact ⟨b, o, c, by rw [hl], hb, hc 0 (by omega)⟩
theorem row_two {w : World} {v : Value} {xs : List Int} (h : SliceIs w v xs) (hl : xs.length = 2) : ∃ b o c, v = .slice (some ⟨b, o, none⟩) 2 c ∧ b < w.heap.size ∧ w.cell? ⟨b, o, none⟩ = some (.int .i64 (nth xs 0)) ∧ w.cell? ⟨b, o + 1, none⟩ = some (.int .i64 (nth xs 1)) := by
  obtain ⟨a, c, rfl, _, hx⟩ := h
  obtain ⟨b, o, ha, hb, hc⟩ := hx (fun e => by rw [e] at hl; simp at hl)
  subst ha
  exact ⟨b, o, c, by rw [hl], hb, hc 0 (by omega), hc 1 (by omega)⟩

end Go.Proofs.Ytihefpnagdacpaa
