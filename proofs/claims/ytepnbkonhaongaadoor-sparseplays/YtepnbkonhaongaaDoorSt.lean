/- This text proves what the document's own Set returns: a new list with another number at one place; old memory is as it was; the condition is that the list lies there. -/
import Derived.Test.YtepnbkonhaongaaDoorAp
import Derived.Laws.OwnMore
import Derived.Outline
import Derived.WalkSpells
import Derived.WalkLawsBesides
namespace Go.Proofs.YtepnbkonhaongaaDoor
open Go.RowKit Go.Deep

set_option maxHeartbeats 2000000 in
theorem set_own (w : World) (v : Value) (xs : List Int) (n k : Nat) (x : Int) (hx : SliceIs w v xs) (hxn : xs.length = n) (hk : k < n) (hn : n ≤ 256) :
    Calls Tryd.prog 23 #[v, .int .i64 (k : Int), .int .i64 x] w fun e w' => ∃ g cap, e = .returned (.slice (some ⟨g, 0, none⟩) n cap) ∧ w'.ownsRow w.heap.size 3 1 (.slice (some ⟨g, 0, none⟩) n cap) n (cellsOf (xs.set k x)) ∧ Below w.heap.size w w' := by
  have HX : Hid (SliceIs w v xs) := hx
  have HN : Hid (n = xs.length) := hxn.symm
  clear hx hxn
  go_enter Tryd.func23, Tryd.ntmps23
  go_wp2_with (at_builtin; refine wpList_append_ints rfl (.tmp 8) (.tmp 9) rfl w.heap.size (.slice none 0 0) 0 [] rfl (World.ownsRow_nil _ _ _ _) v xs rfl HX.out ?q1 ?q2 ?q3)
  case q1 => rw [← HN.out]; omega
  case q2 => exact Nat.le_refl _
  case q3 =>
    intro v1 w1 hown hb
    rw [← HN.out] at hown
    obtain ⟨g, cap, rfl, hg1, hg2⟩ := own_where hown (by omega)
    have HB : Hid (Below w.heap.size w w1) := hb
    have HG : Hid (g < w1.heap.size ∧ w.heap.size ≤ g) := ⟨hg2, hg1⟩
    have hc1 : w1.cell? ⟨g, k, none⟩ = some (.int .i64 (nth xs k)) := by rw [hown.cellAt k (by omega), cellsOf_get (by rw [← HN.out]; exact hk)]
    have hf1 : w1.frozen? ⟨g, k, none⟩ = false := hown.frozenAt k
    have HO2 : Hid ((w1.setCell ⟨g, k, none⟩ (.int .i64 x)).ownsRow w.heap.size 3 1 (.slice (some ⟨g, 0, none⟩) n cap) n (cellsOf (xs.set k x))) := by
      have := hown.stored k (.int .i64 x)
      rw [cellsOf_set] at this
      exact this.1
    have hki : (k : Int) < (n : Int) := by omega
    clear hown hb hg1 hg2
    go_wp2
    go_ret
    exact ⟨g, cap, rfl, HO2.out, HB.out.setCell HG.out.2 _⟩

end Go.Proofs.YtepnbkonhaongaaDoor
