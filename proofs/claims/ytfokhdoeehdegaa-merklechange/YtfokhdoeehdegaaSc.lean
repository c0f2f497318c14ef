/- This text proves what platterholdref1.Set returns: a new list with one number changed, that has room for its numbers; all old memory is as it was. -/
import Derived.Test.YtfokhdoeehdegaaAp
import Derived.Test.YtfokhdoeehdegaaM7
namespace Go.Proofs.Ytfokhdoeehdegaa
open Go.RowKit Go.Deep

set_option maxHeartbeats 2000000 in
theorem setc_any (w : World) (v : Value) (xs : List Int) (k : Nat) (x : Int) (hx : SliceIs w v xs) (hk : k < xs.length) (hn : xs.length ≤ 256) :
    Calls Try.prog 12 #[v, .int .i64 (k : Int), .int .i64 x] w fun e w' => ∃ v', e = .returned v' ∧ SliceC w' v' (xs.set k x) ∧ Below w.heap.size w w' := by
  have HX : Hid (SliceIs w v xs) := hx
  obtain ⟨n, hxn⟩ : ∃ n, n = xs.length := ⟨_, rfl⟩
  have HN : Hid (n = xs.length) := hxn
  rw [← hxn] at hk hn
  clear hx hxn
  go_enter Try.func12, Try.ntmps12
  go_wp2_with (at_builtin; refine wpList_append_ints rfl (.tmp 8) (.tmp 9) rfl w.heap.size (.slice none 0 0) 0 [] rfl (World.ownsRow_nil _ _ _ _) v xs rfl HX.out ?q1 ?q2 ?q3)
  case q1 => rw [← HN.out]; omega
  case q2 => exact Nat.le_refl _
  case q3 =>
    intro v1 w1 hown hb
    rw [← HN.out] at hown
    obtain ⟨g, cap, rfl, hg1, hg2⟩ := own_where hown (by omega)
    have HB : Hid (Below w.heap.size w w1) := hb
    have HG : Hid (g < w1.heap.size ∧ w.heap.size ≤ g) := ⟨hg2, hg1⟩
    have hc1 : w1.cell? ⟨g, k, none⟩ = some (.int .i64 (nth xs k)) := by rw [hown.cellAt k (by omega), cellsOf_get (by rw [← HN.out]; exact hk)]
    have hf1 : w1.frozen? ⟨g, k, none⟩ = false := hown.frozenAt k
    have HO2 : Hid ((w1.setCell ⟨g, k, none⟩ (.int .i64 x)).ownsRow w.heap.size 3 1 (.slice (some ⟨g, 0, none⟩) n cap) n (cellsOf (xs.set k x))) := by
      have := hown.stored k (.int .i64 x)
      rw [cellsOf_set] at this
      exact this.1
    have hki : (k : Int) < (n : Int) := by omega
    have HK : Hid (n ≤ cap) := by rcases hown.2 with ⟨h0, _⟩ | ⟨g', cap', cur, h0, _, _, h1, _⟩ <;> cases h0; exact h1
    have HZ : Hid ((xs.set k x).length = n) := by show (xs.set k x).length = n; rw [List.length_set]; exact HN.out.symm
    clear hown hb hg1 hg2
    go_wp2
    go_ret
    exact ⟨_, rfl, ⟨some ⟨g, 0, none⟩, cap, by rw [HZ.out]; rfl, by rw [HZ.out]; exact HK.out, slice_owned HO2.out (by unfold maxLen; omega) (by have := HG.out.1; simpa [World.setCell] using this)⟩, HB.out.setCell HG.out.2 _⟩

end Go.Proofs.Ytfokhdoeehdegaa
