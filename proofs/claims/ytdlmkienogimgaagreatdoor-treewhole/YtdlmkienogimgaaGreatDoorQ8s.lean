/- This text proves what platterholdref2.Shown answers: names with / ahead; nothing is written; the condition is that a slice lies there and is short. -/
import Derived.Test.YtdlmkienogimgaaGreatDoorQ7s
namespace Go.Proofs.YtdlmkienogimgaaGreatDoor
open Go.RowKit Go.Deep Go.Shelf

/-- The first k names, with / ahead. -/
def shp (ls : List (List UInt8)) (k : Nat) : List UInt8 := ((ls.take k).map fun x => 47 :: x).flatten
theorem shp_succ {ls : List (List UInt8)} {k : Nat} (h : k < ls.length) : shp ls (k + 1) = shp ls k ++ [47] ++ sth ls k := by
  unfold shp
  rw [List.take_add_one, List.getElem?_eq_getElem h, sth_lt h, List.map_append, List.flatten_append]
  simp [List.map_take]
theorem shp_all {ls : List (List UInt8)} (h : ls ≠ []) : shp ls ls.length = shw ls := by
  unfold shp shw
  rw [List.take_length]
  cases ls with
  | nil => exact absurd rfl h
  | cons n ns => rw [Lib.join_cons]; simp [Lib.joinTail]
theorem shp_len (ls : List (List UInt8)) : ∀ k, (shp ls k).length ≤ wid ls := by
  induction ls with
  | nil => intro k; simp [shp]
  | cons n ns ih =>
    intro k
    rw [wid_cons]
    cases k with
    | zero => simp [shp]
    | succ k =>
      have := ih k
      unfold shp at this ⊢
      simp at this ⊢
      omega
theorem wid_at {ls : List (List UInt8)} {k : Nat} (h : k < ls.length) : (sth ls k).length ≤ wid ls := by
  have hm := sth_mem h
  obtain ⟨a, b, e⟩ := List.append_of_mem hm
  conv => rhs; rw [e]
  rw [wid_append, wid_cons]; omega

set_option maxHeartbeats 2000000 in
theorem shown_any (w : World) (v : Value) (ls : List (List UInt8)) (hx : StrsIs w v ls) (hw : wid ls ≤ 1000000) :
    Calls Tryz.prog 10 #[v] w fun e w' => e = .returned (.string (bs (shw ls))) ∧ w = w' := by
  obtain ⟨a, c, b, o, rfl, _, hl, ha, hc⟩ := hx.where
  by_cases h0 : ls = []
  · subst h0
    go_enter Tryz.func10, Tryz.ntmps10
    go_wp2
    go_ret
    exact ⟨rfl, rfl⟩
  · rw [← shp_all h0]
    have hp : 0 < ls.length := List.length_pos_iff.2 h0
    obtain ⟨n, hxn⟩ : ∃ n, n = ls.length := ⟨_, rfl⟩
    have HX : Hid (n = ls.length) := hxn
    have haa := (ha hp).1
    subst haa
    rw [← hxn] at hl hc hp ⊢
    have HC : Hid (∀ i, i < n → w.cell? ⟨b, o + i, none⟩ = some (.string (bs (sth ls i)))) := hc
    have HL : Hid (∀ k, (bs (shp ls k)).size ≤ 1000000) := fun k => by rw [size_bs]; exact Nat.le_trans (shp_len ls k) hw
    have HM : Hid (∀ k, k < n → (bs (sth ls k)).size ≤ 1000000) := fun k hk => by rw [size_bs]; exact Nat.le_trans (wid_at (by rw [← hxn]; exact hk)) hw
    unfold maxLen at hl
    clear ha hc hxn hx h0 hw
    go_enter Tryz.func10, Tryz.ntmps10
    go_wp2
    go_loop [3, 4] (fun s i => ∃ k : Nat, k ≤ n ∧ i = .int .i64 k ∧ s = .string (bs (shp ls k))) (fun _ i => n - (intOf i).toNat)
    case atStart => exact ⟨0, Nat.zero_le _, rfl, rfl⟩
    case round =>
      obtain ⟨k, hk, rfl, rfl⟩ := hrel
      have h1 := HL.out k
      have h1' : (bs (shp ls k) ++ ⟨#[47]⟩).size ≤ 1000001 := by rw [size_app, size_one]; omega
      by_cases hlt : k < n
      · have hck := HC.out k hlt
        have h2 := HM.out k hlt
        go_wp2
        go_round
        case rel =>
          refine ⟨k + 1, by omega, by go_num, ?_⟩
          rw [shp_succ (by rw [← HX.out]; exact hlt), ← bs_app, ← bs_app]; rfl
        case measure => simp [intOf]; omega
      · have hkn : k = n := by omega
        subst hkn
        go_wp2
        go_ret
        exact ⟨rfl, rfl⟩

end Go.Proofs.YtdlmkienogimgaaGreatDoor
