/- This text proves what maps.DeleteFunc does to a file's blocks with Cut's own question: those that begin at the size or behind it are gone, in whatever order they come; nothing else is turned; the condition is that the map lies there. -/
import Derived.Test.YtepnbkonhaongaaDoorF3
import Derived.Lib.SlMapFilter
import Derived.Maps.RangeWalk
import Derived.Laws.IdiomRangeMap
import Derived.Deep.LoopGhost
namespace Go.Proofs.YtepnbkonhaongaaDoor
open Go.RowKit Go.Deep Go.Maps

/-- Whether a block begins at a place or behind it. -/
def pdM (m : Nat) : Lit → DataW Value → Bool := fun kl _ => decide ((m : Int) ≤ Go.intOf kl * 4)
theorem pdM_key (m k : Nat) (d : DataW Value) : pdM m (kyL k) d = !decide (4 * k < m) := by
  unfold pdM kyL Go.intOf
  by_cases h : 4 * k < m
  · rw [decide_eq_false (by dsimp only; omega), decide_eq_true h]; rfl
  · rw [decide_eq_true (by dsimp only; omega), decide_eq_false h]; rfl

/-- A file without the blocks that begin at a place or behind it. -/
def dlF (f : Fil) (m : Nat) : Fil := ⟨f.s, fun p => if 4 * (p / 4) < m then f.c p else 0, fun k => f.h k && decide (4 * k < m)⟩

theorem filter_has (es : List (Lit × DataW Value)) (pd : Lit → DataW Value → Bool) (kl : Lit) (B : Bool) (hpd : ∀ d, pd kl d = B) : Maps.has (Lib.deleteFuncD pd (.map es)) kl = (Maps.has (.map es) kl && !B) := by
  show (es.filter fun p => !pd p.1 p.2).any (fun p => p.1.sameKey kl) = (es.any (fun p => p.1.sameKey kl) && !B)
  rw [List.any_filter]
  cases B with
  | true =>
    rw [Bool.not_true, Bool.and_false, List.any_eq_false]
    intro p _
    cases hs : p.1.sameKey kl
    · simp
    · rw [WideAt.sameKey_eq hs, hpd p.2]; decide
  | false =>
    rw [Bool.not_false, Bool.and_true]
    congr 1
    funext p
    cases hs : p.1.sameKey kl
    · simp
    · rw [WideAt.sameKey_eq hs, hpd p.2]; rfl
theorem filter_at (es : List (Lit × DataW Value)) (pd : Lit → DataW Value → Bool) (kl : Lit) (hpd : ∀ d, pd kl d = false) (z : DataW Value) : (Lib.deleteFuncD pd (.map es)).atKey kl z = (DataW.map es).atKey kl z := by
  unfold Lib.deleteFuncD DataW.atKey
  dsimp only
  rw [find_filter_keep (fun p hp => by rw [WideAt.sameKey_eq hp, hpd p.2]; rfl)]

theorem dlF_at (f : Fil) {m k : Nat} (hlt : 4 * k < m) : quad (dlF f m).c k = quad f.c k := by
  unfold quad dlF
  dsimp only
  rw [if_pos (by omega), if_pos (by omega), if_pos (by omega), if_pos (by omega)]
theorem dlF_off (f : Fil) {m k : Nat} (hlt : ¬ 4 * k < m) : quad (dlF f m).c k = zeroQ := by
  unfold quad dlF zeroQ
  dsimp only
  rw [if_neg (by omega), if_neg (by omega), if_neg (by omega), if_neg (by omega)]

theorem MapIs.deleted {w : World} {b n : Nat} {f : Fil} {es : List (Lit × DataW Value)} {m : Nat} (hD : w.ownsMap Tryd.prog 3 elT b n (Lib.deleteFuncD (pdM m) (.map es))) (hl : ∀ kl, Maps.has (.map es) kl = true → ∃ k, k < 16 ∧ kl = kyL k)
    (hk : ∀ k, k ≤ 16 → Maps.has (.map es) (kyL k) = f.h k ∧ (DataW.map es).atKey (kyL k) (.held zeroQ) = .held (quad f.c k)) : MapIs w b (dlF f m) := by
  refine ⟨_, own_size hD, fun kl hkl => ?_, fun k hk16 => ?_⟩
  · refine hl kl ?_
    obtain ⟨p, hp, hs⟩ := List.any_eq_true.1 hkl
    exact List.any_eq_true.2 ⟨p, (List.mem_filter.1 hp).1, hs⟩
  · obtain ⟨g1, g2⟩ := hk k hk16
    have e := filter_has es (pdM m) (kyL k) _ (pdM_key m k)
    rw [g1, show (!!decide (4 * k < m)) = decide (4 * k < m) by cases decide (4 * k < m) <;> rfl] at e
    refine ⟨e, ?_⟩
    by_cases hlt : 4 * k < m
    · rw [filter_at es (pdM m) (kyL k) (fun d => by rw [pdM_key, decide_eq_true hlt]; rfl), g2, dlF_at f hlt]
    · rw [decide_eq_false hlt, Bool.and_false] at e
      rw [atKey_of_not_has e, dlF_off f hlt]

set_option maxHeartbeats 1000000 in
theorem sp_ask (x : Int) (y z u v : Int) (m B : Nat) (w : World) (hB : w.cell? ⟨B, 0, none⟩ = some (.int .i64 (m : Int))) (h0 : 0 ≤ x) (h1 : x ≤ 1000) :
    Calls Tryd.prog 27 #[.int .i64 x, .agg #[.int .i64 y, .int .i64 z, .int .i64 u, .int .i64 v], .pointer (some ⟨B, 0, none⟩)] w fun e w' => e = .returned (.bool (decide ((m : Int) ≤ x * 4))) ∧ w.grownBy w' none := by
  have HB : Hid (∀ o, (w.alloc o).cell? ⟨B, 0, none⟩ = some (.int .i64 (m : Int))) := fun o => (World.grownBy_alloc w o none).cell hB (by simp)
  have h2 := HB.out
  clear hB
  go_enter Tryd.func27, Tryd.ntmps27
  go_wp2
  go_ret
  exact ⟨by simp, World.grownBy_alloc _ _ _⟩

theorem key_small {es : List (Lit × DataW Value)} (hl : ∀ kl, Maps.has (.map es) kl = true → ∃ k, k < 16 ∧ kl = kyL k) {x : Int} {d : DataW Value} {pd : Lit → DataW Value → Bool} {left : Lit → Bool} (hat : ∀ zd, (Fk pd es left).atKey (.int .i64 x) zd = d) : 0 ≤ x ∧ x ≤ 1000 := by
  have h1 := has_true_of_atKey hat
  obtain ⟨p, hp, hs⟩ := List.any_eq_true.1 (show (es.filter _).any (fun p => p.1.sameKey (.int .i64 x)) = true from h1)
  obtain ⟨k, hk, e⟩ := hl _ (show Maps.has (.map es) (.int .i64 x) = true from List.any_eq_true.2 ⟨p, (List.mem_filter.1 hp).1, hs⟩)
  unfold kyL at e
  cases e
  omega

set_option maxHeartbeats 4000000 in
set_option maxRecDepth 100000 in
theorem sp_delete (w : World) (b : Nat) (f : Fil) (h : MapIs w b f) (m B : Nat) (hB : w.cell? ⟨B, 0, none⟩ = some (.int .i64 (m : Int))) (hne : B ≠ b) :
    Calls Tryd.prog 26 #[.map (some b), .func (.func 27) #[] #[.pointer (some ⟨B, 0, none⟩)]] w fun e w' => e = .returned (.tuple #[]) ∧ MapIs w' b (dlF f m) ∧ w.grownBy w' (some b) := by
  obtain ⟨D, hown, hl, hk⟩ := h
  obtain ⟨es0, rfl, hap, hkeys⟩ := hown.entries keyed3
  have HE : Aside (∀ w', w'.ownsMap Tryd.prog 3 elT b (Maps.size (DataW.map es0)) (Lib.deleteFuncD (pdM m) (.map es0)) → MapIs w' b (dlF f m)) := fun w' hD => MapIs.deleted hD hl hk
  have HL : Aside (∀ {x : Int} {d : DataW Value} {left : Lit → Bool}, (∀ zd, (Fk (pdM m) es0 left).atKey (.int .i64 x) zd = d) → 0 ≤ x ∧ x ≤ 1000) := fun hat => key_small hl hat
  have HB : Aside (∀ W, w.grownBy W (some b) → W.cell? ⟨B, 0, none⟩ = some (.int .i64 (m : Int))) := fun W hg => hg.cell hB (fun e => hne (Option.some.inj e))
  have e23 : ∀ args w, (callFunc 27 args).run Tryd.prog w = .ok (.enter 27 args) w := fun _ _ => by rfl
  generalize Maps.size (DataW.map es0) = n at hown HE
  clear hB hk hl
  go_enter Tryd.func26, Tryd.ntmps26
  go_wp2_with (first
    | (at_range; refine wpList_range_own _ rfl _ 52 rfl 3 61 keyed3 Tryd.underlying52 elT b n _ rfl hown ?_; intro w0 hrg0 hg0 hs0)
    | go_in)
  go_frame
  go_loopw [8] (fun _ wr => ∃ (left : Lit → Bool) (cnt : Nat), wr.ranges Tryd.prog 3 elT b w.heap.size n (Fk (pdM m) es0 left) left cnt ∧ w.grownBy wr (some b))
    (fun _ wr => wr.rangeLeft b w.heap.size)
  case atStart => exact ⟨_, _, by rw [Fk_start hkeys]; exact hrg0, hg0.but _⟩
  case round =>
    obtain ⟨left, cnt, hrg, hgw⟩ := hrel
    clear hrg0 hg0 hs0
    go_wp2_with (first
      | (at_next; refine wpList_next_ranges _ rfl _ rfl 3 keyed3 elT (Value.int .i64) (fun q : Int × Int × Int × Int => .agg #[.int .i64 q.1, .int .i64 q.2.1, .int .i64 q.2.2.1, .int .i64 q.2.2.2]) (fun key kl hk => by obtain ⟨x, rfl, _⟩ := Maps.keyOf_int_inv Tryd.underlying3 hk; exact ⟨x, rfl⟩) (fun v y hv => by obtain ⟨q, rfl, _⟩ := elT_form hv; exact ⟨q, rfl⟩) b w.heap.size n _ _ _ rfl hrg ?_ ?_)
      | go_in)
    · intro _ hl0
      go_wp2
      go_end0
      exact ⟨rfl, HE.out _ (by rw [← Fk_end hl0]; exact hrg.owns), hgw⟩
    · intro x c0 c1 c2 c3 kl yd yp w1 cnt1 hkey hlk hv hat hrg1 hlt hg1 hs1 hen
      obtain ⟨x', ex, rfl, hwx⟩ := Maps.keyOf_int_inv Tryd.underlying3 hkey
      cases ex
      obtain ⟨hx0, hx1⟩ := HL.out hat
      have hgw1 := hgw.andThen hg1 (fun j hj => by cases hj; exact Or.inl (Nat.le_refl _))
      have hbl := hrg1.owns.lt
      have hrl := hrg1.lt
      have HA : Aside (∀ o, Calls Tryd.prog 27 #[.int .i64 x, .agg #[.int .i64 c0, .int .i64 c1, .int .i64 c2, .int .i64 c3], .pointer (some ⟨B, 0, none⟩)] (w1.alloc o) fun e w' => e = .returned (.bool (decide ((m : Int) ≤ x * 4))) ∧ (w1.alloc o).grownBy w' none) := fun o => sp_ask x c0 c1 c2 c3 m B _ (HB.out _ (hgw1.andThen (World.grownBy_alloc w1 o none) (fun j hj => by cases hj))) hx0 hx1
      cases hp : decide ((m : Int) ≤ x * 4) <;> rw [hp] at HA
      · go_wp2_with (first
          | (go_at_call 27; refine (HA.out _).mono ?_; rintro e w2 ⟨rfl, hg2⟩)
          | go_in)
        have hrg2 := (hrg1.alloc _).kept hg2 (by simp) (by simp)
        go_roundw
        case rel => exact ⟨_, cnt1, by rw [← Fk_stays hap (keyed3.key hkey) hlk hp hat]; exact hrg2, (hgw1.andThen (World.grownBy_alloc w1 _ none) (fun j hj => by cases hj)).andThen hg2 (fun j hj => by cases hj)⟩
        case measure => rw [hrg2.left_eq, hrg.left_eq]; exact hlt
      · go_wp2_with (first
          | (go_at_call 27; refine (HA.out _).mono ?_; rintro e w2 ⟨rfl, hg2⟩; have hrg2 := (hrg1.alloc _).kept hg2 (by simp) (by simp))
          | (at_delete; refine wpList_delete_ranges _ rfl _ _ 52 3 rfl 61 keyed3 Tryd.underlying52 elT b w.heap.size n _ _ _ rfl hrg2 _ _ rfl hkey ?_; intro w3 cnt3 hrg3 hle hturn; go_frame)
          | go_in)
        rw [strike_twice] at hrg3
        go_roundw
        case rel => exact ⟨_, cnt3, by rw [← Fk_struck hap (keyed3.key hkey) hlk hp hat]; exact hrg3, ((hgw1.andThen (World.grownBy_alloc w1 _ none) (fun j hj => by cases hj)).andThen hg2 (fun j hj => by cases hj)).andThen hturn.grown (fun j hj => by cases hj; exact Or.inr rfl)⟩
        case measure => rw [hrg3.left_eq, hrg.left_eq]; omega

end Go.Proofs.YtepnbkonhaongaaDoor
