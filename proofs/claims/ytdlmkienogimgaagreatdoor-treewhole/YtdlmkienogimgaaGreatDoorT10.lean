/- This text proves what a walk comes to whose visits write one variable alone, and what count, holds and deepest answer; old memory is as it was; the conditions are that the tree lies there. -/
import Derived.Test.YtdlmkienogimgaaGreatDoorT9
namespace Go.Proofs.YtdlmkienogimgaaGreatDoor
open Go.RowKit Go.Deep Go.Shelf Go.Maps

/-- The world of a walk: all but one block is as it was when it began. -/
structure Fold (w0 : World) (B : Nat) (ty : TypeId) (val : List Ent → Value) (xs : List Ent) (F : Nat → Prop) (w : World) : Prop where
  size : w0.heap.size ≤ w.heap.size
  old : ∀ b, b < w0.heap.size → b ≠ B → w.heap[b]? = w0.heap[b]?
  box : Boxed w B ty (val xs)
  foot : ∀ b, F b ↔ b = B

theorem pref_nil (l : List Ent) : l.map (pref []) = l := by
  conv => rhs; rw [← List.map_id l]
  exact List.map_congr_left fun x _ => rfl

theorem walk_fold (g : Nat) (caps : Array Value) (eg : ∀ args w, (callFunc g args).run Tryz.prog w = .ok (.enter g args) w) (w0 : World) (base t : Nat) (L : List Ent) (M : Nat → Option Nat) (hT : TreeAt w0 base t L M) (p0 : List (List UInt8)) (i : Nat) (hi : (p0, i) ∈ L)
    (B : Nat) (ty : TypeId) (val : List Ent → Value) (hB : Boxed w0 B ty (val [])) (hF : ¬ Fp t L M B)
    (hv : ∀ (w : World) (xs : List Ent) (v : Value) (ns : List (List UInt8)) (j : Nat), (∀ b, b < w0.heap.size → b ≠ B → w.heap[b]? = w0.heap[b]?) → w0.heap.size ≤ w.heap.size → Boxed w B ty (val xs) → StrsIs w v ns → (p0 ++ ns, j) ∈ L →
      Calls Tryz.prog g (#[v, ptr j] ++ caps) w fun e w' => e = .returned (.tuple #[]) ∧ Boxed w' B ty (val (xs ++ [(ns, j)])) ∧ Kept (fun b => b = B) w w') :
    Calls Tryz.prog 30 #[ptr i, .slice none 0 0, .func (.func g) #[] caps] w0 fun e w' => e = .returned (.tuple #[]) ∧ Boxed w' B ty (val (wk 8 L p0)) ∧ Kept (fun b => b = B) w0 w' := by
  have hBl := hB.lt
  have := walk_any g caps eg base t L M p0 w0.heap.size (wk 8 L p0).length (Fold w0 B ty val)
    (fun xs F w h b hb => by rw [(h.foot b).1 hb]; exact h.box.lt)
    (fun xs F w h => hT.frame fun b hb => h.old b (hT.fp hb).2 (fun e => hF (e ▸ hb)))
    (fun xs F w w' h k => by
      have hs : ∀ b, b < w.heap.size → (b = B ∨ b < w0.heap.size) → w'.heap[b]? = w.heap[b]? := fun b hb hc => k.block b hb fun ⟨h1, h2⟩ => by
        rcases hc with rfl | hc
        · exact h1 ((h.foot b).2 rfl)
        · omega
      exact ⟨Nat.le_trans h.size k.size, fun b hb hne => (hs b (Nat.lt_of_lt_of_le hb h.size) (.inr hb)).trans (h.old b hb hne), (hs B h.box.lt (.inl rfl)).trans h.box, h.foot⟩)
    (fun xs F w v ns j h hs hm _ _ _ => (hv w xs v ns j h.old h.size h.box hs hm).mono (by
      rintro e w' ⟨rfl, h1, h2⟩
      exact ⟨rfl, F, ⟨Nat.le_trans h.size h2.size, fun b hb hne => (h2.block b (Nat.lt_of_lt_of_le hb h.size) hne).trans (h.old b hb hne), h1, h.foot⟩, fun b hb => .inl hb, ⟨h2.os, h2.tape, h2.output, h2.size, fun b hb hn => h2.block b hb fun e => hn ((h.foot b).2 e)⟩⟩))
    8 [] i w0 (.slice none 0 0) (fun b => b = B) [] (by rw [List.append_nil]; exact hi) (by omega) ⟨Nat.le_refl _, fun _ _ _ => rfl, hB, fun b => Iff.rfl⟩ (World.ownsRow_nil _ _ _ _) (fun a ha => by cases ha) (Nat.le_refl _) (by rw [List.append_nil]; simp)
  refine this.mono ?_
  rintro e w' ⟨rfl, F', h, _, hk, _⟩
  rw [List.append_nil, List.nil_append, pref_nil] at h
  refine ⟨rfl, h.box, ⟨hk.os, hk.tape, hk.output, hk.size, fun b hb hne => h.old b hb hne⟩⟩

/-- How many of them count, as the loop has it. -/
def fcnt (q : Nat → Bool) (xs : List Ent) : Int := xs.foldl (fun c x => if q x.2 then wrap64 (c + 1) else c) 0
theorem fcnt_snoc (q : Nat → Bool) (xs : List Ent) (x : Ent) : fcnt q (xs ++ [x]) = if q x.2 then wrap64 (fcnt q xs + 1) else fcnt q xs := by simp [fcnt]
theorem fcnt_is (q : Nat → Bool) (xs : List Ent) (hl : xs.length ≤ 1000000) : fcnt q xs = ((xs.countP fun x => q x.2 : Nat) : Int) := by
  induction xs using rev_ind with
  | h0 => rfl
  | h1 l a ih =>
    rw [List.length_append, List.length_singleton] at hl
    have hc := List.countP_le_length (p := fun x : Ent => q x.2) (l := l)
    rw [fcnt_snoc, ih (by omega), List.countP_append]
    cases hq : q a.2
    · simp [hq]
    · simp only [if_true, List.countP_cons, List.countP_nil, hq]
      rw [show wrap64 (((l.countP fun x => q x.2 : Nat) : Int) + 1) = ((l.countP fun x => q x.2 : Nat) : Int) + 1 by unfold wrap64; omega]
      omega

theorem boxed_set {w : World} {B : Nat} {ty : TypeId} {u v : Value} (h : Boxed w B ty u) : Boxed (w.setCell ⟨B, 0, none⟩ v) B ty v ∧ Kept (fun b => b = B) w (w.setCell ⟨B, 0, none⟩ v) :=
  ⟨h.set v, ⟨rfl, rfl, rfl, by simp, fun b _ hne => Below.heap_setCell w ⟨B, 0, none⟩ v b hne⟩⟩

set_option maxRecDepth 100000 in
theorem Tryz.enter76 : ∀ args w, (callFunc 76 args).run Tryz.prog w = .ok (.enter 76 args) w := fun _ _ => by rfl

set_option maxHeartbeats 2000000 in
set_option maxRecDepth 100000 in
theorem countOne_any (g : Nat) (caps : Array Value) (eg : ∀ args w, (callFunc g args).run Tryz.prog w = .ok (.enter g args) w) (w : World) (Bc Bm : Nat) (c : Int) (v : Value) (j : Nat) (q : Bool)
    (h1 : Boxed w Bc 94 (.func (.func g) #[] caps)) (h2 : Boxed w Bm 3 (.int .i64 c))
    (hq : Calls Tryz.prog g (#[ptr j] ++ caps) w fun e w' => e = .returned (.bool q) ∧ w = w') :
    Calls Tryz.prog 76 #[v, ptr j, .pointer (some ⟨Bc, 0, none⟩), .pointer (some ⟨Bm, 0, none⟩)] w fun e w' => e = .returned (.tuple #[]) ∧ Boxed w' Bm 3 (.int .i64 (if q then wrap64 (c + 1) else c)) ∧ Kept (fun b => b = Bm) w w' := by
  have c1 := h1.cell
  have c2 := h2.cell
  have f2 := h2.frozen
  have HS : Hid (Boxed w Bm 3 (.int .i64 c)) := h2
  have HQ : Hid _ := fun (_ : Nat) => hq
  unfold ptr at HQ ⊢
  clear h1 h2 hq
  cases q with
  | true =>
    go_enter Tryz.func76, Tryz.ntmps76
    go_wp2_with fail
    refine Calls.mono (HQ.out 0) ?_
    rintro e w' ⟨rfl, rfl⟩
    go_wp2_with fail
    go_end0
    exact ⟨rfl, boxed_set HS.out⟩
  | false =>
    go_enter Tryz.func76, Tryz.ntmps76
    go_wp2_with fail
    refine Calls.mono (HQ.out 0) ?_
    rintro e w' ⟨rfl, rfl⟩
    go_wp2_with fail
    go_end0
    exact ⟨rfl, HS.out, Kept.refl _ _⟩

set_option maxHeartbeats 2000000 in
set_option maxRecDepth 100000 in
theorem count_any (w : World) (base t : Nat) (L : List Ent) (M : Nat → Option Nat) (h : TreeAt w base t L M) (g : Nat) (caps : Array Value) (eg : ∀ args w, (callFunc g args).run Tryz.prog w = .ok (.enter g args) w) (q : Nat → Bool)
    (hq : ∀ w', (∀ b, b < w.heap.size → w'.heap[b]? = w.heap[b]?) → ∀ p j, (p, j) ∈ L → Calls Tryz.prog g (#[ptr j] ++ caps) w' fun e w'' => e = .returned (.bool (q j)) ∧ w' = w'') :
    Calls Tryz.prog 54 #[ptr t, .func (.func g) #[] caps] w fun e w' => e = .returned (.int .i64 ((wka L).countP fun x => q x.2 : Nat)) ∧ Below w.heap.size w w' := by
  obtain ⟨r, hr, _⟩ := h.good.start
  have hc := fun o1 o2 => (((h.tree r hr).alloc o1).alloc o2).cell
  have hlen : (wka L).length ≤ 1000000 := by have := wka_len h.good; have := h.good.few; omega
  have HN : Hid (fcnt q (wk 8 L []) = ((wka L).countP fun x => q x.2 : Nat)) := fcnt_is q _ hlen
  have HW : Hid (∀ W0, Below w.heap.size w W0 → Boxed W0 w.heap.size 94 (.func (.func g) #[] caps) → Boxed W0 (w.heap.size + 1) 3 (.int .i64 0) →
      Calls Tryz.prog 30 #[ptr r, .slice none 0 0, .func (.func 76) #[] #[.pointer (some ⟨w.heap.size, 0, none⟩), .pointer (some ⟨w.heap.size + 1, 0, none⟩)]] W0 fun e w' => e = .returned (.tuple #[]) ∧ Boxed w' (w.heap.size + 1) 3 (.int .i64 (fcnt q (wk 8 L []))) ∧ Kept (fun b => b = w.heap.size + 1) W0 w') := by
    show ∀ W0, _ → _ → _ → _
    intro W0 hb h1 h2
    refine walk_fold 76 _ Tryz.enter76 W0 base t L M (h.later hb) [] r hr (w.heap.size + 1) 3 (fun xs => .int .i64 (fcnt q xs)) h2 (fun hF => by have := (h.fp hF).2; omega) ?_
    intro W xs v ns j ho hs hB _ hm
    have hz := hb.size
    have hbW : ∀ b, b < w.heap.size → W.heap[b]? = w.heap[b]? := fun b hl => (ho b (by omega) (by omega)).trans (hb.block b hl)
    refine (countOne_any g caps eg W w.heap.size (w.heap.size + 1) (fcnt q xs) v j (q j) ((ho _ h1.lt (by omega)).trans h1) hB (hq W hbW _ _ hm)).mono ?_
    rintro e w' ⟨rfl, k1, k2⟩
    refine ⟨rfl, ?_, k2⟩
    show Boxed w' (w.heap.size + 1) 3 (.int .i64 (fcnt q (xs ++ [(ns, j)])))
    rw [fcnt_snoc]
    exact k1
  unfold ptr at hc HW ⊢
  clear hlen
  go_enter Tryz.func54, Tryz.ntmps54
  have HZ : Hid (∀ o1 o2, Below w.heap.size w ((w.alloc o1).alloc o2)) := fun o1 o2 => (below_alloc w o1).trans ((below_alloc _ o2).mono (by simp))
  go_wp2_with (go_at_call 30; refine (HW.out _ (HZ.out _ _) ((Boxed.new w _ _).alloc _) (by have := Boxed.new (w.alloc (.cells #[.func (.func g) #[] caps] 94)) 3 (.int .i64 0); simpa using this)).mono ?_; rintro e w' ⟨rfl, h1, h2⟩; have h3 := h1.cell)
  go_ret
  refine ⟨by rw [HN.out]; rfl, (HZ.out _ _).trans (h2.below (by simp; omega) fun b hb e => by omega)⟩

end Go.Proofs.YtdlmkienogimgaaGreatDoor
