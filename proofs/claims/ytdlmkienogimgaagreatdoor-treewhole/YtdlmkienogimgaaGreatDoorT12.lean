/- This text proves what Walk answers: all paths of names, those of directories with a / behind, in new memory; old memory is as it was; the condition is that the tree lies there. -/
import Derived.Test.YtdlmkienogimgaaGreatDoorT11
import Derived.Test.YtdlmkienogimgaaGreatDoorQ7s
namespace Go.Proofs.YtdlmkienogimgaaGreatDoor
open Go.RowKit Go.Deep Go.Shelf Go.Maps

/-- The world of a walk that tells paths. -/
structure WkSt (w0 : World) (B : Nat) (M : Nat → Option Nat) (xs : List Ent) (F : Nat → Prop) (w : World) : Prop where
  size : w0.heap.size ≤ w.heap.size
  old : ∀ b, b < w0.heap.size → b ≠ B → w.heap[b]? = w0.heap[b]?
  low : B < w0.heap.size
  box : ∃ v, Boxed w B 26 v ∧ w.ownsRow w0.heap.size 9 1 v xs.length (cellsS (xs.map (tx M))) ∧ ∀ b, F b ↔ b = B ∨ v.ownBlock = some b

set_option maxRecDepth 100000 in
theorem Tryz.enter31 : ∀ args w, (callFunc 31 args).run Tryz.prog w = .ok (.enter 31 args) w := fun _ _ => by rfl

theorem push_facts {w w1 w2 : World} {base B n : Nat} {v v' : Value} {ls : List (List UInt8)} {z : List UInt8} (hB : Boxed w B 26 v) (hrow : w.ownsRow base 9 1 v n (cellsS ls)) (hb : Below w.heap.size w w1)
    (h1 : w2.ownsRow base 9 1 v' (n + 1) (cellsS (ls ++ [z]))) (h3 : Kept (fun b => v.ownBlock = some b) w1 w2) (h4 : Lies w1 w2 base n v v' ls z) :
    Boxed w2 B 26 v ∧ Boxed (w2.setCell ⟨B, 0, none⟩ v') B 26 v' ∧ (w2.setCell ⟨B, 0, none⟩ v').ownsRow base 9 1 v' (n + 1) (cellsS (ls ++ [z])) ∧ (∀ b, v'.ownBlock = some b → v.ownBlock = some b ∨ w.heap.size ≤ b) ∧ Kept (fun b => b = B ∨ v.ownBlock = some b) w (w2.setCell ⟨B, 0, none⟩ v') := by
  have hne : v.ownBlock ≠ some B := fun e => hB.not_row (e := 9) (by decide) hrow e.symm
  have hB2 : Boxed w2 B 26 v := (h3.block B (Nat.lt_of_lt_of_le hB.lt hb.size) hne).trans ((hb.block B hB.lt).trans hB)
  have hne' : v'.ownBlock ≠ some B := fun e => hB2.not_row (e := 9) (by decide) h1 e.symm
  have hO : ∀ b, v'.ownBlock = some b → v.ownBlock = some b ∨ w.heap.size ≤ b := fun b hb' => by
    rcases h4 with ⟨h5, _⟩ | h5
    · exact .inl (by rw [← h5]; exact hb')
    · exact .inr (Nat.le_trans hb.size (h5 b hb').1)
  refine ⟨hB2, hB2.set v', own_kept h1 fun a ha => Below.heap_setCell w2 ⟨B, 0, none⟩ v' a (fun e => hne' (by rw [ha, e])), hO, ?_⟩
  have k := (Kept.of_below (F := fun _ => False) hb).trans h3 (H := fun b => b = B ∨ v.ownBlock = some b) (fun _ _ h => absurd h id) fun _ _ h => .inr h
  exact k.trans (G := fun b => b = B) ⟨rfl, rfl, rfl, by simp, fun b _ hne => Below.heap_setCell w2 ⟨B, 0, none⟩ v' b hne⟩ (fun _ _ h => h) fun _ _ h => .inl h

set_option maxHeartbeats 4000000 in
set_option maxRecDepth 100000 in
theorem wkOne_any (w : World) (base B n j : Nat) (M : Nat → Option Nat) (nv v : Value) (ns : List (List UInt8)) (ls : List (List UInt8)) (hnv : StrsIs w nv ns) (hl : ns.length ≤ 8) (hn : ∀ k ∈ ns, isN k = true) (hj : NodeAt w j (M j)) (hB : Boxed w B 26 v) (hrow : w.ownsRow base 9 1 v n (cellsS ls)) (hbase : base ≤ w.heap.size) (hnl : n ≤ 1000000) :
    Calls Tryz.prog 31 #[nv, ptr j, .pointer (some ⟨B, 0, none⟩)] w fun e w' => e = .returned (.tuple #[]) ∧ ∃ v', Boxed w' B 26 v' ∧ w'.ownsRow base 9 1 v' (n + 1) (cellsS (ls ++ [tx M (ns, j)])) ∧ (∀ b, v'.ownBlock = some b → v.ownBlock = some b ∨ w.heap.size ≤ b) ∧ Kept (fun b => b = B ∨ v.ownBlock = some b) w w' := by
  have hw := wid_names hn
  have hjl : (Lib.join ns [47]).length ≤ 100 := by
    have := shw_len ns
    unfold shw at this
    rw [List.length_cons] at this
    split at this
    · omega
    · omega
  have HJ : Hid _ := fun (_ : Nat) => join_any w nv ns hnv (by omega) (by omega)
  have HD : Hid _ := fun (w' : World) (hb : Below w.heap.size w w') => isDir_any w' j (M j) ((hb.block _ hj.lt).trans hj)
  obtain ⟨x, hx⟩ : ∃ x, bs (Lib.join ns [47]) = x := ⟨_, rfl⟩
  have hxs : x.size ≤ 100 := by rw [← hx, size_bs]; exact hjl
  have HX : Hid (⟨#[47]⟩ ++ x = bs (shw ns)) := by show (⟨#[47]⟩ : ByteArray) ++ x = bs (shw ns); rw [app_bs, ← hx, data_bs]; rfl
  have HB : Hid (Boxed w B 26 v) := hB
  have HR : Hid (w.ownsRow base 9 1 v n (cellsS ls)) := hrow
  have HO : Hid (∀ w1, Below w.heap.size w w1 → ∀ o, (w1.alloc o).ownsRow base 9 1 v n (cellsS ls)) := by
    show ∀ w1, Below w.heap.size w w1 → ∀ o, (w1.alloc o).ownsRow base 9 1 v n (cellsS ls)
    exact fun w1 hb o => (own_kept hrow fun a ha => hb.block a (hrow.lt a ha).2).alloc o
  have HL : Hid (∀ w1, Below w.heap.size w w1 → ∀ o, base ≤ (w1.alloc o).heap.size) := by
    show ∀ w1, Below w.heap.size w w1 → ∀ o, base ≤ (w1.alloc o).heap.size
    intro w1 hb o
    have := hb.size
    simp; omega
  have hso := size_one
  rw [hx] at HJ
  unfold ptr at HD ⊢
  clear hx hjl hw hnv hl hn hj hB hrow
  cases hM : M j with
  | none =>
    have HT : Hid (tx M (ns, j) = shw ns) := by show tx M (ns, j) = shw ns; unfold tx; rw [hM]; simp
    rw [HT.out]
    rw [hM] at HD
    clear HT hM
    generalize hy : (⟨#[47]⟩ : ByteArray) ++ x = y at *
    generalize shw ns = z at *
    obtain rfl : y = bs z := HX.out
    go_enter Tryz.func31, Tryz.ntmps31
    go_wp2_with (first
      | (go_at_call 32; refine (HJ.out 0).mono ?_; rintro e w1 ⟨rfl, hb⟩; have hB1 : Boxed w1 B 26 v := (hb.block _ (Boxed.lt HB.out)).trans HB.out; have hc1 := hB1.cell)
      | (go_at_call 33; refine (HD.out _ hb).mono ?_; rintro e w' ⟨rfl, rfl⟩)
      | (at_builtin; refine wpList_append_str rfl (.tmp 13) (.tmp 15) rfl base v n ls (by simp [Act.eval]) (HO.out _ hb _) (.slice (some ⟨w1.heap.size, 0, none⟩) 1 1) z (by simp [Act.eval]) (strs_one w1 z) hnl (HL.out _ hb _) ?_; intro v' w2 h1 h2 h3 h4; obtain ⟨ga, gc, rfl, _, _⟩ := own_where h1 (Nat.succ_pos _); obtain ⟨g1, g2, g3, g4, g5⟩ := push_facts HB.out HR.out (hb.trans ((below_alloc w1 _).mono hb.size)) h1 h3 h4; have g6 := Boxed.cell g1; have g7 := Boxed.frozen g1))
    go_end0
    exact ⟨rfl, _, g2, g3, g4, g5⟩
  | some m =>
    have HT : Hid (bs (shw ns) ++ ⟨#[47]⟩ = bs (tx M (ns, j))) := by show bs (shw ns) ++ ⟨#[47]⟩ = bs (tx M (ns, j)); rw [app_bs, data_bs]; unfold tx; rw [hM]; simp
    have hss : (bs (shw ns)).size ≤ 101 := by rw [← HX.out, size_app, size_one]; omega
    rw [hM] at HD
    clear hM
    generalize hy : (⟨#[47]⟩ : ByteArray) ++ x = y at *
    obtain ⟨u, hu⟩ : ∃ u, bs (shw ns) = u := ⟨_, rfl⟩
    rw [hu] at HX HT hss
    obtain rfl : y = u := HX.out
    generalize hv : y ++ (⟨#[47]⟩ : ByteArray) = y2 at *
    generalize tx M (ns, j) = z at *
    obtain rfl : y2 = bs z := HT.out
    clear hu HX HT
    go_enter Tryz.func31, Tryz.ntmps31
    go_wp2_with (first
      | (go_at_call 32; refine (HJ.out 0).mono ?_; rintro e w1 ⟨rfl, hb⟩; have hB1 : Boxed w1 B 26 v := (hb.block _ (Boxed.lt HB.out)).trans HB.out; have hc1 := hB1.cell)
      | (go_at_call 33; refine (HD.out _ hb).mono ?_; rintro e w' ⟨rfl, rfl⟩)
      | (at_builtin; refine wpList_append_str rfl (.tmp 13) (.tmp 15) rfl base v n ls (by simp [Act.eval]) (HO.out _ hb _) (.slice (some ⟨w1.heap.size, 0, none⟩) 1 1) z (by simp [Act.eval]) (strs_one w1 z) hnl (HL.out _ hb _) ?_; intro v' w2 h1 h2 h3 h4; obtain ⟨ga, gc, rfl, _, _⟩ := own_where h1 (Nat.succ_pos _); obtain ⟨g1, g2, g3, g4, g5⟩ := push_facts HB.out HR.out (hb.trans ((below_alloc w1 _).mono hb.size)) h1 h3 h4; have g6 := Boxed.cell g1; have g7 := Boxed.frozen g1))
    go_end0
    exact ⟨rfl, _, g2, g3, g4, g5⟩


set_option maxHeartbeats 4000000 in
set_option maxRecDepth 100000 in
theorem treeWalk_any (w : World) (base t : Nat) (L : List Ent) (M : Nat → Option Nat) (h : TreeAt w base t L M) :
    Calls Tryz.prog 8 #[ptr t] w fun e w' => ∃ v, e = .returned v ∧ w'.ownsRow w.heap.size 9 1 v (txs L M).length (cellsS (txs L M)) ∧ Below w.heap.size w w' := by
  obtain ⟨r, hr, _⟩ := h.good.start
  have hc := fun o => ((h.tree r hr).alloc o).cell
  have HW : Hid (∀ o, Boxed (w.alloc o) w.heap.size 26 (.slice none 0 0) → Calls Tryz.prog 30 #[ptr r, .slice none 0 0, .func (.func 31) #[] #[.pointer (some ⟨w.heap.size, 0, none⟩)]] (w.alloc o) fun e w' => e = .returned (.tuple #[]) ∧ ∃ v, Boxed w' w.heap.size 26 v ∧ w'.ownsRow w.heap.size 9 1 v (txs L M).length (cellsS (txs L M)) ∧ Below w.heap.size w w') := by
    show ∀ o, _ → _
    intro o hB
    have hlen : (wk 8 L []).length ≤ 1000000 := by have := wka_len h.good; have := h.good.few; unfold wka at *; omega
    have hb0 := below_alloc w o
    have hFB : ¬ Fp t L M w.heap.size := fun hF => by have := (h.fp hF).2; omega
    have hsz : (w.alloc o).heap.size = w.heap.size + 1 := by simp
    have := walk_any 31 #[.pointer (some ⟨w.heap.size, 0, none⟩)] Tryz.enter31 base t L M [] (w.alloc o).heap.size (wk 8 L []).length (WkSt (w.alloc o) w.heap.size M)
      (fun xs F W k b hb => by
        obtain ⟨v, k1, k2, k3⟩ := k.box
        rcases (k3 b).1 hb with rfl | hb
        · exact k1.lt
        · exact (k2.lt b hb).2)
      (fun xs F W k => (h.later hb0).frame fun b hb => k.old b (((h.later hb0).fp hb).2) (fun e => hFB (e ▸ hb)))
      (fun xs F W W' k hk => by
        obtain ⟨v, k1, k2, k3⟩ := k.box
        have hs : ∀ b, b < W.heap.size → (F b ∨ b < (w.alloc o).heap.size) → W'.heap[b]? = W.heap[b]? := fun b hb hc => hk.block b hb fun ⟨h1, h2⟩ => by
          rcases hc with hc | hc
          · exact h1 hc
          · omega
        exact ⟨Nat.le_trans k.size hk.size, fun b hb hne => (hs b (Nat.lt_of_lt_of_le hb k.size) (.inr hb)).trans (k.old b hb hne), k.low,
          v, (hs _ k1.lt (.inl ((k3 _).2 (.inl rfl)))).trans k1, own_kept k2 fun a ha => hs a (k2.lt a ha).2 (.inl ((k3 a).2 (.inr ha))), k3⟩)
      (fun xs F W nv ns j k hnv hm _ hB0 hN => by
        obtain ⟨v, k1, k2, k3⟩ := k.box
        obtain ⟨hnm1, hnm2⟩ := h.good.nam _ _ hm
        obtain ⟨hnj, _⟩ := h.node _ _ hm
        have hnj2 : NodeAt W j (M j) := (k.old _ (by rw [hsz]; have := hnj.lt; omega) (by have := hnj.lt; omega)).trans ((hb0.block _ hnj.lt).trans hnj)
        refine (wkOne_any W (w.alloc o).heap.size w.heap.size xs.length j M nv v ns _ hnv hnm1 hnm2 hnj2 k1 k2 hB0 (by omega)).mono ?_
        rintro e w' ⟨rfl, v', g1, g2, g3, g4⟩
        refine ⟨rfl, fun b => b = w.heap.size ∨ v'.ownBlock = some b, ⟨Nat.le_trans k.size g4.size, fun b hb hne => (g4.block b (Nat.lt_of_lt_of_le hb k.size) ?_).trans (k.old b hb hne), k.low, v', g1, ?_, fun b => Iff.rfl⟩, fun b hb => ?_, ⟨g4.os, g4.tape, g4.output, g4.size, fun b hb hn => g4.block b hb fun e => hn ((k3 b).2 e)⟩⟩
        · rintro (e | e)
          · exact hne e
          · have := (k2.lt b e).1
            omega
        · rw [List.length_append, List.map_append]
          exact g2
        · rcases hb with rfl | hb
          · exact .inl ((k3 _).2 (.inl rfl))
          · rcases g3 b hb with h5 | h5
            · exact .inl ((k3 b).2 (.inr h5))
            · exact .inr h5)
      8 [] r (w.alloc o) (.slice none 0 0) (fun b => b = w.heap.size ∨ False) [] hr (by omega) ⟨Nat.le_refl _, fun _ _ _ => rfl, by rw [hsz]; omega, _, hB, World.ownsRow_nil _ _ _ _, fun b => by simp [Value.ownBlock]⟩ (World.ownsRow_nil _ _ _ _) (fun a ha => by cases ha) (Nat.le_refl _) (by simp)
    refine this.mono ?_
    rintro e w' ⟨rfl, F', k, _, hk, _⟩
    rw [List.nil_append, List.nil_append, pref_nil] at k
    obtain ⟨v, k1, k2, k3⟩ := k.box
    refine ⟨rfl, v, k1, ?_, hb0.trans (hk.below (by rw [hsz]; omega) fun b hb e => ?_)⟩
    · have : (txs L M).length = (wk 8 L []).length := by unfold txs wka; rw [List.length_map]
      rw [this]
      exact own_low k2 (by rw [hsz]; omega)
    · rcases e with (rfl | e) | e
      · omega
      · exact e
      · cases e
  unfold ptr at hc HW ⊢
  go_enter Tryz.func8, Tryz.ntmps8
  go_wp2_with (go_at_call 30; refine (HW.out _ (Boxed.new w _ _)).mono ?_; rintro e w' ⟨rfl, v, h1, h2, h3⟩; have h4 := h1.cell)
  go_ret
  exact ⟨v, rfl, h2, h3⟩

end Go.Proofs.YtdlmkienogimgaaGreatDoor
