/- This text proves what Cut of package sparse tells, and what the file is behind it; nothing is turned but the file's two blocks; the condition is that the file lies there. -/
import Derived.Test.YtepnbkonhaongaaDoorF6
import Derived.Test.YtepnbkonhaongaaDoorF7
import Derived.Lib.SliceRun
namespace Go.Proofs.YtepnbkonhaongaaDoor
open Go.RowKit Go.Deep Go.Maps

/-- A file behind a cut, right or wrong. -/
def ctE (n : Int) : Nat := if isS n = true then 0 else 1
def ctoF (f : Fil) (n : Int) : Fil := if isS n = true then ctF f n.toNat else f
theorem ctoF_wel {f : Fil} (w : Wel f) (n : Int) : Wel (ctoF f n) := by
  unfold ctoF
  split
  · rename_i h
    have := isS_iff.1 h
    exact ctF_wel w (by omega)
  · exact w

/-- A block of a file is stored anew. -/
theorem MapIs.store {w : World} {b : Nat} {f f' : Fil} (h : MapIs w b f) {k : Nat} (hk : k < 16) (hc : ∀ p, p / 4 ≠ k → f'.c p = f.c p) (hh : ∀ j, f'.h j = if j = k then true else f.h j) :
    ∃ w', (Instr.mapUpdate 52 (.map (some b)) (.int .i64 (k : Int)) (quad f'.c k)).run Tryd.prog w = .ok () w' ∧ MapIs w' b f' ∧ w.mapTurned w' b := by
  obtain ⟨D, hD, hl, hk3⟩ := h
  have hsz := size_small hD hl
  obtain ⟨w', h1, h2, h3⟩ := hD.store keyed3 Tryd.underlying52 (by unfold maxLen; omega) (keyOf3 (by omega : k ≤ 1000)) (show elT (quad f'.c k) = some (.held (quad f'.c k), []) from rfl)
  refine ⟨w', h1, ⟨_, own_size h2, fun kl hkl => ?_, fun j hj16 => ?_⟩, h3⟩
  · by_cases e : kl = kyL k
    · exact ⟨k, hk, e⟩
    · rw [has_put_other e] at hkl
      exact hl kl hkl
  · rw [hh]
    by_cases e : j = k
    · subst e
      rw [if_pos rfl]
      exact ⟨has_put_same hD.isMap (kyL_is (by omega)) _, atKey_put_same hD.isMap (kyL_is (by omega)) _ _⟩
    · rw [if_neg e, has_put_other (kyL_ne e), atKey_put_other (kyL_ne e)]
      obtain ⟨g1, g2⟩ := hk3 j hj16
      refine ⟨g1, g2.trans ?_⟩
      unfold quad
      rw [hc _ (by omega), hc _ (by omega), hc _ (by omega), hc _ (by omega)]

theorem grown_stay {S : Nat → Prop} {w w' : World} {b : Nat} (h : w.grownBy w' (some b)) (hS : S b) : Stay S w w' :=
  ⟨h.os, h.tape, h.output, h.size, fun i hi hn => h.block i hi (fun e => by cases e; exact hn hS)⟩
theorem stay_alloc (S : Nat → Prop) (w : World) (o : Obj) : Stay S w (w.alloc o) := Stay.of (below_alloc w o)
/-- The size, and what is behind it, is what a cut leaves. -/
theorem ctF_size (f : Fil) (m : Nat) : (⟨m, (ctF f m).c, (ctF f m).h⟩ : Fil) = ctF f m := rfl

theorem zero3 (w : World) : (zeroValue 3).run Tryd.prog w = .ok (.int .i64 0) w := by kernel_rfl
theorem drew_frozen (w : World) (c : Array Value) (t : TypeId) (j : Nat) : (w.alloc (.cells c t)).drew.frozen? ⟨w.heap.size, j, none⟩ = false := by
  have h : (w.alloc (.cells c t)).heap[w.heap.size]? = some (.cells c t (0, 0)) := blk_alloc_new _ _
  show (w.alloc (.cells c t)).frozen? ⟨w.heap.size, j, none⟩ = false
  simp only [World.frozen?, h]
  rfl
theorem drew_cell (w : World) (c : Array Value) (t : TypeId) (j : Nat) : (w.alloc (.cells c t)).drew.cell? ⟨w.heap.size, j, none⟩ = c[j]? := cell_new w c t j

theorem clear_1 (w : World) (q0 q1 q2 q3 : Int) (ty : TypeId) : (Builtin.clear_ #[25] ty #[.slice (some ⟨w.heap.size, 1, none⟩) 3 3]).run Tryd.prog (w.alloc (.cells #[.int .i64 q0, .int .i64 q1, .int .i64 q2, .int .i64 q3] 61)).drew = .ok (.tuple #[]) (w.alloc (.cells #[.int .i64 q0, .int .i64 0, .int .i64 0, .int .i64 0] 61)).drew := by
  rw [Lib.run_clear_slice (w.alloc (.cells #[.int .i64 q0, .int .i64 q1, .int .i64 q2, .int .i64 q3] 61)).drew 25 3 ty (.int .i64 0) Tryd.underlying25 zero3 rfl rfl w.heap.size 1 3 3 (by omega) (fun j hj => by
    rw [drew_cell]
    rcases (show j = 0 ∨ j = 1 ∨ j = 2 by omega) with rfl | rfl | rfl <;> first | rfl | omega) (fun j _ => drew_frozen _ _ _ _)]
  simp [World.setCells, List.replicate, World.setCell_drew, World.setCell_alloc_at]

set_option maxHeartbeats 4000000 in
set_option maxRecDepth 100000 in
theorem sp_cut1 (w : World) (g b : Nat) (f : Fil) (h : FilM w g b f) (m k : Nat) (hm : m ≤ 64) (hk : m = 4 * k + 1) (hthere : f.h k = true) :
    Calls Tryd.prog 9 #[ptrF g, .int .i64 (m : Int)] w fun e w' => e = .returned .nilIface ∧ FilM w' g b (ctF f m) ∧ Stay (Two g b) w w' := by
  have hB1 := below_alloc w (.cells #[.int .i64 (m : Int)] 3)
  have hF1 := h.later hB1
  obtain ⟨c0, c1, f0, f1⟩ := hF1.facts
  have HS : Hid _ := fun (_ : Nat) => sp_isSize (m : Int) (w.alloc (.cells #[.int .i64 (m : Int)] 3))
  rw [isS_iff.2 (by omega)] at HS
  have hne : w.heap.size ≠ b := by have := h.lt.2; omega
  have HD : Hid _ := fun (_ : Nat) => sp_delete (w.alloc (.cells #[.int .i64 (m : Int)] 3)) b f hF1.map m w.heap.size (by rw [cell_new]; rfl) hne
  have HG : Hid (FilM (w.alloc (.cells #[.int .i64 (m : Int)] 3)) g b f) := hF1
  have HW : Hid (g ≠ b ∧ g < w.heap.size ∧ b < w.heap.size) := ⟨h.apart, h.lt⟩
  have hq : (m : Int) / 4 = (k : Int) := by omega
  have hr : (m : Int) % 4 = 1 := by omega
  have HK : Hid (m = 4 * k + 1) := hk
  clear hk hF1 h hB1
  unfold ptrF
  go_enter Tryd.func9, Tryd.ntmps9
  go_wp2_with (first
    | (go_at_call 25; refine (HS.out 0).mono ?_; rintro e w' ⟨rfl, rfl⟩)
    | (go_at_call 26; refine (HD.out 0).mono ?_; rintro e w1 ⟨rfl, hM1, hg1⟩
       have HM1 : Hid (MapIs w1 b (dlF f m)) := hM1
       have HG1 : Hid (World.grownBy _ w1 (some b)) := hg1
       have d0 := hg1.cell c0 (fun e => HW.out.1 (Option.some.inj e))
       have d1 := hg1.cell c1 (fun e => HW.out.1 (Option.some.inj e))
       have dm := hg1.cell (a := ⟨w.heap.size, 0, none⟩) (v := .int .i64 (m : Int)) (by rw [cell_new]; rfl) (fun e => hne (Option.some.inj e))))
  have hgc : w1.heap[g]? = some (.cells #[.int .i64 (f.s : Int), .map (some b)] 54 (0, 0)) := (HG1.out.block g HG.out.lt.1 (fun e => HW.out.1 (Option.some.inj e))).trans HG.out.cells
  have hfz : w1.frozen? ⟨g, 0, none⟩ = false := by simp [World.frozen?, hgc]
  have d1' : ∀ o, (w1.alloc o).cell? ⟨g, 1, none⟩ = some (.map (some b)) := fun o => (World.grownBy_alloc w1 o none).cell d1 (by simp)
  have dm' : ∀ o, (w1.alloc o).cell? ⟨w.heap.size, 0, none⟩ = some (.int .i64 (m : Int)) := fun o => (World.grownBy_alloc w1 o none).cell dm (by simp)
  have d0' : ∀ o, (w1.alloc o).cell? ⟨g, 0, none⟩ = some (.int .i64 (f.s : Int)) := fun o => (World.grownBy_alloc w1 o none).cell d0 (by simp)
  have hl : ∀ o, (Instr.lookup 52 (.map (some b)) (.int .i64 (k : Int)) true).run Tryd.prog (w1.alloc o).drew = .ok (.tuple #[quad (dlF f m).c k, .bool ((dlF f m).h k)]) (w1.alloc o).drew := fun o => (HM1.out.block (w' := (w1.alloc o).drew) ((below_alloc w1 o).block b HM1.out.lt)).look (k := k) (by omega)
  have hl0 := (HM1.out.block (w' := w1.drew) rfl).look (k := k) (by omega)
  have HST : Hid (Stay (Two g b) w w1) := (stay_alloc _ _ _).trans (grown_stay HG1.out (.inr rfl))
  obtain ⟨q0, h0⟩ : ∃ q, f.c (4 * k) = q := ⟨_, rfl⟩
  obtain ⟨q1, h1⟩ : ∃ q, f.c (4 * k + 1) = q := ⟨_, rfl⟩
  obtain ⟨q2, h2⟩ : ∃ q, f.c (4 * k + 2) = q := ⟨_, rfl⟩
  obtain ⟨q3, h3⟩ : ∃ q, f.c (4 * k + 3) = q := ⟨_, rfl⟩
  have hq4 : quad (dlF f m).c k = .agg #[.int .i64 q0, .int .i64 q1, .int .i64 q2, .int .i64 q3] := by
    rw [dlF_at f (show 4 * k < m by have := HK.out; omega)]
    unfold quad; rw [h0, h1, h2, h3]
  have hh : (dlF f m).h k = true := by
    show (f.h k && decide (4 * k < m)) = true
    rw [hthere, decide_eq_true (show 4 * k < m by have := HK.out; omega)]; rfl
  rw [hh, hq4] at hl0
  rw [hh, hq4] at hl
  have hcl := clear_1 w1 q0 q1 q2 q3
  have hk16 : k < 16 := by have := HK.out; omega
  have eP : quad (ctF f m).c k = .agg #[.int .i64 q0, .int .i64 0, .int .i64 0, .int .i64 0] := by have := HK.out; unfold quad ctF; dsimp only; rw [if_pos (by omega), h0, if_neg (by omega), if_neg (by omega), if_neg (by omega)]
  obtain ⟨O2, hO2⟩ : ∃ O, Obj.cells #[.int .i64 q0, .int .i64 0, .int .i64 0, .int .i64 0] 61 = O := ⟨_, rfl⟩
  obtain ⟨w3, u1, u2, u3⟩ := (HM1.out.block (w' := (w1.alloc O2).drew.drew) ((below_alloc w1 O2).block b HM1.out.lt)).store (f' := ctF f m) (k := k) hk16 (fun p hp => by
    have e := HK.out
    show (if p < m then f.c p else 0) = (if 4 * (p / 4) < m then f.c p else 0)
    by_cases e1 : p < m
    · rw [if_pos e1, if_pos (by omega)]
    · rw [if_neg e1, if_neg (by omega)]) (fun j => by
    show (f.h j && decide (4 * j < m)) = if j = k then true else (f.h j && decide (4 * j < m))
    by_cases e : j = k
    · subst e; rw [if_pos rfl]; exact hh
    · rw [if_neg e])
  have hst2 : Stay (Two g b) w1 (w1.alloc O2).drew.drew := ((stay_alloc _ _ _).trans (Stay.drew _ _)).trans (Stay.drew _ _)
  have hst : Stay (Two g b) w w3 := HST.out.trans (hst2.trans (Stay.map u3 (.inr rfl)))
  have hg3 : w3.heap[g]? = some (.cells #[.int .i64 (f.s : Int), .map (some b)] 54 (0, 0)) := by
    have hg2 : (w1.alloc O2).drew.drew.heap[g]? = w1.heap[g]? := (below_alloc w1 O2).block g (Array.getElem?_eq_some_iff.1 hgc).1
    exact (u3.grown.block g (Array.getElem?_eq_some_iff.1 (hg2.trans hgc)).1 (fun e => HW.out.1 (Option.some.inj e))).trans (hg2.trans hgc)
  have x0 : w3.cell? ⟨g, 0, none⟩ = some (.int .i64 (f.s : Int)) := by simp [World.cell?, hg3]
  have xf : w3.frozen? ⟨g, 0, none⟩ = false := by simp [World.frozen?, hg3]
  have xm : w3.cell? ⟨w.heap.size, 0, none⟩ = some (.int .i64 (m : Int)) := u3.grown.cell (a := ⟨w.heap.size, 0, none⟩) (show (w1.alloc O2).drew.drew.cell? ⟨w.heap.size, 0, none⟩ = some (.int .i64 (m : Int)) from dm' O2) (fun e => hne (Option.some.inj e))
  have HZ : Hid (FilM (w3.setCell ⟨g, 0, none⟩ (.int .i64 (m : Int))) g b (ctF f m) ∧ Stay (Two g b) w (w3.setCell ⟨g, 0, none⟩ (.int .i64 (m : Int)))) :=
    ⟨FilM.size (f := ⟨f.s, (ctF f m).c, (ctF f m).h⟩) ⟨hg3, u2.alike (fun _ _ => rfl) (fun _ _ => rfl)⟩ m, hst.trans (Stay.set _ _ (.inl rfl))⟩
  rw [eP, ← hO2] at u1
  clear h1 h2 h3 hM1 hg1 hh hq4 hthere eP u2 u3 hst hst2 hg3 hO2 hgc
  go_region
  go_wp2_with (simp only [hcl])
  go_region
  go_wp2
  go_ret
  exact ⟨rfl, HZ.out⟩

theorem clear_2 (w : World) (q0 q1 q2 q3 : Int) (ty : TypeId) : (Builtin.clear_ #[25] ty #[.slice (some ⟨w.heap.size, 2, none⟩) 2 2]).run Tryd.prog (w.alloc (.cells #[.int .i64 q0, .int .i64 q1, .int .i64 q2, .int .i64 q3] 61)).drew = .ok (.tuple #[]) (w.alloc (.cells #[.int .i64 q0, .int .i64 q1, .int .i64 0, .int .i64 0] 61)).drew := by
  rw [Lib.run_clear_slice (w.alloc (.cells #[.int .i64 q0, .int .i64 q1, .int .i64 q2, .int .i64 q3] 61)).drew 25 3 ty (.int .i64 0) Tryd.underlying25 zero3 rfl rfl w.heap.size 2 2 2 (by omega) (fun j hj => by
    rw [drew_cell]
    rcases (show j = 0 ∨ j = 1 ∨ j = 2 by omega) with rfl | rfl | rfl <;> first | rfl | omega) (fun j _ => drew_frozen _ _ _ _)]
  simp [World.setCells, List.replicate, World.setCell_drew, World.setCell_alloc_at]

set_option maxHeartbeats 4000000 in
set_option maxRecDepth 100000 in
theorem sp_cut2 (w : World) (g b : Nat) (f : Fil) (h : FilM w g b f) (m k : Nat) (hm : m ≤ 64) (hk : m = 4 * k + 2) (hthere : f.h k = true) :
    Calls Tryd.prog 9 #[ptrF g, .int .i64 (m : Int)] w fun e w' => e = .returned .nilIface ∧ FilM w' g b (ctF f m) ∧ Stay (Two g b) w w' := by
  have hB1 := below_alloc w (.cells #[.int .i64 (m : Int)] 3)
  have hF1 := h.later hB1
  obtain ⟨c0, c1, f0, f1⟩ := hF1.facts
  have HS : Hid _ := fun (_ : Nat) => sp_isSize (m : Int) (w.alloc (.cells #[.int .i64 (m : Int)] 3))
  rw [isS_iff.2 (by omega)] at HS
  have hne : w.heap.size ≠ b := by have := h.lt.2; omega
  have HD : Hid _ := fun (_ : Nat) => sp_delete (w.alloc (.cells #[.int .i64 (m : Int)] 3)) b f hF1.map m w.heap.size (by rw [cell_new]; rfl) hne
  have HG : Hid (FilM (w.alloc (.cells #[.int .i64 (m : Int)] 3)) g b f) := hF1
  have HW : Hid (g ≠ b ∧ g < w.heap.size ∧ b < w.heap.size) := ⟨h.apart, h.lt⟩
  have hq : (m : Int) / 4 = (k : Int) := by omega
  have hr : (m : Int) % 4 = 2 := by omega
  have HK : Hid (m = 4 * k + 2) := hk
  clear hk hF1 h hB1
  unfold ptrF
  go_enter Tryd.func9, Tryd.ntmps9
  go_wp2_with (first
    | (go_at_call 25; refine (HS.out 0).mono ?_; rintro e w' ⟨rfl, rfl⟩)
    | (go_at_call 26; refine (HD.out 0).mono ?_; rintro e w1 ⟨rfl, hM1, hg1⟩
       have HM1 : Hid (MapIs w1 b (dlF f m)) := hM1
       have HG1 : Hid (World.grownBy _ w1 (some b)) := hg1
       have d0 := hg1.cell c0 (fun e => HW.out.1 (Option.some.inj e))
       have d1 := hg1.cell c1 (fun e => HW.out.1 (Option.some.inj e))
       have dm := hg1.cell (a := ⟨w.heap.size, 0, none⟩) (v := .int .i64 (m : Int)) (by rw [cell_new]; rfl) (fun e => hne (Option.some.inj e))))
  have hgc : w1.heap[g]? = some (.cells #[.int .i64 (f.s : Int), .map (some b)] 54 (0, 0)) := (HG1.out.block g HG.out.lt.1 (fun e => HW.out.1 (Option.some.inj e))).trans HG.out.cells
  have hfz : w1.frozen? ⟨g, 0, none⟩ = false := by simp [World.frozen?, hgc]
  have d1' : ∀ o, (w1.alloc o).cell? ⟨g, 1, none⟩ = some (.map (some b)) := fun o => (World.grownBy_alloc w1 o none).cell d1 (by simp)
  have dm' : ∀ o, (w1.alloc o).cell? ⟨w.heap.size, 0, none⟩ = some (.int .i64 (m : Int)) := fun o => (World.grownBy_alloc w1 o none).cell dm (by simp)
  have d0' : ∀ o, (w1.alloc o).cell? ⟨g, 0, none⟩ = some (.int .i64 (f.s : Int)) := fun o => (World.grownBy_alloc w1 o none).cell d0 (by simp)
  have hl : ∀ o, (Instr.lookup 52 (.map (some b)) (.int .i64 (k : Int)) true).run Tryd.prog (w1.alloc o).drew = .ok (.tuple #[quad (dlF f m).c k, .bool ((dlF f m).h k)]) (w1.alloc o).drew := fun o => (HM1.out.block (w' := (w1.alloc o).drew) ((below_alloc w1 o).block b HM1.out.lt)).look (k := k) (by omega)
  have hl0 := (HM1.out.block (w' := w1.drew) rfl).look (k := k) (by omega)
  have HST : Hid (Stay (Two g b) w w1) := (stay_alloc _ _ _).trans (grown_stay HG1.out (.inr rfl))
  obtain ⟨q0, h0⟩ : ∃ q, f.c (4 * k) = q := ⟨_, rfl⟩
  obtain ⟨q1, h1⟩ : ∃ q, f.c (4 * k + 1) = q := ⟨_, rfl⟩
  obtain ⟨q2, h2⟩ : ∃ q, f.c (4 * k + 2) = q := ⟨_, rfl⟩
  obtain ⟨q3, h3⟩ : ∃ q, f.c (4 * k + 3) = q := ⟨_, rfl⟩
  have hq4 : quad (dlF f m).c k = .agg #[.int .i64 q0, .int .i64 q1, .int .i64 q2, .int .i64 q3] := by
    rw [dlF_at f (show 4 * k < m by have := HK.out; omega)]
    unfold quad; rw [h0, h1, h2, h3]
  have hh : (dlF f m).h k = true := by
    show (f.h k && decide (4 * k < m)) = true
    rw [hthere, decide_eq_true (show 4 * k < m by have := HK.out; omega)]; rfl
  rw [hh, hq4] at hl0
  rw [hh, hq4] at hl
  have hcl := clear_2 w1 q0 q1 q2 q3
  have hk16 : k < 16 := by have := HK.out; omega
  have eP : quad (ctF f m).c k = .agg #[.int .i64 q0, .int .i64 q1, .int .i64 0, .int .i64 0] := by have := HK.out; unfold quad ctF; dsimp only; rw [if_pos (by omega), h0, if_pos (by omega), h1, if_neg (by omega), if_neg (by omega)]
  obtain ⟨O2, hO2⟩ : ∃ O, Obj.cells #[.int .i64 q0, .int .i64 q1, .int .i64 0, .int .i64 0] 61 = O := ⟨_, rfl⟩
  obtain ⟨w3, u1, u2, u3⟩ := (HM1.out.block (w' := (w1.alloc O2).drew.drew) ((below_alloc w1 O2).block b HM1.out.lt)).store (f' := ctF f m) (k := k) hk16 (fun p hp => by
    have e := HK.out
    show (if p < m then f.c p else 0) = (if 4 * (p / 4) < m then f.c p else 0)
    by_cases e1 : p < m
    · rw [if_pos e1, if_pos (by omega)]
    · rw [if_neg e1, if_neg (by omega)]) (fun j => by
    show (f.h j && decide (4 * j < m)) = if j = k then true else (f.h j && decide (4 * j < m))
    by_cases e : j = k
    · subst e; rw [if_pos rfl]; exact hh
    · rw [if_neg e])
  have hst2 : Stay (Two g b) w1 (w1.alloc O2).drew.drew := ((stay_alloc _ _ _).trans (Stay.drew _ _)).trans (Stay.drew _ _)
  have hst : Stay (Two g b) w w3 := HST.out.trans (hst2.trans (Stay.map u3 (.inr rfl)))
  have hg3 : w3.heap[g]? = some (.cells #[.int .i64 (f.s : Int), .map (some b)] 54 (0, 0)) := by
    have hg2 : (w1.alloc O2).drew.drew.heap[g]? = w1.heap[g]? := (below_alloc w1 O2).block g (Array.getElem?_eq_some_iff.1 hgc).1
    exact (u3.grown.block g (Array.getElem?_eq_some_iff.1 (hg2.trans hgc)).1 (fun e => HW.out.1 (Option.some.inj e))).trans (hg2.trans hgc)
  have x0 : w3.cell? ⟨g, 0, none⟩ = some (.int .i64 (f.s : Int)) := by simp [World.cell?, hg3]
  have xf : w3.frozen? ⟨g, 0, none⟩ = false := by simp [World.frozen?, hg3]
  have xm : w3.cell? ⟨w.heap.size, 0, none⟩ = some (.int .i64 (m : Int)) := u3.grown.cell (a := ⟨w.heap.size, 0, none⟩) (show (w1.alloc O2).drew.drew.cell? ⟨w.heap.size, 0, none⟩ = some (.int .i64 (m : Int)) from dm' O2) (fun e => hne (Option.some.inj e))
  have HZ : Hid (FilM (w3.setCell ⟨g, 0, none⟩ (.int .i64 (m : Int))) g b (ctF f m) ∧ Stay (Two g b) w (w3.setCell ⟨g, 0, none⟩ (.int .i64 (m : Int)))) :=
    ⟨FilM.size (f := ⟨f.s, (ctF f m).c, (ctF f m).h⟩) ⟨hg3, u2.alike (fun _ _ => rfl) (fun _ _ => rfl)⟩ m, hst.trans (Stay.set _ _ (.inl rfl))⟩
  rw [eP, ← hO2] at u1
  clear h1 h2 h3 hM1 hg1 hh hq4 hthere eP u2 u3 hst hst2 hg3 hO2 hgc
  go_region
  go_wp2_with (simp only [hcl])
  go_region
  go_wp2
  go_ret
  exact ⟨rfl, HZ.out⟩

theorem clear_3 (w : World) (q0 q1 q2 q3 : Int) (ty : TypeId) : (Builtin.clear_ #[25] ty #[.slice (some ⟨w.heap.size, 3, none⟩) 1 1]).run Tryd.prog (w.alloc (.cells #[.int .i64 q0, .int .i64 q1, .int .i64 q2, .int .i64 q3] 61)).drew = .ok (.tuple #[]) (w.alloc (.cells #[.int .i64 q0, .int .i64 q1, .int .i64 q2, .int .i64 0] 61)).drew := by
  rw [Lib.run_clear_slice (w.alloc (.cells #[.int .i64 q0, .int .i64 q1, .int .i64 q2, .int .i64 q3] 61)).drew 25 3 ty (.int .i64 0) Tryd.underlying25 zero3 rfl rfl w.heap.size 3 1 1 (by omega) (fun j hj => by
    rw [drew_cell]
    rcases (show j = 0 ∨ j = 1 ∨ j = 2 by omega) with rfl | rfl | rfl <;> first | rfl | omega) (fun j _ => drew_frozen _ _ _ _)]
  simp [World.setCells, List.replicate, World.setCell_drew, World.setCell_alloc_at]

set_option maxHeartbeats 4000000 in
set_option maxRecDepth 100000 in
theorem sp_cut3 (w : World) (g b : Nat) (f : Fil) (h : FilM w g b f) (m k : Nat) (hm : m ≤ 64) (hk : m = 4 * k + 3) (hthere : f.h k = true) :
    Calls Tryd.prog 9 #[ptrF g, .int .i64 (m : Int)] w fun e w' => e = .returned .nilIface ∧ FilM w' g b (ctF f m) ∧ Stay (Two g b) w w' := by
  have hB1 := below_alloc w (.cells #[.int .i64 (m : Int)] 3)
  have hF1 := h.later hB1
  obtain ⟨c0, c1, f0, f1⟩ := hF1.facts
  have HS : Hid _ := fun (_ : Nat) => sp_isSize (m : Int) (w.alloc (.cells #[.int .i64 (m : Int)] 3))
  rw [isS_iff.2 (by omega)] at HS
  have hne : w.heap.size ≠ b := by have := h.lt.2; omega
  have HD : Hid _ := fun (_ : Nat) => sp_delete (w.alloc (.cells #[.int .i64 (m : Int)] 3)) b f hF1.map m w.heap.size (by rw [cell_new]; rfl) hne
  have HG : Hid (FilM (w.alloc (.cells #[.int .i64 (m : Int)] 3)) g b f) := hF1
  have HW : Hid (g ≠ b ∧ g < w.heap.size ∧ b < w.heap.size) := ⟨h.apart, h.lt⟩
  have hq : (m : Int) / 4 = (k : Int) := by omega
  have hr : (m : Int) % 4 = 3 := by omega
  have HK : Hid (m = 4 * k + 3) := hk
  clear hk hF1 h hB1
  unfold ptrF
  go_enter Tryd.func9, Tryd.ntmps9
  go_wp2_with (first
    | (go_at_call 25; refine (HS.out 0).mono ?_; rintro e w' ⟨rfl, rfl⟩)
    | (go_at_call 26; refine (HD.out 0).mono ?_; rintro e w1 ⟨rfl, hM1, hg1⟩
       have HM1 : Hid (MapIs w1 b (dlF f m)) := hM1
       have HG1 : Hid (World.grownBy _ w1 (some b)) := hg1
       have d0 := hg1.cell c0 (fun e => HW.out.1 (Option.some.inj e))
       have d1 := hg1.cell c1 (fun e => HW.out.1 (Option.some.inj e))
       have dm := hg1.cell (a := ⟨w.heap.size, 0, none⟩) (v := .int .i64 (m : Int)) (by rw [cell_new]; rfl) (fun e => hne (Option.some.inj e))))
  have hgc : w1.heap[g]? = some (.cells #[.int .i64 (f.s : Int), .map (some b)] 54 (0, 0)) := (HG1.out.block g HG.out.lt.1 (fun e => HW.out.1 (Option.some.inj e))).trans HG.out.cells
  have hfz : w1.frozen? ⟨g, 0, none⟩ = false := by simp [World.frozen?, hgc]
  have d1' : ∀ o, (w1.alloc o).cell? ⟨g, 1, none⟩ = some (.map (some b)) := fun o => (World.grownBy_alloc w1 o none).cell d1 (by simp)
  have dm' : ∀ o, (w1.alloc o).cell? ⟨w.heap.size, 0, none⟩ = some (.int .i64 (m : Int)) := fun o => (World.grownBy_alloc w1 o none).cell dm (by simp)
  have d0' : ∀ o, (w1.alloc o).cell? ⟨g, 0, none⟩ = some (.int .i64 (f.s : Int)) := fun o => (World.grownBy_alloc w1 o none).cell d0 (by simp)
  have hl : ∀ o, (Instr.lookup 52 (.map (some b)) (.int .i64 (k : Int)) true).run Tryd.prog (w1.alloc o).drew = .ok (.tuple #[quad (dlF f m).c k, .bool ((dlF f m).h k)]) (w1.alloc o).drew := fun o => (HM1.out.block (w' := (w1.alloc o).drew) ((below_alloc w1 o).block b HM1.out.lt)).look (k := k) (by omega)
  have hl0 := (HM1.out.block (w' := w1.drew) rfl).look (k := k) (by omega)
  have HST : Hid (Stay (Two g b) w w1) := (stay_alloc _ _ _).trans (grown_stay HG1.out (.inr rfl))
  obtain ⟨q0, h0⟩ : ∃ q, f.c (4 * k) = q := ⟨_, rfl⟩
  obtain ⟨q1, h1⟩ : ∃ q, f.c (4 * k + 1) = q := ⟨_, rfl⟩
  obtain ⟨q2, h2⟩ : ∃ q, f.c (4 * k + 2) = q := ⟨_, rfl⟩
  obtain ⟨q3, h3⟩ : ∃ q, f.c (4 * k + 3) = q := ⟨_, rfl⟩
  have hq4 : quad (dlF f m).c k = .agg #[.int .i64 q0, .int .i64 q1, .int .i64 q2, .int .i64 q3] := by
    rw [dlF_at f (show 4 * k < m by have := HK.out; omega)]
    unfold quad; rw [h0, h1, h2, h3]
  have hh : (dlF f m).h k = true := by
    show (f.h k && decide (4 * k < m)) = true
    rw [hthere, decide_eq_true (show 4 * k < m by have := HK.out; omega)]; rfl
  rw [hh, hq4] at hl0
  rw [hh, hq4] at hl
  have hcl := clear_3 w1 q0 q1 q2 q3
  have hk16 : k < 16 := by have := HK.out; omega
  have eP : quad (ctF f m).c k = .agg #[.int .i64 q0, .int .i64 q1, .int .i64 q2, .int .i64 0] := by have := HK.out; unfold quad ctF; dsimp only; rw [if_pos (by omega), h0, if_pos (by omega), h1, if_pos (by omega), h2, if_neg (by omega)]
  obtain ⟨O2, hO2⟩ : ∃ O, Obj.cells #[.int .i64 q0, .int .i64 q1, .int .i64 q2, .int .i64 0] 61 = O := ⟨_, rfl⟩
  obtain ⟨w3, u1, u2, u3⟩ := (HM1.out.block (w' := (w1.alloc O2).drew.drew) ((below_alloc w1 O2).block b HM1.out.lt)).store (f' := ctF f m) (k := k) hk16 (fun p hp => by
    have e := HK.out
    show (if p < m then f.c p else 0) = (if 4 * (p / 4) < m then f.c p else 0)
    by_cases e1 : p < m
    · rw [if_pos e1, if_pos (by omega)]
    · rw [if_neg e1, if_neg (by omega)]) (fun j => by
    show (f.h j && decide (4 * j < m)) = if j = k then true else (f.h j && decide (4 * j < m))
    by_cases e : j = k
    · subst e; rw [if_pos rfl]; exact hh
    · rw [if_neg e])
  have hst2 : Stay (Two g b) w1 (w1.alloc O2).drew.drew := ((stay_alloc _ _ _).trans (Stay.drew _ _)).trans (Stay.drew _ _)
  have hst : Stay (Two g b) w w3 := HST.out.trans (hst2.trans (Stay.map u3 (.inr rfl)))
  have hg3 : w3.heap[g]? = some (.cells #[.int .i64 (f.s : Int), .map (some b)] 54 (0, 0)) := by
    have hg2 : (w1.alloc O2).drew.drew.heap[g]? = w1.heap[g]? := (below_alloc w1 O2).block g (Array.getElem?_eq_some_iff.1 hgc).1
    exact (u3.grown.block g (Array.getElem?_eq_some_iff.1 (hg2.trans hgc)).1 (fun e => HW.out.1 (Option.some.inj e))).trans (hg2.trans hgc)
  have x0 : w3.cell? ⟨g, 0, none⟩ = some (.int .i64 (f.s : Int)) := by simp [World.cell?, hg3]
  have xf : w3.frozen? ⟨g, 0, none⟩ = false := by simp [World.frozen?, hg3]
  have xm : w3.cell? ⟨w.heap.size, 0, none⟩ = some (.int .i64 (m : Int)) := u3.grown.cell (a := ⟨w.heap.size, 0, none⟩) (show (w1.alloc O2).drew.drew.cell? ⟨w.heap.size, 0, none⟩ = some (.int .i64 (m : Int)) from dm' O2) (fun e => hne (Option.some.inj e))
  have HZ : Hid (FilM (w3.setCell ⟨g, 0, none⟩ (.int .i64 (m : Int))) g b (ctF f m) ∧ Stay (Two g b) w (w3.setCell ⟨g, 0, none⟩ (.int .i64 (m : Int)))) :=
    ⟨FilM.size (f := ⟨f.s, (ctF f m).c, (ctF f m).h⟩) ⟨hg3, u2.alike (fun _ _ => rfl) (fun _ _ => rfl)⟩ m, hst.trans (Stay.set _ _ (.inl rfl))⟩
  rw [eP, ← hO2] at u1
  clear h1 h2 h3 hM1 hg1 hh hq4 hthere eP u2 u3 hst hst2 hg3 hO2 hgc
  go_region
  go_wp2_with (simp only [hcl])
  go_region
  go_wp2
  go_ret
  exact ⟨rfl, HZ.out⟩

set_option maxHeartbeats 4000000 in
set_option maxRecDepth 100000 in
theorem sp_cut0 (w : World) (g b : Nat) (f : Fil) (h : FilM w g b f) (m k R : Nat) (hm : m ≤ 64) (hR : R < 4) (hk : m = 4 * k + R) (hthere : (f.h k && decide (4 * k < m)) = false) (hole : ∀ p, f.h (p / 4) = false → f.c p = 0) :
    Calls Tryd.prog 9 #[ptrF g, .int .i64 (m : Int)] w fun e w' => e = .returned .nilIface ∧ FilM w' g b (ctF f m) ∧ Stay (Two g b) w w' := by
  have hB1 := below_alloc w (.cells #[.int .i64 (m : Int)] 3)
  have hF1 := h.later hB1
  obtain ⟨c0, c1, f0, f1⟩ := hF1.facts
  have HS : Hid _ := fun (_ : Nat) => sp_isSize (m : Int) (w.alloc (.cells #[.int .i64 (m : Int)] 3))
  rw [isS_iff.2 (by omega)] at HS
  have hne : w.heap.size ≠ b := by have := h.lt.2; omega
  have HD : Hid _ := fun (_ : Nat) => sp_delete (w.alloc (.cells #[.int .i64 (m : Int)] 3)) b f hF1.map m w.heap.size (by rw [cell_new]; rfl) hne
  have HG : Hid (FilM (w.alloc (.cells #[.int .i64 (m : Int)] 3)) g b f) := hF1
  have HW : Hid (g ≠ b ∧ g < w.heap.size ∧ b < w.heap.size) := ⟨h.apart, h.lt⟩
  have hq : (m : Int) / 4 = (k : Int) := by omega
  have hr : (m : Int) % 4 = (R : Int) := by omega
  have HK : Hid (m = 4 * k + R) := hk
  clear hk hF1 h hB1
  unfold ptrF
  go_enter Tryd.func9, Tryd.ntmps9
  go_wp2_with (first
    | (go_at_call 25; refine (HS.out 0).mono ?_; rintro e w' ⟨rfl, rfl⟩)
    | (go_at_call 26; refine (HD.out 0).mono ?_; rintro e w1 ⟨rfl, hM1, hg1⟩
       have HM1 : Hid (MapIs w1 b (dlF f m)) := hM1
       have HG1 : Hid (World.grownBy _ w1 (some b)) := hg1
       have d0 := hg1.cell c0 (fun e => HW.out.1 (Option.some.inj e))
       have d1 := hg1.cell c1 (fun e => HW.out.1 (Option.some.inj e))
       have dm := hg1.cell (a := ⟨w.heap.size, 0, none⟩) (v := .int .i64 (m : Int)) (by rw [cell_new]; rfl) (fun e => hne (Option.some.inj e))))
  have hgc : w1.heap[g]? = some (.cells #[.int .i64 (f.s : Int), .map (some b)] 54 (0, 0)) := (HG1.out.block g HG.out.lt.1 (fun e => HW.out.1 (Option.some.inj e))).trans HG.out.cells
  have hfz : w1.frozen? ⟨g, 0, none⟩ = false := by simp [World.frozen?, hgc]
  have d1' : ∀ o, (w1.alloc o).cell? ⟨g, 1, none⟩ = some (.map (some b)) := fun o => (World.grownBy_alloc w1 o none).cell d1 (by simp)
  have dm' : ∀ o, (w1.alloc o).cell? ⟨w.heap.size, 0, none⟩ = some (.int .i64 (m : Int)) := fun o => (World.grownBy_alloc w1 o none).cell dm (by simp)
  have d0' : ∀ o, (w1.alloc o).cell? ⟨g, 0, none⟩ = some (.int .i64 (f.s : Int)) := fun o => (World.grownBy_alloc w1 o none).cell d0 (by simp)
  have hl : ∀ o, (Instr.lookup 52 (.map (some b)) (.int .i64 (k : Int)) true).run Tryd.prog (w1.alloc o).drew = .ok (.tuple #[quad (dlF f m).c k, .bool ((dlF f m).h k)]) (w1.alloc o).drew := fun o => (HM1.out.block (w' := (w1.alloc o).drew) ((below_alloc w1 o).block b HM1.out.lt)).look (k := k) (by omega)
  have hl0 := (HM1.out.block (w' := w1.drew) rfl).look (k := k) (by omega)
  have HST : Hid (Stay (Two g b) w w1) := (stay_alloc _ _ _).trans (grown_stay HG1.out (.inr rfl))
  have hh : (dlF f m).h k = false := hthere
  have hq4 : quad (dlF f m).c k = zeroQ := by
    have e := HK.out
    by_cases hlt : 4 * k < m
    · rw [dlF_at f hlt]
      have hfk : f.h k = false := by rw [decide_eq_true hlt, Bool.and_true] at hthere; exact hthere
      unfold quad zeroQ
      rw [hole _ (by rw [show 4 * k / 4 = k by omega]; exact hfk), hole _ (by rw [show (4 * k + 1) / 4 = k by omega]; exact hfk), hole _ (by rw [show (4 * k + 2) / 4 = k by omega]; exact hfk), hole _ (by rw [show (4 * k + 3) / 4 = k by omega]; exact hfk)]
    · exact dlF_off f hlt
  unfold zeroQ at hq4
  rw [hh, hq4] at hl0
  rw [hh, hq4] at hl
  obtain ⟨O2, hO2⟩ : ∃ O, Obj.cells #[.int .i64 0, .int .i64 0, .int .i64 0, .int .i64 0] 61 = O := ⟨_, rfl⟩
  have hst2 : Stay (Two g b) w1 (w1.alloc O2).drew := (stay_alloc _ _ _).trans (Stay.drew _ _)
  have hst : Stay (Two g b) w (w1.alloc O2).drew := HST.out.trans hst2
  have hg2 : (w1.alloc O2).drew.heap[g]? = w1.heap[g]? := (below_alloc w1 O2).block g (Array.getElem?_eq_some_iff.1 hgc).1
  have hM2 : MapIs (w1.alloc O2).drew b (ctF f m) := (HM1.out.block (w' := (w1.alloc O2).drew) ((below_alloc w1 O2).block b HM1.out.lt)).alike (fun p _ => by
    have e := HK.out
    show (if p < m then f.c p else 0) = (if 4 * (p / 4) < m then f.c p else 0)
    by_cases e1 : p < m
    · rw [if_pos e1, if_pos (by omega)]
    · rw [if_neg e1]
      by_cases e2 : 4 * (p / 4) < m
      · rw [if_pos e2]
        have ek : p / 4 = k := by omega
        have hfk : f.h k = false := by rw [ek] at e2; rw [decide_eq_true e2, Bool.and_true] at hthere; exact hthere
        rw [hole p (by rw [ek]; exact hfk)]
      · rw [if_neg e2]) (fun _ _ => rfl)
  have HZ : Hid (FilM ((w1.alloc O2).drew.setCell ⟨g, 0, none⟩ (.int .i64 (m : Int))) g b (ctF f m) ∧ Stay (Two g b) w ((w1.alloc O2).drew.setCell ⟨g, 0, none⟩ (.int .i64 (m : Int)))) :=
    ⟨FilM.size (f := ⟨f.s, (ctF f m).c, (ctF f m).h⟩) ⟨hg2.trans hgc, hM2.alike (fun _ _ => rfl) (fun _ _ => rfl)⟩ m, hst.trans (Stay.set _ _ (.inl rfl))⟩
  rw [← hO2] at HZ
  have hfz' : ∀ o, (w1.alloc o).frozen? ⟨g, 0, none⟩ = false := fun o => by
    have := ((below_alloc w1 o).block g (Array.getElem?_eq_some_iff.1 hgc).1).trans hgc
    simp [World.frozen?, this]
  clear hM1 hg1 hh hq4 hthere hst hst2 hg2 hM2 hO2 hgc hole
  go_region
  go_wp2
  go_ret
  exact ⟨rfl, HZ.out⟩

set_option maxHeartbeats 4000000 in
theorem sp_cutno (w : World) (g b : Nat) (f : Fil) (h : FilM w g b f) (n : Int) (hn : isS n = false) :
    Calls Tryd.prog 9 #[ptrF g, .int .i64 n] w fun e w' => e = .returned (errV 1) ∧ FilM w' g b f ∧ Stay (Two g b) w w' := by
  have HS : Hid _ := fun (_ : Nat) => sp_isSize n (w.alloc (.cells #[.int .i64 n] 3))
  have HG : Hid (FilM (w.alloc (.cells #[.int .i64 n] 3)) g b f) := h.later (below_alloc _ _)
  rw [hn] at HS
  rw [errV_pos (by decide)]
  clear hn h
  unfold ptrF
  go_enter Tryd.func9, Tryd.ntmps9
  go_wp2_with (go_at_call 25; refine (HS.out 0).mono ?_; rintro e w' ⟨rfl, rfl⟩)
  go_ret
  exact ⟨rfl, HG.out, stay_alloc _ _ _⟩

theorem sp_cut (w : World) (g b : Nat) (f : Fil) (h : FilM w g b f) (hw : Wel f) (n : Int) :
    Calls Tryd.prog 9 #[ptrF g, .int .i64 n] w fun e w' => e = .returned (errV (ctE n)) ∧ FilM w' g b (ctoF f n) ∧ Stay (Two g b) w w' := by
  unfold ctE ctoF
  cases hS : isS n with
  | false =>
    rw [if_neg (by decide), if_neg (by decide)]
    exact sp_cutno w g b f h n hS
  | true =>
    rw [if_pos rfl, if_pos rfl, errV_zero]
    obtain ⟨h0, h1⟩ := isS_iff.1 hS
    obtain ⟨m, rfl⟩ : ∃ m : Nat, n = (m : Int) := ⟨n.toNat, by omega⟩
    rw [Int.toNat_natCast]
    cases hk : (f.h (m / 4) && decide (4 * (m / 4) < m)) with
    | false => exact sp_cut0 w g b f h m (m / 4) (m % 4) (by omega) (by omega) (by omega) hk hw.hole
    | true =>
      rw [Bool.and_eq_true, decide_eq_true_eq] at hk
      rcases (show m % 4 = 1 ∨ m % 4 = 2 ∨ m % 4 = 3 by omega) with e | e | e
      · exact sp_cut1 w g b f h m (m / 4) (by omega) (by omega) hk.1
      · exact sp_cut2 w g b f h m (m / 4) (by omega) (by omega) hk.1
      · exact sp_cut3 w g b f h m (m / 4) (by omega) (by omega) hk.1

end Go.Proofs.YtepnbkonhaongaaDoor
