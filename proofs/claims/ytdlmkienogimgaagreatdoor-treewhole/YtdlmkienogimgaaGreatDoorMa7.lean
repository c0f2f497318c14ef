/- This text joins 3 parts of a proof. (1) This text proves plain facts on a walk through a tree of directories: which blocks stay as they were, and what append onto a slice of texts of the walk's own leaves; the conditions are that the slices lie there. (2) This text proves what a node's walk does: it calls what it is handed for each name below the node, in their order, a directory's ahead of those in it; for whatever is handed to it, if this leaves the tree alone; the conditions are that the tree lies there. (3) This text proves what a walk comes to whose visits write one variable alone, and what count, holds and deepest answer; old memory is as it was; the conditions are that the tree lies there. -/
import Derived.Test.YtdlmkienogimgaaGreatDoorMa6
import Derived.ArgAppend
namespace Go.Proofs.YtdlmkienogimgaaGreatDoor
open Go.RowKit Go.Deep Go.Shelf Go.Maps

/-- All blocks but some are as they were. -/
structure Kept (F : Nat → Prop) (w w' : World) : Prop where
  os : w'.os = w.os
  tape : w'.tape = w.tape
  output : w'.output = w.output
  size : w.heap.size ≤ w'.heap.size
  block : ∀ b, b < w.heap.size → ¬ F b → w'.heap[b]? = w.heap[b]?

theorem Kept.refl (F : Nat → Prop) (w : World) : Kept F w w := ⟨rfl, rfl, rfl, Nat.le_refl _, fun _ _ _ => rfl⟩
theorem Kept.of_below {F : Nat → Prop} {w w' : World} (h : Below w.heap.size w w') : Kept F w w' := ⟨h.os, h.tape, h.output, h.size, fun b hb _ => h.block b hb⟩
theorem Kept.trans {F G H : Nat → Prop} {a b c : World} (h : Kept F a b) (k : Kept G b c) (hF : ∀ x, x < a.heap.size → F x → H x) (hG : ∀ x, x < a.heap.size → G x → H x) : Kept H a c :=
  ⟨k.os.trans h.os, k.tape.trans h.tape, k.output.trans h.output, Nat.le_trans h.size k.size, fun x hx hn =>
    (k.block x (Nat.lt_of_lt_of_le hx h.size) (fun g => hn (hG x hx g))).trans (h.block x hx (fun f => hn (hF x hx f)))⟩
theorem Kept.below {F : Nat → Prop} {w w' : World} {B : Nat} (h : Kept F w w') (hB : B ≤ w.heap.size) (hF : ∀ b, b < B → ¬ F b) : Below B w w' :=
  ⟨h.os, h.tape, h.output, h.size, fun b hb => h.block b (Nat.lt_of_lt_of_le hb hB) (hF b hb)⟩

theorem own_kept {w w' : World} {base n : Nat} {v : Value} {xs : List Value} (h : w.ownsRow base 9 1 v n xs) (e : ∀ a, v.ownBlock = some a → w'.heap[a]? = w.heap[a]?) : w'.ownsRow base 9 1 v n xs := by
  refine ⟨h.1, ?_⟩
  rcases h.2 with h0 | ⟨g, cap, cur, rfl, h2, h3, h4⟩
  · exact .inl h0
  · exact .inr ⟨g, cap, cur, rfl, h2, (e g rfl).trans h3, h4⟩

/-- The first texts of a row of the call's own. -/
theorem own_first {w : World} {base g n cap : Nat} {ls : List (List UInt8)} {z : List UInt8} (hl : ls.length = n) (h : w.ownsRow base 9 1 (.slice (some ⟨g, 0, none⟩) (n + 1) cap) (n + 1) (cellsS (ls ++ [z]))) : w.ownsRow base 9 1 (.slice (some ⟨g, 0, none⟩) n cap) n (cellsS ls) := by
  refine ⟨by rw [cellsS_len]; omega, .inr ?_⟩
  rcases h.2 with ⟨h', _⟩ | ⟨g', cap', cur, h', hb, hg, hnc, hcm, hcs, htake⟩
  · simp at h'
  · simp only [Value.slice.injEq, Option.some.injEq, Addr.mk.injEq, and_true, true_and] at h'
    obtain ⟨rfl, rfl⟩ := h'
    refine ⟨g, cap, cur, rfl, hb, hg, by omega, hcm, hcs, ?_⟩
    have e : cur.toList.take (n * 1) = (cur.toList.take ((n + 1) * 1)).take (n * 1) := by rw [List.take_take]; congr 1; omega
    rw [e, htake, show cellsS (ls ++ [z]) = cellsS ls ++ cellsS [z] by simp [cellsS], List.take_left' (by rw [cellsS_len]; omega)]

/-- Where the new slice lies: in the old one's block, of which the old one stays the front, or in a new one. -/
def Lies (w w' : World) (base n : Nat) (v v' : Value) (ls : List (List UInt8)) (z : List UInt8) : Prop :=
  (v'.ownBlock = v.ownBlock ∧ ∀ w'' : World, w''.ownsRow base 9 1 v' (n + 1) (cellsS (ls ++ [z])) → w''.ownsRow base 9 1 v n (cellsS ls)) ∨ ∀ b, v'.ownBlock = some b → w.heap.size ≤ b ∧ b < w'.heap.size

theorem Tryz.info9s : (Tryz.prog.info? 9).map (fun i => (i.zero, i.size, i.bytes)) = some (some (.string ⟨#[]⟩), 1, 16) := by kernel_rfl

theorem wpList_append_str {ops : Array Oper} {rest : List Oper} {o : Oper} {a : Act} {w : World} {Q : Exit → Act → World → Prop} (hgd : o.guard = none) (s x : Operand)
    (ho : o.op = .call { callee := .builtin .append, args := #[s, x], argTypes := #[26, 26] })
    (base : Nat) (v : Value) (n : Nat) (ls : List (List UInt8)) (hs : a.eval s = v) (hown : w.ownsRow base 9 1 v n (cellsS ls)) (y : Value) (z : List UInt8) (hx : a.eval x = y) (hy : StrsIs w y [z])
    (h63 : n ≤ 1000000) (hbase : base ≤ w.heap.size)
    (h : ∀ v' w', w'.ownsRow base 9 1 v' (n + 1) (cellsS (ls ++ [z])) → w'.ownsRow base 9 1 v n (cellsS ls) → Kept (fun b => v.ownBlock = some b) w w' → Lies w w' base n v v' ls z → wpList Tryz.prog ops Q rest (a.put o.dst v') w') : wpList Tryz.prog ops Q (o :: rest) a w := by
  obtain ⟨ti, hti, hz0, hz1, hz2⟩ := info_parts Tryz.info9s
  have hxl : ls.length = n := by have := hown.1; rw [cellsS_len] at this; omega
  obtain ⟨ad, c, rfl, _, hl, hi⟩ := hy
  obtain ⟨b, off, rfl, hbl, hc⟩ := hi (by simp)
  have hnews : ∀ j u, (cellsS [z])[j]? = some u → w.cell? ((⟨b, off, none⟩ : Addr).add j) = some u := by
    intro j u hj
    have hlj : j < [z].length := by have := (List.getElem?_eq_some_iff.1 hj).1; rwa [cellsS_len] at this
    rw [cellsS_get hlj] at hj
    rw [addr_off, hc j hlj]
    exact hj
  have happ : cellsS ls ++ cellsS [z] = cellsS (ls ++ [z]) := by simp [cellsS]
  have hm : n + 1 ≤ maxLen := by unfold maxLen; omega
  have hkg : ∀ {w' : World} {row : Option Nat}, w.grownBy w' row → (∀ b, row = some b → v.ownBlock = some b) → Kept (fun b => v.ownBlock = some b) w w' := fun hg hr =>
    ⟨hg.os, hg.tape, hg.output, hg.size, fun k hk hn => hg.block k hk fun e => hn (hr k e.symm)⟩
  rcases hown.2 with ⟨rfl, rfl⟩ | ⟨g, cap, cur, rfl, hb, hg, hnc, hcm, hcs, htake⟩
  · obtain rfl : ls = [] := List.length_eq_zero_iff.1 hxl
    refine wpList_append_grows w hgd s x 26 ho 9 ti (.string ⟨#[]⟩) 1 16 Tryz.underlying26 hti hz0 hz1 hz2 rfl (by decide) none 0 0 [] hs (fun _ => ⟨rfl, rfl⟩) rfl (fun _ e => by cases e) ⟨b, off, none⟩ 1 c (cellsS [z]) hx rfl hnews (cellsS_one _) (by omega) hm (by omega) ?_
    intro v' w' h1 h2
    have h1' : w'.ownsRow w.heap.size 9 1 v' (0 + 1) (cellsS ([] ++ [z])) := h1
    refine h v' w' (own_low h1' hbase) (World.ownsRow_nil _ _ _ _) (hkg h2 (fun k e => by cases e)) (.inr fun b hb => h1'.lt b hb)
  · have hgl : g < w.heap.size := (hown.lt g rfl).2
    by_cases hr : n + 1 ≤ cap
    · refine wpList_append_fits w hgd s x 26 ho base 9 ti 1 Tryz.underlying26 hti hz1 g n cap (cellsS ls) hs hown ⟨b, off, none⟩ 1 c (cellsS [z]) hx rfl hnews (cellsS_one _) hr ?_
      intro w' h1 h2
      rw [happ] at h1
      exact h _ w' h1 (own_first hxl h1) (hkg h2 (fun k e => e)) (.inl ⟨rfl, fun w'' h3 => own_first hxl h3⟩)
    · have hcells : ∀ j u, (cellsS ls)[j]? = some u → w.cell? ((⟨g, 0, none⟩ : Addr).add j) = some u := hown.cells (g := g) rfl
      refine wpList_append_grows w hgd s x 26 ho 9 ti (.string ⟨#[]⟩) 1 16 Tryz.underlying26 hti hz0 hz1 hz2 rfl (by decide) (some ⟨g, 0, none⟩) n cap (cellsS ls) hs (fun e => by cases e) hown.1 (fun q e j u hj => by cases e; exact hcells j u hj) ⟨b, off, none⟩ 1 c (cellsS [z]) hx rfl hnews (cellsS_one _) (by omega) hm (by omega) ?_
      intro v' w' h1 h2
      rw [happ] at h1
      refine h v' w' (own_low h1 hbase) (own_kept hown fun a ha => ?_) (hkg h2 (fun k e => by cases e)) (.inr fun b hb => h1.lt b hb)
      cases ha
      exact h2.block g hgl (by simp)

end Go.Proofs.YtdlmkienogimgaaGreatDoor

namespace Go.Proofs.YtdlmkienogimgaaGreatDoor
open Go.RowKit Go.Deep Go.Shelf Go.Maps

theorem kd_some {L : List Ent} (h : Uni L) (p : List (List UInt8)) (k : List UInt8) : k ∈ kd L p ↔ (look L (p ++ [k])).isSome = true := by
  rw [mem_kd, Option.isSome_iff_exists]
  exact ⟨fun ⟨i, hi⟩ => ⟨i, h.look.2 hi⟩, fun ⟨i, hi⟩ => ⟨i, look_mem hi⟩⟩
theorem kd_len (L : List Ent) (p : List (List UInt8)) : (kd L p).length ≤ L.length := List.length_filterMap_le _ _
theorem kids_len (L : List Ent) (p : List (List UInt8)) : (kids L p).length = (kd L p).length := List.length_mergeSort _
theorem kids_file {L : List Ent} {M : Nat → Option Nat} (hG : Good L M) {p : List (List UInt8)} {i : Nat} (hi : (p, i) ∈ L) (hM : M i = none) : kids L p = [] := by
  rw [List.eq_nil_iff_forall_not_mem]
  intro k hk
  obtain ⟨j, hj⟩ := mem_kids.1 hk
  obtain ⟨d, hd, hm⟩ := hG.up _ _ _ hj
  rw [hG.uni.same hd hi, hM] at hm
  cases hm

theorem rising_any (w : World) (base t : Nat) (L : List Ent) (M : Nat → Option Nat) (h : TreeAt w base t L M) (p : List (List UInt8)) (i : Nat) (hi : (p, i) ∈ L) :
    Calls Tryz.prog 40 #[ptr i] w fun e w' => ∃ v, e = .returned v ∧ w'.ownsRow w.heap.size 9 1 v (kids L p).length (cellsS (kids L p)) ∧ Below w.heap.size w w' := by
  obtain ⟨hn, _⟩ := h.node p i hi
  cases hM : M i with
  | none =>
    rw [hM] at hn
    rw [kids_file h.good hi hM]
    exact rising_file w i hn
  | some b =>
    rw [hM] at hn
    obtain ⟨hm, _⟩ := h.maps p i b hi hM
    have hl := h.good.few
    have := rising_dir w i b _ hn hm (kd L p) (kd_nodup h.good.uni p) (fun k => kd_some h.good.uni p k) (by have := kd_len L p; omega)
    rw [← kids_len] at this
    exact this

/-- What is visited for one name. -/
def vis (f : Nat) (L : List Ent) (p : List (List UInt8)) (k : List UInt8) : List Ent := match look L (p ++ [k]) with
  | some j => ([k], j) :: (wk f L (p ++ [k])).map fun x => (k :: x.1, x.2)
  | none => []
def pref (rel : List (List UInt8)) (x : Ent) : Ent := (rel ++ x.1, x.2)
def seen (f : Nat) (L : List Ent) (p rel : List (List UInt8)) (ks : List (List UInt8)) : List Ent := (ks.flatMap (vis f L p)).map (pref rel)
theorem seen_nil (f : Nat) (L : List Ent) (p rel : List (List UInt8)) : seen f L p rel [] = [] := rfl
theorem seen_snoc {f : Nat} {L : List Ent} {p rel : List (List UInt8)} {ks : List (List UInt8)} {k : List UInt8} {j : Nat} (h : look L (p ++ [k]) = some j) :
    seen f L p rel (ks ++ [k]) = seen f L p rel ks ++ [(rel ++ [k], j)] ++ (wk f L (p ++ [k])).map (pref (rel ++ [k])) := by
  unfold seen
  rw [List.flatMap_append, List.map_append]
  simp only [List.flatMap_cons, List.flatMap_nil, List.append_nil, vis, h, List.map_cons, List.map_map]
  simp [pref, Function.comp_def]
theorem seen_all {f : Nat} {L : List Ent} {p rel : List (List UInt8)} (hf : 1 ≤ f ∨ kids L p = []) : seen (f - 1) L p rel (kids L p) = (wk f L p).map (pref rel) := by
  cases f with
  | zero =>
    rw [hf.resolve_left (by omega)]; rfl
  | succ f => rfl

theorem seen_len (f : Nat) (L : List Ent) (p rel : List (List UInt8)) (ks : List (List UInt8)) (k : Nat) : (seen f L p rel (ks.take k)).length ≤ (seen f L p rel ks).length := by
  conv => rhs; rw [← List.take_append_drop k ks]
  unfold seen
  rw [List.flatMap_append, List.map_append, List.length_append]
  omega

structure Round (base t : Nat) (L : List Ent) (M : Nat → Option Nat) (B0 : Nat) (St : List Ent → (Nat → Prop) → World → Prop) (w1 : World) (F : Nat → Prop) (v : Value) (rel : List (List UInt8)) (ys : List Ent) (wr : World) (Fr : Nat → Prop) : Prop where
  st : St ys Fr wr
  foot : ∀ b, Fr b → F b ∨ w1.heap.size ≤ b
  kept : Kept (fun b => F b ∨ v.ownBlock = some b) w1 wr
  own : wr.ownsRow B0 9 1 v rel.length (cellsS rel)

theorem strs_one (w : World) (z : List UInt8) : StrsIs (w.alloc (.cells #[.string (bs z)] 9)) (.slice (some ⟨w.heap.size, 0, none⟩) 1 1) [z] :=
  ⟨_, 1, rfl, Nat.le_refl _, by simp [maxLen], fun _ => ⟨w.heap.size, 0, rfl, by simp, fun i hi => by
    have : i = 0 := by simpa using hi
    subst this
    exact (cell_new w _ _ _).trans rfl⟩⟩

theorem node_look {w : World} {base t : Nat} {L : List Ent} {M : Nat → Option Nat} (hT : TreeAt w base t L M) {P : List (List UInt8)} {i j : Nat} {z : List UInt8} (hi : (P, i) ∈ L) (hj : look L (P ++ [z]) = some j) (hz : isN z = true) :
    ∃ m, w.cell? ⟨i, 0, none⟩ = some (.map (some m)) ∧ (Instr.lookup 75 (.map (some m)) (.string (bs z)) false).run Tryz.prog w = .ok (.pointer (some ⟨j, 0, none⟩)) w := by
  obtain ⟨d, hd, hm⟩ := hT.good.up _ _ _ (look_mem hj)
  obtain ⟨m, hm⟩ := Option.isSome_iff_exists.1 hm
  rw [hT.good.uni.same hd hi] at hm
  have hc := (hT.node _ _ hi).1.cell
  rw [hm] at hc
  have hzl := isN_len hz
  have hl := (hT.maps _ _ _ hi hm).1.look1 (bs_short (k := z) (by omega))
  simp only [data_bs] at hl
  rw [hj] at hl
  exact ⟨m, hc, hl⟩

theorem round_step {base t : Nat} {L : List Ent} {M : Nat → Option Nat} {B0 : Nat} {St : List Ent → (Nat → Prop) → World → Prop} {w w1 wr w2 w3 w4 : World} {F Fr F3 F4 : Nat → Prop} {v v' : Value} {rel : List (List UInt8)} {z : List UInt8} {ys zs : List Ent} {o : Obj}
    (hb : Below w.heap.size w w1) (hO : ∀ a, v.ownBlock = some a → a < w.heap.size) (hvF : ∀ a, v.ownBlock = some a → ¬ F a) (Rd : Round base t L M B0 St w1 F v rel ys wr Fr)
    (h2 : w2.ownsRow B0 9 1 v rel.length (cellsS rel)) (h3 : Kept (fun b => v.ownBlock = some b) (wr.alloc o) w2) (h4 : Lies (wr.alloc o) w2 B0 rel.length v v' rel z)
    (f3 : ∀ b, F3 b → Fr b ∨ w2.heap.size ≤ b) (k3 : Kept Fr w2 w3)
    (s4 : St zs F4 w4) (f4 : ∀ b, F4 b → F3 b ∨ w3.heap.size ≤ b) (k4 : Kept (fun b => F3 b ∨ v'.ownBlock = some b) w3 w4) (o4 : w4.ownsRow B0 9 1 v' (rel.length + 1) (cellsS (rel ++ [z]))) :
    Round base t L M B0 St w1 F v rel zs w4 F4 := by
  have z1 := hb.size
  have z2 := Rd.kept.size
  have z3 : wr.heap.size + 1 ≤ w2.heap.size := by have := h3.size; simpa using this
  have z4 := k3.size
  have g3 : ∀ b, F3 b → F b ∨ w1.heap.size ≤ b := fun b h => by
    rcases f3 b h with h | h
    · exact Rd.foot b h
    · right; omega
  refine ⟨s4, fun b h => ?_, ?_, ?_⟩
  · rcases f4 b h with h | h
    · exact g3 b h
    · right; omega
  · have k1 : Kept (fun b => F b ∨ v.ownBlock = some b) w1 w2 :=
      Rd.kept.trans ((Kept.of_below (F := fun _ => False) (below_alloc wr o)).trans h3 (H := fun b => v.ownBlock = some b) (fun _ _ h => absurd h id) fun _ _ h => h) (fun _ _ h => h) fun _ _ h => .inr h
    have k2 : Kept (fun b => F b ∨ v.ownBlock = some b) w1 w3 := k1.trans k3 (fun _ _ h => h) fun x hx h => by
      rcases Rd.foot x h with h | h
      · exact .inl h
      · omega
    refine k2.trans k4 (fun _ _ h => h) fun x hx h => ?_
    rcases h with h | h
    · rcases g3 x h with h | h
      · exact .inl h
      · omega
    · rcases h4 with ⟨h5, _⟩ | h5
      · right; rw [← h5]; exact h
      · have := (h5 x h).1
        simp at this; omega
  · rcases h4 with ⟨_, h5⟩ | h5
    · exact h5 w4 o4
    · refine own_kept h2 fun a ha => ?_
      have ha1 := hO a ha
      have nF : ¬ Fr a := fun h => by
        rcases Rd.foot a h with h | h
        · exact hvF a ha h
        · omega
      have n3 : ¬ (F3 a ∨ v'.ownBlock = some a) := by
        rintro (h | h)
        · rcases g3 a h with h | h
          · exact hvF a ha h
          · omega
        · have := (h5 a h).1
          simp at this; omega
      exact (k4.block a (by omega) n3).trans (k3.block a (by omega) nF)

set_option maxHeartbeats 4000000 in
set_option maxRecDepth 100000 in
theorem walk_any (g : Nat) (caps : Array Value) (eg : ∀ args w, (callFunc g args).run Tryz.prog w = .ok (.enter g args) w) (base t : Nat) (L : List Ent) (M : Nat → Option Nat) (p0 : List (List UInt8)) (B0 N : Nat)
    (St : List Ent → (Nat → Prop) → World → Prop) (hlt : ∀ xs F w, St xs F w → ∀ b, F b → b < w.heap.size) (htree : ∀ xs F w, St xs F w → TreeAt w base t L M)
    (hkeep : ∀ xs F w w', St xs F w → Kept (fun b => ¬ F b ∧ B0 ≤ b) w w' → St xs F w')
    (hvis : ∀ xs F w v ns j, St xs F w → StrsIs w v ns → (p0 ++ ns, j) ∈ L → ns ≠ [] → B0 ≤ w.heap.size → xs.length < N → Calls Tryz.prog g (#[v, ptr j] ++ caps) w fun e w' => e = .returned (.tuple #[]) ∧ ∃ F', St (xs ++ [(ns, j)]) F' w' ∧ (∀ b, F' b → F b ∨ w.heap.size ≤ b) ∧ Kept F w w') :
    ∀ (f : Nat) (rel : List (List UInt8)) (i : Nat) (w : World) (v : Value) (F : Nat → Prop) (xs : List Ent), (p0 ++ rel, i) ∈ L → 8 ≤ (p0 ++ rel).length + f → St xs F w → w.ownsRow B0 9 1 v rel.length (cellsS rel) → (∀ a, v.ownBlock = some a → ¬ F a) → B0 ≤ w.heap.size → xs.length + (wk f L (p0 ++ rel)).length ≤ N →
      Calls Tryz.prog 30 #[ptr i, v, .func (.func g) #[] caps] w fun e w' => e = .returned (.tuple #[]) ∧ ∃ F', St (xs ++ (wk f L (p0 ++ rel)).map (pref rel)) F' w' ∧ (∀ b, F' b → F b ∨ w.heap.size ≤ b) ∧ Kept (fun b => F b ∨ v.ownBlock = some b) w w' ∧ w'.ownsRow B0 9 1 v rel.length (cellsS rel) := by
  intro f
  induction f using Nat.strongRecOn with
  | _ f ih =>
    intro rel i w v F xs hi h8 hst hown hvF hB hN
    have HT : Hid (TreeAt w base t L M) := htree _ _ _ hst
    have hG := HT.out.good
    have hpl := (hG.nam _ _ hi).1
    have HR : Hid _ := fun (_ : Nat) => rising_any w base t L M HT.out (p0 ++ rel) i hi
    have IH : Hid _ := ih
    have HS : Hid (St xs F w) := hst
    have HO : Hid (w.ownsRow B0 9 1 v rel.length (cellsS rel)) := hown
    have hkl : (kids L (p0 ++ rel)).length ≤ 25 := by rw [kids_len]; have := kd_len L (p0 ++ rel); have := hG.few; omega
    generalize hP : p0 ++ rel = P at *
    obtain ⟨ks, hks⟩ : ∃ ks, kids L P = ks := ⟨_, rfl⟩
    rw [hks] at HR hkl
    have HVF : Hid (∀ a, v.ownBlock = some a → ¬ F a) := hvF
    have HF1 : Hid (1 ≤ f ∨ kids L P = []) := by
      show 1 ≤ f ∨ kids L P = []
      by_cases h0 : 1 ≤ f
      · exact .inl h0
      · refine .inr (List.eq_nil_iff_forall_not_mem.2 fun k hk => ?_)
        obtain ⟨j, hj⟩ := mem_kids.1 hk
        have := (hG.nam _ _ hj).1
        rw [List.length_append, List.length_singleton] at this
        omega
    have HL : Hid (∀ k ∈ ks, ∃ j, look L (P ++ [k]) = some j ∧ isN k = true) := by
      show ∀ k ∈ ks, ∃ j, look L (P ++ [k]) = some j ∧ isN k = true
      intro k hk
      rw [← hks] at hk
      obtain ⟨j, hj⟩ := mem_kids.1 hk
      exact ⟨j, hG.uni.look.2 hj, (hG.nam _ _ hj).2 k (by simp)⟩
    have HRL : Hid (rel.length ≤ 8) := by
      show rel.length ≤ 8
      rw [← hP, List.length_append] at hpl
      omega
    have HN : Hid (∀ k, k ≤ ks.length → xs.length + (seen (f - 1) L P rel (ks.take k)).length ≤ N) := by
      show ∀ k, k ≤ ks.length → xs.length + (seen (f - 1) L P rel (ks.take k)).length ≤ N
      intro k _
      have h1 := seen_len (f - 1) L P rel ks k
      have h2 := congrArg List.length (seen_all (rel := rel) HF1.out)
      rw [hks, List.length_map] at h2
      omega
    obtain ⟨hnode, _⟩ := HT.out.node _ _ hi
    clear hN
    clear ih hst hown hvF
    unfold ptr at HR ⊢
    go_enter Tryz.func30, Tryz.ntmps30
    go_wp2_with (go_at_call 40; refine (HR.out 0).mono ?_; rintro e w1 ⟨rv, rfl, hrow, hb⟩; obtain ⟨a, c, b, o, rfl, hcl, _, ha, hc⟩ := (strs_own hrow).where)
    have hRd0 : Round base t L M B0 St w1 F v rel (xs ++ seen (f - 1) L P rel (ks.take 0)) w1 F :=
      ⟨by rw [List.take_zero, seen_nil, List.append_nil]; exact hkeep _ _ _ _ HS.out (Kept.of_below hb), fun b h => .inl h, Kept.refl _ _, own_kept HO.out fun a ha => hb.block a (HO.out.lt a ha).2⟩
    have HC : Hid (∀ wr, Kept (fun b => F b ∨ v.ownBlock = some b) w1 wr → ∀ k, k < ks.length → a = some ⟨b, o, none⟩ ∧ wr.cell? ⟨b, o + k, none⟩ = some (.string (bs (sth ks k)))) := by
      show ∀ wr, Kept (fun b => F b ∨ v.ownBlock = some b) w1 wr → ∀ k, k < ks.length → a = some ⟨b, o, none⟩ ∧ wr.cell? ⟨b, o + k, none⟩ = some (.string (bs (sth ks k)))
      intro wr hk k hkl
      obtain ⟨haa, hbl⟩ := ha (by omega)
      refine ⟨haa, ?_⟩
      subst haa
      obtain ⟨hge, _⟩ := hrow.lt b rfl
      have hnb : ¬ (F b ∨ v.ownBlock = some b) := by
        rintro (h | h)
        · have := hlt _ _ _ HS.out b h; omega
        · have := (HO.out.lt b h).2; omega
      rw [World.cell?_of_block (w := w1) (a := ⟨b, o + k, none⟩) (hk.block b hbl hnb)]
      exact hc k hkl
    have HRd0 : Hid (Round base t L M B0 St w1 F v rel (xs ++ seen (f - 1) L P rel (ks.take 0)) w1 F) := hRd0
    have HBW : Hid (Below w.heap.size w w1) := hb
    clear hRd0 hc ha hrow hcl
    go_loopw [7, 8, 12] (fun _ _ q wr => ∃ (k : Nat) (Fr : Nat → Prop), k ≤ ks.length ∧ q = .int .i64 k ∧ Hid (Round base t L M B0 St w1 F v rel (xs ++ seen (f - 1) L P rel (ks.take k)) wr Fr)) (fun _ _ q _ => ks.length - (intOf q).toNat)
    case atStart => exact ⟨0, F, Nat.zero_le _, rfl, HRd0⟩
    case round =>
      obtain ⟨k, Fr, hk, rfl, HRd⟩ := hrel
      by_cases hlk : k < ks.length
      · obtain ⟨haa, hck⟩ := HC.out wr HRd.out.kept k hlk
        subst haa
        obtain ⟨j, hj, hz⟩ := HL.out _ (sth_mem hlk)
        obtain ⟨z, hzz⟩ : ∃ z, sth ks k = z := ⟨_, rfl⟩
        rw [hzz] at hck hj hz
        have hzl := isN_len hz
        have HA : Hid (∀ o, (wr.alloc o).ownsRow B0 9 1 v rel.length (cellsS rel)) := fun o => HRd.out.own.alloc o
        have hBr : B0 ≤ (wr.alloc (.cells #[.string (bs z)] 9)).heap.size := by
          have h1 := HRd.out.kept.size
          have h2 := HBW.out.size
          simp; omega
        have HBr : Hid (B0 ≤ (wr.alloc (.cells #[.string (bs z)] 9)).heap.size) := hBr
        have hrl := HRL.out
        have HQ : Hid (∀ w2, Kept (fun b => v.ownBlock = some b) (wr.alloc (.cells #[.string (bs z)] 9)) w2 → St (xs ++ seen (f - 1) L P rel (ks.take k)) Fr w2) := by
          show ∀ w2, Kept (fun b => v.ownBlock = some b) (wr.alloc (.cells #[.string (bs z)] 9)) w2 → St (xs ++ seen (f - 1) L P rel (ks.take k)) Fr w2
          intro w2 h3
          refine hkeep _ _ _ _ HRd.out.st ((Kept.of_below (F := fun _ => False) (below_alloc _ _)).trans h3 (fun x _ h => absurd h id) fun x _ hx => ⟨fun hFr => ?_, (HO.out.lt x hx).1⟩)
          rcases HRd.out.foot x hFr with h | h
          · exact HVF.out x hx h
          · have h1 := (HO.out.lt x hx).2
            have h2 := HBW.out.size
            omega
        clear hBr
        go_wp2_with (first
          | (at_builtin; refine wpList_append_str rfl (.tmp 16) (.tmp 18) rfl B0 v rel.length rel (by simp [Act.eval]) (HA.out _) (.slice (some ⟨wr.heap.size, 0, none⟩) 1 1) z (by simp [Act.eval]) (strs_one wr z) (by omega) HBr.out ?_; intro v' w2 h1 h2 h3 h4; have hst2 := HQ.out w2 h3; obtain ⟨m2, e1, e2⟩ := node_look (htree _ _ _ hst2) hi hj hz))
        have hnv : ∀ a, v'.ownBlock = some a → ¬ Fr a := by
          intro a ha hFr
          have hl := hlt _ _ _ HRd.out.st a hFr
          rcases h4 with ⟨h5, _⟩ | h5
          · rw [h5] at ha
            rcases HRd.out.foot a hFr with h | h
            · exact HVF.out a ha h
            · have h6 := (HO.out.lt a ha).2
              have h7 := HBW.out.size
              omega
          · have := (h5 a ha).1
            simp at this; omega
        have hz2 : B0 ≤ w2.heap.size := Nat.le_trans HBr.out h3.size
        have hmem : (p0 ++ (rel ++ [z]), j) ∈ L := by rw [← List.append_assoc, hP]; exact look_mem hj
        have hsn : seen (f - 1) L P rel (ks.take (k + 1)) = seen (f - 1) L P rel (ks.take k) ++ [(rel ++ [z], j)] ++ (wk (f - 1) L (P ++ [z])).map (pref (rel ++ [z])) := by
          rw [show ks.take (k + 1) = ks.take k ++ [z] by rw [← hzz, sth_lt hlk]; exact List.take_succ_eq_append_getElem hlk, seen_snoc hj]
        have hNk := HN.out (k + 1) (by omega)
        rw [hsn, List.length_append, List.length_append, List.length_map, List.length_singleton] at hNk
        refine Calls.mono (hvis _ Fr w2 v' (rel ++ [z]) j hst2 (strs_own h1) hmem (by simp) hz2 (by rw [List.length_append]; omega)) ?_
        rintro e w3 ⟨rfl, F3, st3, f3, k3⟩
        have hz3 : B0 ≤ w3.heap.size := Nat.le_trans hz2 k3.size
        have o3 : w3.ownsRow B0 9 1 v' (rel ++ [z]).length (cellsS (rel ++ [z])) := by
          rw [List.length_append, List.length_singleton]
          exact own_kept h1 fun a ha => k3.block a (h1.lt a ha).2 (hnv a ha)
        have hnv3 : ∀ a, v'.ownBlock = some a → ¬ F3 a := fun a ha h => by
          rcases f3 a h with h | h
          · exact hnv a ha h
          · have := (h1.lt a ha).2; omega
        obtain ⟨m3, e3, e4⟩ := node_look (htree _ _ _ st3) hi hj hz
        have hf1 : 1 ≤ f := HF1.out.resolve_right (by rw [hks]; intro h; rw [h] at hlk; exact absurd hlk (Nat.not_lt_zero _))
        have hlen : 8 ≤ (p0 ++ (rel ++ [z])).length + (f - 1) := by
          rw [← List.append_assoc, hP, List.length_append, List.length_singleton]; omega
        have HI : Hid _ := fun (_ : Nat) => IH.out (f - 1) (by omega) (rel ++ [z]) j w3 v' F3 _ hmem hlen st3 o3 hnv3 hz3 (by rw [← List.append_assoc, hP, List.length_append, List.length_append, List.length_singleton]; omega)
        unfold ptr at HI
        clear hmem hlen hf1 hnv3 e1 e2 IH hNk
        go_wp2_with fail
        refine Calls.mono (HI.out 0) ?_
        rintro e w4 ⟨rfl, F4, st4, f4, k4, o4⟩
        have hRd4 : Round base t L M B0 St w1 F v rel (xs ++ seen (f - 1) L P rel (ks.take (k + 1))) w4 F4 := by
          refine round_step HBW.out (fun a ha => (HO.out.lt a ha).2) HVF.out HRd.out h2 h3 h4 f3 k3 ?_ f4 k4 ?_
          · rw [hsn]
            rw [← List.append_assoc, ← List.append_assoc]
            rw [← List.append_assoc, hP] at st4
            exact st4
          · rw [List.length_append, List.length_singleton] at o4; exact o4
        have HRd4 : Hid (Round base t L M B0 St w1 F v rel (xs ++ seen (f - 1) L P rel (ks.take (k + 1))) w4 F4) := hRd4
        clear hRd4 st4 f4 k4 o4 st3 f3 k3 o3 HI h1 h2 h3 h4 hst2 hnv e3 e4
        go_wp2_with fail
        go_roundw
        case rel => exact ⟨k + 1, F4, by omega, by go_num, HRd4⟩
        case measure => simp [intOf]; omega
      · have hkn : k = ks.length := by omega
        subst hkn
        have hall := seen_all (f := f) (L := L) (p := P) (rel := rel) HF1.out
        rw [hks] at hall
        have hst := HRd.out.st
        rw [List.take_length, hall] at hst
        have HST : Hid (St (xs ++ (wk f L P).map (pref rel)) Fr wr) := hst
        have hkp : Kept (fun b => F b ∨ v.ownBlock = some b) w wr := (Kept.of_below (F := fun _ => False) HBW.out).trans HRd.out.kept (fun _ _ h => absurd h id) fun _ _ h => h
        have HKP : Hid (Kept (fun b => F b ∨ v.ownBlock = some b) w wr) := hkp
        clear hst hkp hall
        go_wp2_with fail
        go_end0
        refine ⟨rfl, Fr, HST.out, fun b hb => ?_, HKP.out, HRd.out.own⟩
        rcases HRd.out.foot b hb with h | h
        · exact .inl h
        · have := HBW.out.size
          exact .inr (by omega)

end Go.Proofs.YtdlmkienogimgaaGreatDoor

namespace Go.Proofs.YtdlmkienogimgaaGreatDoor
open Go.RowKit Go.Deep Go.Shelf Go.Maps

/-- The world of a walk: all but one block is as it was when it began. -/
structure Fold (w0 : World) (B : Nat) (ty : TypeId) (val : List Ent → Value) (xs : List Ent) (F : Nat → Prop) (w : World) : Prop where
  size : w0.heap.size ≤ w.heap.size
  old : ∀ b, b < w0.heap.size → b ≠ B → w.heap[b]? = w0.heap[b]?
  box : Boxed w B ty (val xs)
  foot : ∀ b, F b ↔ b = B

theorem pref_nil (l : List Ent) : l.map (pref []) = l := by
  conv => rhs; rw [← List.map_id l]
  exact List.map_congr_left fun x _ => rfl

theorem walk_fold (g : Nat) (caps : Array Value) (eg : ∀ args w, (callFunc g args).run Tryz.prog w = .ok (.enter g args) w) (w0 : World) (base t : Nat) (L : List Ent) (M : Nat → Option Nat) (hT : TreeAt w0 base t L M) (p0 : List (List UInt8)) (i : Nat) (hi : (p0, i) ∈ L)
    (B : Nat) (ty : TypeId) (val : List Ent → Value) (hB : Boxed w0 B ty (val [])) (hF : ¬ Fp t L M B)
    (hv : ∀ (w : World) (xs : List Ent) (v : Value) (ns : List (List UInt8)) (j : Nat), (∀ b, b < w0.heap.size → b ≠ B → w.heap[b]? = w0.heap[b]?) → w0.heap.size ≤ w.heap.size → Boxed w B ty (val xs) → StrsIs w v ns → (p0 ++ ns, j) ∈ L →
      Calls Tryz.prog g (#[v, ptr j] ++ caps) w fun e w' => e = .returned (.tuple #[]) ∧ Boxed w' B ty (val (xs ++ [(ns, j)])) ∧ Kept (fun b => b = B) w w') :
    Calls Tryz.prog 30 #[ptr i, .slice none 0 0, .func (.func g) #[] caps] w0 fun e w' => e = .returned (.tuple #[]) ∧ Boxed w' B ty (val (wk 8 L p0)) ∧ Kept (fun b => b = B) w0 w' := by
  have hBl := hB.lt
  have := walk_any g caps eg base t L M p0 w0.heap.size (wk 8 L p0).length (Fold w0 B ty val)
    (fun xs F w h b hb => by rw [(h.foot b).1 hb]; exact h.box.lt)
    (fun xs F w h => hT.frame fun b hb => h.old b (hT.fp hb).2 (fun e => hF (e ▸ hb)))
    (fun xs F w w' h k => by
      have hs : ∀ b, b < w.heap.size → (b = B ∨ b < w0.heap.size) → w'.heap[b]? = w.heap[b]? := fun b hb hc => k.block b hb fun ⟨h1, h2⟩ => by
        rcases hc with rfl | hc
        · exact h1 ((h.foot b).2 rfl)
        · omega
      exact ⟨Nat.le_trans h.size k.size, fun b hb hne => (hs b (Nat.lt_of_lt_of_le hb h.size) (.inr hb)).trans (h.old b hb hne), (hs B h.box.lt (.inl rfl)).trans h.box, h.foot⟩)
    (fun xs F w v ns j h hs hm _ _ _ => (hv w xs v ns j h.old h.size h.box hs hm).mono (by
      rintro e w' ⟨rfl, h1, h2⟩
      exact ⟨rfl, F, ⟨Nat.le_trans h.size h2.size, fun b hb hne => (h2.block b (Nat.lt_of_lt_of_le hb h.size) hne).trans (h.old b hb hne), h1, h.foot⟩, fun b hb => .inl hb, ⟨h2.os, h2.tape, h2.output, h2.size, fun b hb hn => h2.block b hb fun e => hn ((h.foot b).2 e)⟩⟩))
    8 [] i w0 (.slice none 0 0) (fun b => b = B) [] (by rw [List.append_nil]; exact hi) (by omega) ⟨Nat.le_refl _, fun _ _ _ => rfl, hB, fun b => Iff.rfl⟩ (World.ownsRow_nil _ _ _ _) (fun a ha => by cases ha) (Nat.le_refl _) (by rw [List.append_nil]; simp)
  refine this.mono ?_
  rintro e w' ⟨rfl, F', h, _, hk, _⟩
  rw [List.append_nil, List.nil_append, pref_nil] at h
  refine ⟨rfl, h.box, ⟨hk.os, hk.tape, hk.output, hk.size, fun b hb hne => h.old b hb hne⟩⟩

/-- How many of them count, as the loop has it. -/
def fcnt (q : Nat → Bool) (xs : List Ent) : Int := xs.foldl (fun c x => if q x.2 then wrap64 (c + 1) else c) 0
theorem fcnt_snoc (q : Nat → Bool) (xs : List Ent) (x : Ent) : fcnt q (xs ++ [x]) = if q x.2 then wrap64 (fcnt q xs + 1) else fcnt q xs := by simp [fcnt]
theorem fcnt_is (q : Nat → Bool) (xs : List Ent) (hl : xs.length ≤ 1000000) : fcnt q xs = ((xs.countP fun x => q x.2 : Nat) : Int) := by
  induction xs using rev_ind with
  | h0 => rfl
  | h1 l a ih =>
    rw [List.length_append, List.length_singleton] at hl
    have hc := List.countP_le_length (p := fun x : Ent => q x.2) (l := l)
    rw [fcnt_snoc, ih (by omega), List.countP_append]
    cases hq : q a.2
    · simp [hq]
    · simp only [if_true, List.countP_cons, List.countP_nil, hq]
      rw [show wrap64 (((l.countP fun x => q x.2 : Nat) : Int) + 1) = ((l.countP fun x => q x.2 : Nat) : Int) + 1 by unfold wrap64; omega]
      omega

theorem boxed_set {w : World} {B : Nat} {ty : TypeId} {u v : Value} (h : Boxed w B ty u) : Boxed (w.setCell ⟨B, 0, none⟩ v) B ty v ∧ Kept (fun b => b = B) w (w.setCell ⟨B, 0, none⟩ v) :=
  ⟨h.set v, ⟨rfl, rfl, rfl, by simp, fun b _ hne => Below.heap_setCell w ⟨B, 0, none⟩ v b hne⟩⟩

set_option maxRecDepth 100000 in
theorem Tryz.enter76 : ∀ args w, (callFunc 76 args).run Tryz.prog w = .ok (.enter 76 args) w := fun _ _ => by rfl

set_option maxHeartbeats 2000000 in
set_option maxRecDepth 100000 in
theorem countOne_any (g : Nat) (caps : Array Value) (eg : ∀ args w, (callFunc g args).run Tryz.prog w = .ok (.enter g args) w) (w : World) (Bc Bm : Nat) (c : Int) (v : Value) (j : Nat) (q : Bool)
    (h1 : Boxed w Bc 94 (.func (.func g) #[] caps)) (h2 : Boxed w Bm 3 (.int .i64 c))
    (hq : Calls Tryz.prog g (#[ptr j] ++ caps) w fun e w' => e = .returned (.bool q) ∧ w = w') :
    Calls Tryz.prog 76 #[v, ptr j, .pointer (some ⟨Bc, 0, none⟩), .pointer (some ⟨Bm, 0, none⟩)] w fun e w' => e = .returned (.tuple #[]) ∧ Boxed w' Bm 3 (.int .i64 (if q then wrap64 (c + 1) else c)) ∧ Kept (fun b => b = Bm) w w' := by
  have c1 := h1.cell
  have c2 := h2.cell
  have f2 := h2.frozen
  have HS : Hid (Boxed w Bm 3 (.int .i64 c)) := h2
  have HQ : Hid _ := fun (_ : Nat) => hq
  unfold ptr at HQ ⊢
  clear h1 h2 hq
  cases q with
  | true =>
    go_enter Tryz.func76, Tryz.ntmps76
    go_wp2_with fail
    refine Calls.mono (HQ.out 0) ?_
    rintro e w' ⟨rfl, rfl⟩
    go_wp2_with fail
    go_end0
    exact ⟨rfl, boxed_set HS.out⟩
  | false =>
    go_enter Tryz.func76, Tryz.ntmps76
    go_wp2_with fail
    refine Calls.mono (HQ.out 0) ?_
    rintro e w' ⟨rfl, rfl⟩
    go_wp2_with fail
    go_end0
    exact ⟨rfl, HS.out, Kept.refl _ _⟩

set_option maxHeartbeats 2000000 in
set_option maxRecDepth 100000 in
theorem count_any (w : World) (base t : Nat) (L : List Ent) (M : Nat → Option Nat) (h : TreeAt w base t L M) (g : Nat) (caps : Array Value) (eg : ∀ args w, (callFunc g args).run Tryz.prog w = .ok (.enter g args) w) (q : Nat → Bool)
    (hq : ∀ w', (∀ b, b < w.heap.size → w'.heap[b]? = w.heap[b]?) → ∀ p j, (p, j) ∈ L → Calls Tryz.prog g (#[ptr j] ++ caps) w' fun e w'' => e = .returned (.bool (q j)) ∧ w' = w'') :
    Calls Tryz.prog 54 #[ptr t, .func (.func g) #[] caps] w fun e w' => e = .returned (.int .i64 ((wka L).countP fun x => q x.2 : Nat)) ∧ Below w.heap.size w w' := by
  obtain ⟨r, hr, _⟩ := h.good.start
  have hc := fun o1 o2 => (((h.tree r hr).alloc o1).alloc o2).cell
  have hlen : (wka L).length ≤ 1000000 := by have := wka_len h.good; have := h.good.few; omega
  have HN : Hid (fcnt q (wk 8 L []) = ((wka L).countP fun x => q x.2 : Nat)) := fcnt_is q _ hlen
  have HW : Hid (∀ W0, Below w.heap.size w W0 → Boxed W0 w.heap.size 94 (.func (.func g) #[] caps) → Boxed W0 (w.heap.size + 1) 3 (.int .i64 0) →
      Calls Tryz.prog 30 #[ptr r, .slice none 0 0, .func (.func 76) #[] #[.pointer (some ⟨w.heap.size, 0, none⟩), .pointer (some ⟨w.heap.size + 1, 0, none⟩)]] W0 fun e w' => e = .returned (.tuple #[]) ∧ Boxed w' (w.heap.size + 1) 3 (.int .i64 (fcnt q (wk 8 L []))) ∧ Kept (fun b => b = w.heap.size + 1) W0 w') := by
    show ∀ W0, _ → _ → _ → _
    intro W0 hb h1 h2
    refine walk_fold 76 _ Tryz.enter76 W0 base t L M (h.later hb) [] r hr (w.heap.size + 1) 3 (fun xs => .int .i64 (fcnt q xs)) h2 (fun hF => by have := (h.fp hF).2; omega) ?_
    intro W xs v ns j ho hs hB _ hm
    have hz := hb.size
    have hbW : ∀ b, b < w.heap.size → W.heap[b]? = w.heap[b]? := fun b hl => (ho b (by omega) (by omega)).trans (hb.block b hl)
    refine (countOne_any g caps eg W w.heap.size (w.heap.size + 1) (fcnt q xs) v j (q j) ((ho _ h1.lt (by omega)).trans h1) hB (hq W hbW _ _ hm)).mono ?_
    rintro e w' ⟨rfl, k1, k2⟩
    refine ⟨rfl, ?_, k2⟩
    show Boxed w' (w.heap.size + 1) 3 (.int .i64 (fcnt q (xs ++ [(ns, j)])))
    rw [fcnt_snoc]
    exact k1
  unfold ptr at hc HW ⊢
  clear hlen
  go_enter Tryz.func54, Tryz.ntmps54
  have HZ : Hid (∀ o1 o2, Below w.heap.size w ((w.alloc o1).alloc o2)) := fun o1 o2 => (below_alloc w o1).trans ((below_alloc _ o2).mono (by simp))
  go_wp2_with (go_at_call 30; refine (HW.out _ (HZ.out _ _) ((Boxed.new w _ _).alloc _) (by have := Boxed.new (w.alloc (.cells #[.func (.func g) #[] caps] 94)) 3 (.int .i64 0); simpa using this)).mono ?_; rintro e w' ⟨rfl, h1, h2⟩; have h3 := h1.cell)
  go_ret
  refine ⟨by rw [HN.out]; rfl, (HZ.out _ _).trans (h2.below (by simp; omega) fun b hb e => by omega)⟩

end Go.Proofs.YtdlmkienogimgaaGreatDoor
