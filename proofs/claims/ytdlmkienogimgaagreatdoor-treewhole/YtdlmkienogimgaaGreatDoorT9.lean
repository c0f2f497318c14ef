/- This text proves what a node's walk does: it calls what it is handed for each name below the node, in their order, a directory's ahead of those in it; for whatever is handed to it, if this leaves the tree alone; the conditions are that the tree lies there. -/
import Derived.Test.YtdlmkienogimgaaGreatDoorT8
namespace Go.Proofs.YtdlmkienogimgaaGreatDoor
open Go.RowKit Go.Deep Go.Shelf Go.Maps

theorem kd_some {L : List Ent} (h : Uni L) (p : List (List UInt8)) (k : List UInt8) : k ∈ kd L p ↔ (look L (p ++ [k])).isSome = true := by
  rw [mem_kd, Option.isSome_iff_exists]
  exact ⟨fun ⟨i, hi⟩ => ⟨i, h.look.2 hi⟩, fun ⟨i, hi⟩ => ⟨i, look_mem hi⟩⟩
theorem kd_len (L : List Ent) (p : List (List UInt8)) : (kd L p).length ≤ L.length := List.length_filterMap_le _ _
theorem kids_len (L : List Ent) (p : List (List UInt8)) : (kids L p).length = (kd L p).length := List.length_mergeSort _
theorem kids_file {L : List Ent} {M : Nat → Option Nat} (hG : Good L M) {p : List (List UInt8)} {i : Nat} (hi : (p, i) ∈ L) (hM : M i = none) : kids L p = [] := by
  rw [List.eq_nil_iff_forall_not_mem]
  intro k hk
  obtain ⟨j, hj⟩ := mem_kids.1 hk
  obtain ⟨d, hd, hm⟩ := hG.up _ _ _ hj
  rw [hG.uni.same hd hi, hM] at hm
  cases hm

theorem rising_any (w : World) (base t : Nat) (L : List Ent) (M : Nat → Option Nat) (h : TreeAt w base t L M) (p : List (List UInt8)) (i : Nat) (hi : (p, i) ∈ L) :
    Calls Tryz.prog 40 #[ptr i] w fun e w' => ∃ v, e = .returned v ∧ w'.ownsRow w.heap.size 9 1 v (kids L p).length (cellsS (kids L p)) ∧ Below w.heap.size w w' := by
  obtain ⟨hn, _⟩ := h.node p i hi
  cases hM : M i with
  | none =>
    rw [hM] at hn
    rw [kids_file h.good hi hM]
    exact rising_file w i hn
  | some b =>
    rw [hM] at hn
    obtain ⟨hm, _⟩ := h.maps p i b hi hM
    have hl := h.good.few
    have := rising_dir w i b _ hn hm (kd L p) (kd_nodup h.good.uni p) (fun k => kd_some h.good.uni p k) (by have := kd_len L p; omega)
    rw [← kids_len] at this
    exact this

/-- What is visited for one name. -/
def vis (f : Nat) (L : List Ent) (p : List (List UInt8)) (k : List UInt8) : List Ent := match look L (p ++ [k]) with
  | some j => ([k], j) :: (wk f L (p ++ [k])).map fun x => (k :: x.1, x.2)
  | none => []
def pref (rel : List (List UInt8)) (x : Ent) : Ent := (rel ++ x.1, x.2)
def seen (f : Nat) (L : List Ent) (p rel : List (List UInt8)) (ks : List (List UInt8)) : List Ent := (ks.flatMap (vis f L p)).map (pref rel)
theorem seen_nil (f : Nat) (L : List Ent) (p rel : List (List UInt8)) : seen f L p rel [] = [] := rfl
theorem seen_snoc {f : Nat} {L : List Ent} {p rel : List (List UInt8)} {ks : List (List UInt8)} {k : List UInt8} {j : Nat} (h : look L (p ++ [k]) = some j) :
    seen f L p rel (ks ++ [k]) = seen f L p rel ks ++ [(rel ++ [k], j)] ++ (wk f L (p ++ [k])).map (pref (rel ++ [k])) := by
  unfold seen
  rw [List.flatMap_append, List.map_append]
  simp only [List.flatMap_cons, List.flatMap_nil, List.append_nil, vis, h, List.map_cons, List.map_map]
  simp [pref, Function.comp_def]
theorem seen_all {f : Nat} {L : List Ent} {p rel : List (List UInt8)} (hf : 1 ≤ f ∨ kids L p = []) : seen (f - 1) L p rel (kids L p) = (wk f L p).map (pref rel) := by
  cases f with
  | zero =>
    rw [hf.resolve_left (by omega)]; rfl
  | succ f => rfl

theorem seen_len (f : Nat) (L : List Ent) (p rel : List (List UInt8)) (ks : List (List UInt8)) (k : Nat) : (seen f L p rel (ks.take k)).length ≤ (seen f L p rel ks).length := by
  conv => rhs; rw [← List.take_append_drop k ks]
  unfold seen
  rw [List.flatMap_append, List.map_append, List.length_append]
  omega

structure Round (base t : Nat) (L : List Ent) (M : Nat → Option Nat) (B0 : Nat) (St : List Ent → (Nat → Prop) → World → Prop) (w1 : World) (F : Nat → Prop) (v : Value) (rel : List (List UInt8)) (ys : List Ent) (wr : World) (Fr : Nat → Prop) : Prop where
  st : St ys Fr wr
  foot : ∀ b, Fr b → F b ∨ w1.heap.size ≤ b
  kept : Kept (fun b => F b ∨ v.ownBlock = some b) w1 wr
  own : wr.ownsRow B0 9 1 v rel.length (cellsS rel)

theorem strs_one (w : World) (z : List UInt8) : StrsIs (w.alloc (.cells #[.string (bs z)] 9)) (.slice (some ⟨w.heap.size, 0, none⟩) 1 1) [z] :=
  ⟨_, 1, rfl, Nat.le_refl _, by simp [maxLen], fun _ => ⟨w.heap.size, 0, rfl, by simp, fun i hi => by
    have : i = 0 := by simpa using hi
    subst this
    exact (cell_new w _ _ _).trans rfl⟩⟩

theorem node_look {w : World} {base t : Nat} {L : List Ent} {M : Nat → Option Nat} (hT : TreeAt w base t L M) {P : List (List UInt8)} {i j : Nat} {z : List UInt8} (hi : (P, i) ∈ L) (hj : look L (P ++ [z]) = some j) (hz : isN z = true) :
    ∃ m, w.cell? ⟨i, 0, none⟩ = some (.map (some m)) ∧ (Instr.lookup 75 (.map (some m)) (.string (bs z)) false).run Tryz.prog w = .ok (.pointer (some ⟨j, 0, none⟩)) w := by
  obtain ⟨d, hd, hm⟩ := hT.good.up _ _ _ (look_mem hj)
  obtain ⟨m, hm⟩ := Option.isSome_iff_exists.1 hm
  rw [hT.good.uni.same hd hi] at hm
  have hc := (hT.node _ _ hi).1.cell
  rw [hm] at hc
  have hzl := isN_len hz
  have hl := (hT.maps _ _ _ hi hm).1.look1 (bs_short (k := z) (by omega))
  simp only [data_bs] at hl
  rw [hj] at hl
  exact ⟨m, hc, hl⟩

theorem round_step {base t : Nat} {L : List Ent} {M : Nat → Option Nat} {B0 : Nat} {St : List Ent → (Nat → Prop) → World → Prop} {w w1 wr w2 w3 w4 : World} {F Fr F3 F4 : Nat → Prop} {v v' : Value} {rel : List (List UInt8)} {z : List UInt8} {ys zs : List Ent} {o : Obj}
    (hb : Below w.heap.size w w1) (hO : ∀ a, v.ownBlock = some a → a < w.heap.size) (hvF : ∀ a, v.ownBlock = some a → ¬ F a) (Rd : Round base t L M B0 St w1 F v rel ys wr Fr)
    (h2 : w2.ownsRow B0 9 1 v rel.length (cellsS rel)) (h3 : Kept (fun b => v.ownBlock = some b) (wr.alloc o) w2) (h4 : Lies (wr.alloc o) w2 B0 rel.length v v' rel z)
    (f3 : ∀ b, F3 b → Fr b ∨ w2.heap.size ≤ b) (k3 : Kept Fr w2 w3)
    (s4 : St zs F4 w4) (f4 : ∀ b, F4 b → F3 b ∨ w3.heap.size ≤ b) (k4 : Kept (fun b => F3 b ∨ v'.ownBlock = some b) w3 w4) (o4 : w4.ownsRow B0 9 1 v' (rel.length + 1) (cellsS (rel ++ [z]))) :
    Round base t L M B0 St w1 F v rel zs w4 F4 := by
  have z1 := hb.size
  have z2 := Rd.kept.size
  have z3 : wr.heap.size + 1 ≤ w2.heap.size := by have := h3.size; simpa using this
  have z4 := k3.size
  have g3 : ∀ b, F3 b → F b ∨ w1.heap.size ≤ b := fun b h => by
    rcases f3 b h with h | h
    · exact Rd.foot b h
    · right; omega
  refine ⟨s4, fun b h => ?_, ?_, ?_⟩
  · rcases f4 b h with h | h
    · exact g3 b h
    · right; omega
  · have k1 : Kept (fun b => F b ∨ v.ownBlock = some b) w1 w2 :=
      Rd.kept.trans ((Kept.of_below (F := fun _ => False) (below_alloc wr o)).trans h3 (H := fun b => v.ownBlock = some b) (fun _ _ h => absurd h id) fun _ _ h => h) (fun _ _ h => h) fun _ _ h => .inr h
    have k2 : Kept (fun b => F b ∨ v.ownBlock = some b) w1 w3 := k1.trans k3 (fun _ _ h => h) fun x hx h => by
      rcases Rd.foot x h with h | h
      · exact .inl h
      · omega
    refine k2.trans k4 (fun _ _ h => h) fun x hx h => ?_
    rcases h with h | h
    · rcases g3 x h with h | h
      · exact .inl h
      · omega
    · rcases h4 with ⟨h5, _⟩ | h5
      · right; rw [← h5]; exact h
      · have := (h5 x h).1
        simp at this; omega
  · rcases h4 with ⟨_, h5⟩ | h5
    · exact h5 w4 o4
    · refine own_kept h2 fun a ha => ?_
      have ha1 := hO a ha
      have nF : ¬ Fr a := fun h => by
        rcases Rd.foot a h with h | h
        · exact hvF a ha h
        · omega
      have n3 : ¬ (F3 a ∨ v'.ownBlock = some a) := by
        rintro (h | h)
        · rcases g3 a h with h | h
          · exact hvF a ha h
          · omega
        · have := (h5 a h).1
          simp at this; omega
      exact (k4.block a (by omega) n3).trans (k3.block a (by omega) nF)

set_option maxHeartbeats 4000000 in
set_option maxRecDepth 100000 in
theorem walk_any (g : Nat) (caps : Array Value) (eg : ∀ args w, (callFunc g args).run Tryz.prog w = .ok (.enter g args) w) (base t : Nat) (L : List Ent) (M : Nat → Option Nat) (p0 : List (List UInt8)) (B0 N : Nat)
    (St : List Ent → (Nat → Prop) → World → Prop) (hlt : ∀ xs F w, St xs F w → ∀ b, F b → b < w.heap.size) (htree : ∀ xs F w, St xs F w → TreeAt w base t L M)
    (hkeep : ∀ xs F w w', St xs F w → Kept (fun b => ¬ F b ∧ B0 ≤ b) w w' → St xs F w')
    (hvis : ∀ xs F w v ns j, St xs F w → StrsIs w v ns → (p0 ++ ns, j) ∈ L → ns ≠ [] → B0 ≤ w.heap.size → xs.length < N → Calls Tryz.prog g (#[v, ptr j] ++ caps) w fun e w' => e = .returned (.tuple #[]) ∧ ∃ F', St (xs ++ [(ns, j)]) F' w' ∧ (∀ b, F' b → F b ∨ w.heap.size ≤ b) ∧ Kept F w w') :
    ∀ (f : Nat) (rel : List (List UInt8)) (i : Nat) (w : World) (v : Value) (F : Nat → Prop) (xs : List Ent), (p0 ++ rel, i) ∈ L → 8 ≤ (p0 ++ rel).length + f → St xs F w → w.ownsRow B0 9 1 v rel.length (cellsS rel) → (∀ a, v.ownBlock = some a → ¬ F a) → B0 ≤ w.heap.size → xs.length + (wk f L (p0 ++ rel)).length ≤ N →
      Calls Tryz.prog 30 #[ptr i, v, .func (.func g) #[] caps] w fun e w' => e = .returned (.tuple #[]) ∧ ∃ F', St (xs ++ (wk f L (p0 ++ rel)).map (pref rel)) F' w' ∧ (∀ b, F' b → F b ∨ w.heap.size ≤ b) ∧ Kept (fun b => F b ∨ v.ownBlock = some b) w w' ∧ w'.ownsRow B0 9 1 v rel.length (cellsS rel) := by
  intro f
  induction f using Nat.strongRecOn with
  | _ f ih =>
    intro rel i w v F xs hi h8 hst hown hvF hB hN
    have HT : Hid (TreeAt w base t L M) := htree _ _ _ hst
    have hG := HT.out.good
    have hpl := (hG.nam _ _ hi).1
    have HR : Hid _ := fun (_ : Nat) => rising_any w base t L M HT.out (p0 ++ rel) i hi
    have IH : Hid _ := ih
    have HS : Hid (St xs F w) := hst
    have HO : Hid (w.ownsRow B0 9 1 v rel.length (cellsS rel)) := hown
    have hkl : (kids L (p0 ++ rel)).length ≤ 25 := by rw [kids_len]; have := kd_len L (p0 ++ rel); have := hG.few; omega
    generalize hP : p0 ++ rel = P at *
    obtain ⟨ks, hks⟩ : ∃ ks, kids L P = ks := ⟨_, rfl⟩
    rw [hks] at HR hkl
    have HVF : Hid (∀ a, v.ownBlock = some a → ¬ F a) := hvF
    have HF1 : Hid (1 ≤ f ∨ kids L P = []) := by
      show 1 ≤ f ∨ kids L P = []
      by_cases h0 : 1 ≤ f
      · exact .inl h0
      · refine .inr (List.eq_nil_iff_forall_not_mem.2 fun k hk => ?_)
        obtain ⟨j, hj⟩ := mem_kids.1 hk
        have := (hG.nam _ _ hj).1
        rw [List.length_append, List.length_singleton] at this
        omega
    have HL : Hid (∀ k ∈ ks, ∃ j, look L (P ++ [k]) = some j ∧ isN k = true) := by
      show ∀ k ∈ ks, ∃ j, look L (P ++ [k]) = some j ∧ isN k = true
      intro k hk
      rw [← hks] at hk
      obtain ⟨j, hj⟩ := mem_kids.1 hk
      exact ⟨j, hG.uni.look.2 hj, (hG.nam _ _ hj).2 k (by simp)⟩
    have HRL : Hid (rel.length ≤ 8) := by
      show rel.length ≤ 8
      rw [← hP, List.length_append] at hpl
      omega
    have HN : Hid (∀ k, k ≤ ks.length → xs.length + (seen (f - 1) L P rel (ks.take k)).length ≤ N) := by
      show ∀ k, k ≤ ks.length → xs.length + (seen (f - 1) L P rel (ks.take k)).length ≤ N
      intro k _
      have h1 := seen_len (f - 1) L P rel ks k
      have h2 := congrArg List.length (seen_all (rel := rel) HF1.out)
      rw [hks, List.length_map] at h2
      omega
    obtain ⟨hnode, _⟩ := HT.out.node _ _ hi
    clear hN
    clear ih hst hown hvF
    unfold ptr at HR ⊢
    go_enter Tryz.func30, Tryz.ntmps30
    go_wp2_with (go_at_call 40; refine (HR.out 0).mono ?_; rintro e w1 ⟨rv, rfl, hrow, hb⟩; obtain ⟨a, c, b, o, rfl, hcl, _, ha, hc⟩ := (strs_own hrow).where)
    have hRd0 : Round base t L M B0 St w1 F v rel (xs ++ seen (f - 1) L P rel (ks.take 0)) w1 F :=
      ⟨by rw [List.take_zero, seen_nil, List.append_nil]; exact hkeep _ _ _ _ HS.out (Kept.of_below hb), fun b h => .inl h, Kept.refl _ _, own_kept HO.out fun a ha => hb.block a (HO.out.lt a ha).2⟩
    have HC : Hid (∀ wr, Kept (fun b => F b ∨ v.ownBlock = some b) w1 wr → ∀ k, k < ks.length → a = some ⟨b, o, none⟩ ∧ wr.cell? ⟨b, o + k, none⟩ = some (.string (bs (sth ks k)))) := by
      show ∀ wr, Kept (fun b => F b ∨ v.ownBlock = some b) w1 wr → ∀ k, k < ks.length → a = some ⟨b, o, none⟩ ∧ wr.cell? ⟨b, o + k, none⟩ = some (.string (bs (sth ks k)))
      intro wr hk k hkl
      obtain ⟨haa, hbl⟩ := ha (by omega)
      refine ⟨haa, ?_⟩
      subst haa
      obtain ⟨hge, _⟩ := hrow.lt b rfl
      have hnb : ¬ (F b ∨ v.ownBlock = some b) := by
        rintro (h | h)
        · have := hlt _ _ _ HS.out b h; omega
        · have := (HO.out.lt b h).2; omega
      rw [World.cell?_of_block (w := w1) (a := ⟨b, o + k, none⟩) (hk.block b hbl hnb)]
      exact hc k hkl
    have HRd0 : Hid (Round base t L M B0 St w1 F v rel (xs ++ seen (f - 1) L P rel (ks.take 0)) w1 F) := hRd0
    have HBW : Hid (Below w.heap.size w w1) := hb
    clear hRd0 hc ha hrow hcl
    go_loopw [7, 8, 12] (fun _ _ q wr => ∃ (k : Nat) (Fr : Nat → Prop), k ≤ ks.length ∧ q = .int .i64 k ∧ Hid (Round base t L M B0 St w1 F v rel (xs ++ seen (f - 1) L P rel (ks.take k)) wr Fr)) (fun _ _ q _ => ks.length - (intOf q).toNat)
    case atStart => exact ⟨0, F, Nat.zero_le _, rfl, HRd0⟩
    case round =>
      obtain ⟨k, Fr, hk, rfl, HRd⟩ := hrel
      by_cases hlk : k < ks.length
      · obtain ⟨haa, hck⟩ := HC.out wr HRd.out.kept k hlk
        subst haa
        obtain ⟨j, hj, hz⟩ := HL.out _ (sth_mem hlk)
        obtain ⟨z, hzz⟩ : ∃ z, sth ks k = z := ⟨_, rfl⟩
        rw [hzz] at hck hj hz
        have hzl := isN_len hz
        have HA : Hid (∀ o, (wr.alloc o).ownsRow B0 9 1 v rel.length (cellsS rel)) := fun o => HRd.out.own.alloc o
        have hBr : B0 ≤ (wr.alloc (.cells #[.string (bs z)] 9)).heap.size := by
          have h1 := HRd.out.kept.size
          have h2 := HBW.out.size
          simp; omega
        have HBr : Hid (B0 ≤ (wr.alloc (.cells #[.string (bs z)] 9)).heap.size) := hBr
        have hrl := HRL.out
        have HQ : Hid (∀ w2, Kept (fun b => v.ownBlock = some b) (wr.alloc (.cells #[.string (bs z)] 9)) w2 → St (xs ++ seen (f - 1) L P rel (ks.take k)) Fr w2) := by
          show ∀ w2, Kept (fun b => v.ownBlock = some b) (wr.alloc (.cells #[.string (bs z)] 9)) w2 → St (xs ++ seen (f - 1) L P rel (ks.take k)) Fr w2
          intro w2 h3
          refine hkeep _ _ _ _ HRd.out.st ((Kept.of_below (F := fun _ => False) (below_alloc _ _)).trans h3 (fun x _ h => absurd h id) fun x _ hx => ⟨fun hFr => ?_, (HO.out.lt x hx).1⟩)
          rcases HRd.out.foot x hFr with h | h
          · exact HVF.out x hx h
          · have h1 := (HO.out.lt x hx).2
            have h2 := HBW.out.size
            omega
        clear hBr
        go_wp2_with (first
          | (at_builtin; refine wpList_append_str rfl (.tmp 16) (.tmp 18) rfl B0 v rel.length rel (by simp [Act.eval]) (HA.out _) (.slice (some ⟨wr.heap.size, 0, none⟩) 1 1) z (by simp [Act.eval]) (strs_one wr z) (by omega) HBr.out ?_; intro v' w2 h1 h2 h3 h4; have hst2 := HQ.out w2 h3; obtain ⟨m2, e1, e2⟩ := node_look (htree _ _ _ hst2) hi hj hz))
        have hnv : ∀ a, v'.ownBlock = some a → ¬ Fr a := by
          intro a ha hFr
          have hl := hlt _ _ _ HRd.out.st a hFr
          rcases h4 with ⟨h5, _⟩ | h5
          · rw [h5] at ha
            rcases HRd.out.foot a hFr with h | h
            · exact HVF.out a ha h
            · have h6 := (HO.out.lt a ha).2
              have h7 := HBW.out.size
              omega
          · have := (h5 a ha).1
            simp at this; omega
        have hz2 : B0 ≤ w2.heap.size := Nat.le_trans HBr.out h3.size
        have hmem : (p0 ++ (rel ++ [z]), j) ∈ L := by rw [← List.append_assoc, hP]; exact look_mem hj
        have hsn : seen (f - 1) L P rel (ks.take (k + 1)) = seen (f - 1) L P rel (ks.take k) ++ [(rel ++ [z], j)] ++ (wk (f - 1) L (P ++ [z])).map (pref (rel ++ [z])) := by
          rw [show ks.take (k + 1) = ks.take k ++ [z] by rw [← hzz, sth_lt hlk]; exact List.take_succ_eq_append_getElem hlk, seen_snoc hj]
        have hNk := HN.out (k + 1) (by omega)
        rw [hsn, List.length_append, List.length_append, List.length_map, List.length_singleton] at hNk
        refine Calls.mono (hvis _ Fr w2 v' (rel ++ [z]) j hst2 (strs_own h1) hmem (by simp) hz2 (by rw [List.length_append]; omega)) ?_
        rintro e w3 ⟨rfl, F3, st3, f3, k3⟩
        have hz3 : B0 ≤ w3.heap.size := Nat.le_trans hz2 k3.size
        have o3 : w3.ownsRow B0 9 1 v' (rel ++ [z]).length (cellsS (rel ++ [z])) := by
          rw [List.length_append, List.length_singleton]
          exact own_kept h1 fun a ha => k3.block a (h1.lt a ha).2 (hnv a ha)
        have hnv3 : ∀ a, v'.ownBlock = some a → ¬ F3 a := fun a ha h => by
          rcases f3 a h with h | h
          · exact hnv a ha h
          · have := (h1.lt a ha).2; omega
        obtain ⟨m3, e3, e4⟩ := node_look (htree _ _ _ st3) hi hj hz
        have hf1 : 1 ≤ f := HF1.out.resolve_right (by rw [hks]; intro h; rw [h] at hlk; exact absurd hlk (Nat.not_lt_zero _))
        have hlen : 8 ≤ (p0 ++ (rel ++ [z])).length + (f - 1) := by
          rw [← List.append_assoc, hP, List.length_append, List.length_singleton]; omega
        have HI : Hid _ := fun (_ : Nat) => IH.out (f - 1) (by omega) (rel ++ [z]) j w3 v' F3 _ hmem hlen st3 o3 hnv3 hz3 (by rw [← List.append_assoc, hP, List.length_append, List.length_append, List.length_singleton]; omega)
        unfold ptr at HI
        clear hmem hlen hf1 hnv3 e1 e2 IH hNk
        go_wp2_with fail
        refine Calls.mono (HI.out 0) ?_
        rintro e w4 ⟨rfl, F4, st4, f4, k4, o4⟩
        have hRd4 : Round base t L M B0 St w1 F v rel (xs ++ seen (f - 1) L P rel (ks.take (k + 1))) w4 F4 := by
          refine round_step HBW.out (fun a ha => (HO.out.lt a ha).2) HVF.out HRd.out h2 h3 h4 f3 k3 ?_ f4 k4 ?_
          · rw [hsn]
            rw [← List.append_assoc, ← List.append_assoc]
            rw [← List.append_assoc, hP] at st4
            exact st4
          · rw [List.length_append, List.length_singleton] at o4; exact o4
        have HRd4 : Hid (Round base t L M B0 St w1 F v rel (xs ++ seen (f - 1) L P rel (ks.take (k + 1))) w4 F4) := hRd4
        clear hRd4 st4 f4 k4 o4 st3 f3 k3 o3 HI h1 h2 h3 h4 hst2 hnv e3 e4
        go_wp2_with fail
        go_roundw
        case rel => exact ⟨k + 1, F4, by omega, by go_num, HRd4⟩
        case measure => simp [intOf]; omega
      · have hkn : k = ks.length := by omega
        subst hkn
        have hall := seen_all (f := f) (L := L) (p := P) (rel := rel) HF1.out
        rw [hks] at hall
        have hst := HRd.out.st
        rw [List.take_length, hall] at hst
        have HST : Hid (St (xs ++ (wk f L P).map (pref rel)) Fr wr) := hst
        have hkp : Kept (fun b => F b ∨ v.ownBlock = some b) w wr := (Kept.of_below (F := fun _ => False) HBW.out).trans HRd.out.kept (fun _ _ h => absurd h id) fun _ _ h => h
        have HKP : Hid (Kept (fun b => F b ∨ v.ownBlock = some b) w wr) := hkp
        clear hst hkp hall
        go_wp2_with fail
        go_end0
        refine ⟨rfl, Fr, HST.out, fun b hb => ?_, HKP.out, HRd.out.own⟩
        rcases HRd.out.foot b hb with h | h
        · exact .inl h
        · have := HBW.out.size
          exact .inr (by omega)

end Go.Proofs.YtdlmkienogimgaaGreatDoor
