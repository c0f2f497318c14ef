/- This text proves that platterholdtop.TopFile returns true: a file with holes has ways to all its blocks, and through a number that is open its size is as far as one can go; old memory is as it was; the conditions: the slice lies there, and the library's variable errors.errorType holds what the program's own text lays. -/
import Derived.Test.YtepnbkonhaongaaDoorF9r
import Derived.Test.YtepnbkonhaongaaDoorF5s
import Derived.Test.YtepnbkonhaongaaDoorF2
import Derived.Test.YtepnbkonhaongaaDoorP3r
import Derived.Test.YtepnbkonhaongaaDoorJ4r
namespace Go.Proofs.YtepnbkonhaongaaDoor
open Go.RowKit Go.Deep Go.Maps

theorem FilM.above {w w' : World} {g b B : Nat} {f : Fil} (h : FilM w g b f) (hb : Below B w w') (h1 : g < B) (h2 : b < B) : FilM w' g b f := h.frame (hb.block g h1) (hb.block b h2)
theorem blL_nth {f : Fil} {k : Nat} (hk : k < (blN f).length) : nth (blL f) k = ((blN f)[k] : Int) := by
  rw [nth_lt (by rw [blL_len]; exact hk)]
  simp [blL]
theorem bl_small {f : Fil} (hw : Wel f) {k : Nat} (hk : k < (blN f).length) : 0 ≤ nth (blL f) k ∧ nth (blL f) k < 24 := by
  have hm := (blN_mem hw _).1 (List.getElem_mem hk)
  have h1 := hw.low _ hm
  have h2 := hw.big
  rw [blL_nth hk]
  omega

/-- Where a slice's cells begin. -/
theorem SliceIs.parts {w : World} {v : Value} {xs : List Int} (h : SliceIs w v xs) : ∃ a c b o, v = .slice a xs.length c ∧ xs.length ≤ maxLen ∧ (0 < xs.length → a = some ⟨b, o, none⟩) ∧ (0 < xs.length → b < w.heap.size) ∧
    ∀ i, i < xs.length → w.cell? ⟨b, o + i, none⟩ = some (.int .i64 (nth xs i)) := by
  obtain ⟨a, c, hv, hl, hx⟩ := h
  by_cases hne : xs = []
  · exact ⟨a, c, 0, 0, hv, hl, fun h => by rw [hne] at h; simp at h, fun h => by rw [hne] at h; simp at h, fun i hi => by rw [hne] at hi; simp at hi⟩
  · obtain ⟨b, o, h1, h2, h3⟩ := hx hne
    exact ⟨a, c, b, o, hv, hl, fun _ => h1, fun _ => h2, h3⟩

theorem lst_none : lst (fun _ => none) = 0 := lst_one (by decide) (fun j hj => by omega) (fun _ => rfl)
theorem on_first {S : Nat} (h : S ≤ 64) (q : Nat) : onN (fun _ => none) (S : Int) = 0 ∧ onE (fun _ => none) (S : Int) = 0 ∧ onF (fun _ => none) (S : Int) q = upd (fun _ => none) 0 (some q) ∧ onZ (fun _ => (0, 0)) (S : Int) q = upd (fun _ => (0, 0)) q (S, 0) := by
  have hc : (0 : Int) ≤ (S : Int) ∧ (S : Int) ≤ 64 := by omega
  unfold onN onE onF onZ
  rw [if_pos hc, if_pos hc, if_pos hc, if_pos hc]
  unfold giN giE giF
  rw [lst_none]
  exact ⟨rfl, rfl, rfl, rfl⟩
theorem fo_first (q : Nat) : fo (upd (fun _ => none) 0 (some q)) 0 = some q := rfl
theorem mv_far (S q : Nat) : mvN (upd (fun _ => none) 0 (some q)) (upd (fun _ => (0, 0)) q (S, 0)) 0 (S : Int) = S ∧ mvE (upd (fun _ => none) 0 (some q)) (upd (fun _ => (0, 0)) q (S, 0)) 0 (S : Int) = 0 ∧ mvZ (upd (fun _ => none) 0 (some q)) (upd (fun _ => (0, 0)) q (S, 0)) 0 (S : Int) = upd (upd (fun _ => (0, 0)) q (S, 0)) q (S, S) := by
  unfold mvN mvE mvZ
  rw [fo_first]
  simp only [upd_self]
  have hc : -((0 : Nat) : Int) ≤ (S : Int) ∧ (S : Int) ≤ (S : Int) - ((0 : Nat) : Int) := by omega
  rw [if_pos hc, if_pos hc, if_pos hc]
  exact ⟨by omega, rfl, by congr 2; omega⟩
theorem mv_no (S q : Nat) (Z : Nat → Nat × Nat) (hz : Z q = (S, S)) : mvN (upd (fun _ => none) 0 (some q)) Z 0 1 = 0 ∧ mvE (upd (fun _ => none) 0 (some q)) Z 0 1 = 1 := by
  unfold mvN mvE
  rw [fo_first]
  simp only [hz]
  have hc : ¬ (-((S : Nat) : Int) ≤ 1 ∧ (1 : Int) ≤ (S : Int) - ((S : Nat) : Int)) := by omega
  rw [if_neg hc, if_neg hc]
  exact ⟨rfl, rfl⟩

theorem top_e : wrE 4 [9] = 0 := by decide
theorem top_s : (wroF fil0 4 [9]).s = 5 := by decide +kernel

set_option maxHeartbeats 8000000 in
set_option maxRecDepth 100000 in
theorem topFile_any (w : World) (at' : Int) (v : Value) (xs : List Int) (hx : SliceIs w v xs) (hL : Laid w) :
    Calls Tryd.prog 4 #[.int .i64 at', v] w fun e w' => e = .returned (.bool true) ∧ Below w.heap.size w w' := by
  have HX : Hid (SliceIs w v xs) := hx
  have HL : Hid (Laid w) := hL
  clear hx hL
  go_enter Tryd.func4, Tryd.ntmps4
  go_wp2_with fail
  refine (sp_new _).mono ?_
  rintro e w1 ⟨g0, b0, rfl, hF, hg, hb, hB⟩
  have ST0 : Hid (OnF w w1 g0 b0 fil0) := ⟨hF, wel0, ⟨hg, hb⟩, hB⟩
  clear hF hg hb hB
  have HW : Hid _ := fun (_ : Nat) => sp_write _ g0 b0 fil0 (ST0.out.fil.later (below_alloc w1 (.cells ([9].map fun x => Value.int .i64 x).toArray 3))) 4 _ [9] (keeps_lit ST0.out.fil.lt.1 ST0.out.fil.lt.2 [9] (by unfold maxLen; simp) 1)
  rw [top_e, errV_zero] at HW
  unfold ptrF at HW ⊢
  go_wp2_with (first
    | (go_at_call 11; refine (HW.out 0).mono ?_; rintro e w2 ⟨rfl, hF2, hS2⟩; have ST2 : Hid (OnF w w2 g0 b0 (wroF fil0 4 [9])) := (ST0.out.later (below_alloc _ _)).step hF2 (wroF_wel wel0 4 [9]) hS2; clear hF2 hS2)
    | (go_at_call 13; refine Calls.mono (sp_size w2 g0 b0 _ ST2.out.fil) ?_; rintro e w3 ⟨rfl, rfl⟩; rw [top_s]))
  refine (sp_new _).mono ?_
  rintro e w3 ⟨g, b, rfl, hF, hg, hb, hB⟩
  have HB2 : Hid (Below w.heap.size w w2) := ST2.out.old
  have ST3 : Hid (OnF w w3 g b fil0) := ⟨hF, wel0, ⟨Nat.le_trans HB2.out.size hg, Nat.le_trans HB2.out.size hb⟩, Below.next HB2.out hB⟩
  clear hF hg hb hB HW
  have H4 : Hid _ := fun (_ : Nat) => sp_write w3 g b fil0 ST3.out.fil at' v xs (keeps_old ST3.out.old ST3.out.low.1 ST3.out.low.2 HX.out)
  unfold ptrF at H4 ⊢
  by_cases he : wrE at' xs = 0
  · rw [he, errV_zero] at H4
    have hw := wroF_wel wel0 at' xs
    generalize wroF fil0 at' xs = f at *
    clear he
    go_wp2_with (go_at_call 11; refine (H4.out 0).mono ?_; rintro e w4 ⟨rfl, hF4, hS4⟩; have ST4 : Hid (OnF w w4 g b f) := ST3.out.step hF4 hw hS4; clear hF4 hS4)
    refine (sp_blocks w4 g b f ST4.out.fil hw).mono ?_
    rintro e w5 ⟨v5, rfl, hr5, hb5⟩
    have ST5 : Hid (OnF w w5 g b f) := ST4.out.later hb5
    have hs5 : SliceIs w5 v5 (blL f) := slice_own hr5 (by rw [blL_len]; have := blN_le f; unfold maxLen; omega)
    obtain ⟨a5, c5, b5, o5, rfl, _, ha5, hlt5, hc5⟩ := hs5.parts
    have HBL : Hid (∀ k, k < (blL f).length → 0 ≤ nth (blL f) k ∧ nth (blL f) k < 24) := fun k hk => bl_small hw (by rw [← blL_len]; exact hk)
    have h16 : (blL f).length ≤ 16 := by rw [blL_len]; exact blN_le f
    have h64 := hw.big
    have HWel : Hid (Wel f) := hw
    obtain ⟨M, hM⟩ : ∃ M, M = (blL f).length := ⟨_, rfl⟩
    rw [← hM] at ha5 hlt5 hc5 HBL h16 ⊢
    have HC5 : Hid (∀ w', Below w5.heap.size w5 w' → ∀ i, i < M → w'.cell? ⟨b5, o5 + i, none⟩ = some (.int .i64 (nth (blL f) i))) := fun w' hb i hi => by rw [hb.cell (p := ⟨b5, o5 + i, none⟩) (hlt5 (by omega))]; exact hc5 i hi
    clear hr5 hb5 hs5 hlt5 hc5 hM hw
    go_wp2
    go_loopw [7] (fun i wr => ∃ k : Nat, k ≤ M ∧ i = .int .i64 k ∧ Below w5.heap.size w5 wr) (fun i _ => M - (Go.RowKit.intOf i).toNat)
    case atStart => exact ⟨0, Nat.zero_le _, rfl, Below.refl _ _⟩
    case round =>
      obtain ⟨k, hk, rfl, hbel⟩ := hrel
      have HBR : Hid (Below w5.heap.size w5 wr) := hbel
      clear hbel
      by_cases hlt : k < M
      · have hlt' : (k : Int) < (M : Int) := by omega
        have haa := ha5 (by omega)
        subst haa
        have hck := HC5.out wr HBR.out k hlt
        have hy := HBL.out k hlt
        have HO : Hid _ := fun (_ : Nat) => of_any (nth (blL f) k) wr
        have HK : Hid _ := fun (w6 : World) (v6 : Value) (h : SliceC w6 v6 (ofL (nth (blL f) k))) => block_any w6 v6 _ h
        rw [ofE_yes hy, errV_zero] at HO
        rw [(back_of hy).1, (back_of hy).2, errV_zero] at HK
        have HCK : Hid (∀ w', Below wr.heap.size wr w' → w'.cell? ⟨b5, o5 + k, none⟩ = some (.int .i64 (nth (blL f) k))) := fun w' hb => HC5.out w' (Below.next HBR.out hb) k hlt
        generalize nth (blL f) k = y at *
        clear hy
        go_wp2_with (first
          | (go_at_call 17; refine (HO.out 0).mono ?_; rintro e w6 ⟨v6, rfl, hs6, hb6⟩; have HB6 : Hid (Below wr.heap.size wr w6) := hb6; have HS6 : Hid (SliceC w6 v6 (ofL y)) := hs6; clear hs6 hb6)
          | (go_at_call 18; refine (HK.out _ _ HS6.out).mono ?_; rintro e w7 ⟨rfl, q, rfl⟩; have hck7 := HCK.out (w6.drewN q) (HB6.out.trans (below_drew _ _ _))))
        go_roundw
        case rel => exact ⟨k + 1, by omega, by go_num, Below.next HBR.out (HB6.out.trans (below_drew _ _ _))⟩
        case measure => simp [Go.RowKit.intOf]; omega
      · have hkn : k = M := by omega
        subst hkn
        have ST6 : Hid (OnF w wr g b f) := ST5.out.later HBR.out
        go_wp2_with fail
        refine Calls.mono (new_any wr) ?_
        rintro e w8 ⟨rfl, hT8, hb8⟩
        obtain ⟨G, hG⟩ : ∃ G, G = wr.heap.size := ⟨_, rfl⟩
        rw [← hG] at hT8 hb8 ⊢
        have HGG : Hid (g < G ∧ b < G ∧ w.heap.size ≤ G) := ⟨by rw [hG]; exact ST6.out.fil.lt.1, by rw [hG]; exact ST6.out.fil.lt.2, by rw [hG]; exact ST6.out.old.size⟩
        have HF : Hid (∀ w', Below G wr w' → Calls Tryd.prog 13 #[ptrF g] w' fun e w'' => e = .returned (.int .i64 (f.s : Int)) ∧ w' = w'') := fun w' hb => sp_size w' g b f (ST6.out.fil.above hb HGG.out.1 HGG.out.2.1)
        have HEnd : Hid (∀ w', Below G wr w' → Below w.heap.size w w') := fun w' hb => ST6.out.old.trans (hb.mono HGG.out.2.2)
        have H8 : Hid (TabAt w8 G G (fun _ => none) (fun _ => (0, 0)) ∧ Below G wr w8) := ⟨hT8, hb8⟩
        obtain ⟨S, hS⟩ : ∃ S, S = f.s := ⟨_, rfl⟩
        rw [← hS] at h64 HF
        obtain ⟨n1, n2, n3, n4⟩ := on_first h64 w8.heap.size
        have HO : Hid _ := fun (_ : Nat) => open_any w8 G G _ _ H8.out.1 (S : Int)
        rw [n1, n2, n3, n4, errV_zero] at HO
        generalize w8.heap.size = q at HO
        obtain ⟨m1, m2, m3⟩ := mv_far S q
        have HM : Hid _ := fun (w9 : World) (h : TabAt w9 G G (upd (fun _ => none) 0 (some q)) (upd (fun _ => (0, 0)) q (S, 0))) => move_any w9 G G _ _ h 0 (S : Int)
        rw [m1, m2, m3, errV_zero] at HM
        obtain ⟨k1, k2⟩ := mv_no S q (upd (upd (fun _ => (0, 0)) q (S, 0)) q (S, S)) (upd_self _ _ _)
        have HN : Hid _ := fun (w10 : World) (h : TabAt w10 G G (upd (fun _ => none) 0 (some q)) (upd (upd (fun _ => (0, 0)) q (S, 0)) q (S, S))) => move_any w10 G G _ _ h 0 1
        rw [k1, k2, errV_pos (by decide)] at HN
        have HS8 : Hid _ := fun (_ : Nat) => HF.out w8 H8.out.2
        unfold ptrF at HF HS8
        clear hT8 hb8 hG n1 n2 n3 n4 m1 m2 m3 k1 k2 hS
        go_wp2_with fail
        refine (HF.out w8 H8.out.2).mono ?_
        rintro e w8' ⟨rfl, rfl⟩
        go_wp2_with fail
        refine (HO.out 0).mono ?_
        rintro e w9 ⟨rfl, hs9⟩
        have H9 : Hid (TabAt w9 G G (upd (fun _ => none) 0 (some q)) (upd (fun _ => (0, 0)) q (S, 0)) ∧ Below G wr w9) := ⟨hs9.at', H8.out.2.trans (hs9.below H8.out.1)⟩
        clear hs9
        go_wp2_with fail
        refine (HF.out w9 H9.out.2).mono ?_
        rintro e w9' ⟨rfl, rfl⟩
        go_wp2_with fail
        refine (HM.out w9 H9.out.1).mono ?_
        rintro e w10 ⟨rfl, hs10⟩
        have H10 : Hid (TabAt w10 G G (upd (fun _ => none) 0 (some q)) (upd (upd (fun _ => (0, 0)) q (S, 0)) q (S, S)) ∧ Below G wr w10) := ⟨hs10.at', H9.out.2.trans (hs10.below H9.out.1)⟩
        clear hs10
        go_wp2_with fail
        refine (HN.out w10 H10.out.1).mono ?_
        rintro e w11 ⟨rfl, hs11⟩
        have H11 : Hid (Below G wr w11) := H10.out.2.trans (hs11.below H10.out.1)
        clear hs11
        have HE : Hid _ := fun (_ : Nat) => error_any 1 1 w11 (HL.out.later (HEnd.out w11 H11.out))
        rw [errV_pos (by decide)] at HE
        go_wp2_with (first
          | (go_at_call 13; refine (HF.out w11 H11.out).mono ?_; rintro e w12 ⟨rfl, rfl⟩)
          | (go_at_call 8; refine (HE.out 0).mono ?_; rintro e w12 ⟨rfl, hb12⟩; have HB12 : Hid (Below w11.heap.size w11 w12) := hb12; clear hb12))
        go_ret
        exact ⟨rfl, Below.next (HEnd.out w11 H11.out) HB12.out⟩
  · rw [errV_pos he, show wroF fil0 at' xs = fil0 from if_neg he] at H4
    generalize wrE at' xs = E at *
    have hE : ¬ E = 0 := he
    clear he
    go_wp2_with (first
      | (go_at_call 11; refine (H4.out 0).mono ?_; rintro e w4 ⟨rfl, hF4, hS4⟩; have ST4 : Hid (OnF w w4 g b fil0) := ST3.out.step hF4 wel0 hS4; clear hF4 hS4)
      | (go_at_call 13; refine Calls.mono (sp_size w4 g b _ ST4.out.fil) ?_; rintro e w5 ⟨rfl, rfl⟩; rw [show fil0.s = 0 from rfl]))
    go_ret
    exact ⟨rfl, ST4.out.old⟩

end Go.Proofs.YtepnbkonhaongaaDoor
