/- This text proves what Write of package sparse tells, and what the file is behind it; nothing is turned but the file's two blocks; the conditions are that the file lies there, and that the slice stays as it is while these are written. -/
import Derived.Test.YtepnbkonhaongaaDoorF4
import Derived.Deep.RegionHeld3
namespace Go.Proofs.YtepnbkonhaongaaDoor
open Go.RowKit Go.Deep Go.Maps

/-- A slice that stays while some blocks are turned. -/
def Keeps (S : Nat → Prop) (w : World) (v : Value) (xs : List Int) : Prop := ∀ w', Stay S w w' → SliceIs w' v xs
theorem Keeps.is {S : Nat → Prop} {w : World} {v : Value} {xs : List Int} (h : Keeps S w v xs) : SliceIs w v xs := h w (Stay.refl _ _)
theorem Keeps.stay {S : Nat → Prop} {w w' : World} {v : Value} {xs : List Int} (h : Keeps S w v xs) (hs : Stay S w w') : Keeps S w' v xs := fun w2 h2 => h w2 (hs.trans h2)

/-- A file behind what was to be written, right or wrong. -/
def wroF (f : Fil) (a : Int) (xs : List Int) : Fil := if wrE a xs = 0 then wrF f a.toNat xs else f
theorem wroF_wel {f : Fil} (w : Wel f) (a : Int) (xs : List Int) : Wel (wroF f a xs) := by
  unfold wroF
  split
  · rename_i h
    obtain ⟨m, rfl, h2, _⟩ := wrE_zero h
    rw [Int.toNat_natCast]
    exact wrF_wel w h2
  · exact w

theorem FilM.size {w : World} {g b : Nat} {f : Fil} (h : FilM w g b f) (s : Nat) : FilM (w.setCell ⟨g, 0, none⟩ (.int .i64 (s : Int))) g b ⟨s, f.c, f.h⟩ := by
  refine ⟨?_, (h.map.block (Below.heap_setCell w ⟨g, 0, none⟩ _ b (fun e => h.apart e.symm))).alike (fun _ _ => rfl) (fun _ _ => rfl)⟩
  have hc := h.cells
  simp [World.setCell, Array.getElem?_modify, hc]

set_option maxHeartbeats 4000000 in
set_option maxRecDepth 100000 in
theorem sp_write (w : World) (g b : Nat) (f : Fil) (h : FilM w g b f) (a : Int) (v : Value) (xs : List Int) (hx : Keeps (Two g b) w v xs) :
    Calls Tryd.prog 11 #[ptrF g, .int .i64 a, v] w fun e w' => e = .returned (errV (wrE a xs)) ∧ FilM w' g b (wroF f a xs) ∧ Stay (Two g b) w w' := by
  have HC : Hid _ := fun (_ : Nat) => sp_check w v xs hx.is a
  have HM : Hid (FilM w g b f) := h
  have HX : Hid (Keeps (Two g b) w v xs) := hx
  obtain ⟨ad, c, rfl, hl, _⟩ := hx.is
  unfold maxLen at hl
  unfold wroF
  by_cases he : wrE a xs = 0
  · rw [if_pos he, he, errV_zero]
    obtain ⟨A, rfl, hA, _⟩ := wrE_zero he
    rw [he, errV_zero] at HC
    rw [Int.toNat_natCast]
    have hL : Hid (A + xs.length ≤ 64) := hA
    have HW : Hid (∀ w2 s, FilM w2 g b (putN f A xs xs.length) → s = (wrF f A xs).s → FilM (w2.setCell ⟨g, 0, none⟩ (.int .i64 (s : Int))) g b (wrF f A xs)) := fun w2 s h2 hs => by
      have := h2.size s
      rw [hs] at this ⊢
      exact this
    have HW0 : Hid (xs.length = 0 → wrF f A xs = f) := wrF_nil f A
    have HWs : Hid (0 < xs.length → (wrF f A xs).s = max f.s (A + xs.length)) := fun h0 => if_pos h0
    obtain ⟨n, hn⟩ : ∃ n, n = xs.length := ⟨_, rfl⟩
    have HN : Hid (n = xs.length) := hn
    rw [← hn] at HC hl HW HW0 HWs hL ⊢
    rw [← hn] at HX
    have hA64 := hL.out
    clear hn hA he hx h
    unfold ptrF
    go_enter Tryd.func11, Tryd.ntmps11
    go_wp2_with (go_at_call 29; refine (HC.out 0).mono ?_; rintro e w' ⟨rfl, rfl⟩)
    go_loopw [18] (fun i wr => ∃ k : Nat, k ≤ n ∧ i = .int .i64 k ∧ FilM wr g b (putN f A xs k) ∧ Stay (Two g b) w wr) (fun i _ => n - (Go.RowKit.intOf i).toNat)
    case atStart => exact ⟨0, Nat.zero_le _, rfl, HM.out, Stay.refl _ _⟩
    case round =>
      obtain ⟨k, hk, rfl, hF, hS⟩ := hrel
      have HF : Hid (FilM wr g b (putN f A xs k)) := hF
      have HS : Hid (Stay (Two g b) w wr) := hS
      clear hF hS
      by_cases hlt : k < n
      · obtain ⟨a2, c2, b2, o2, e2, _, ha, hc⟩ := (HX.out wr HS.out).where
        rw [← HN.out] at e2 ha hc
        cases e2
        have haa := ha (by omega)
        subst haa
        have hck := hc k hlt
        have HP : Hid _ := fun (_ : Nat) => sp_put wr g b _ HF.out (A + k) (by omega) (nth xs k)
        have HB : Hid (put1 (putN f A xs k) (A + k) (nth xs k) = putN f A xs (k + 1)) := rfl
        rw [HB.out] at HP
        rw [show ((A + k : Nat) : Int) = (A : Int) + (k : Int) by omega] at HP
        generalize nth xs k = x at hck HP
        clear ha hc HB
        unfold ptrF at HP
        go_wp2_with (go_at_call 30; refine (HP.out 0).mono ?_; rintro e w2 ⟨rfl, hF2, hS2⟩)
        have HF2 : Hid (FilM w2 g b (putN f A xs (k + 1))) := hF2
        have HS2 : Hid (Stay (Two g b) w w2) := HS.out.trans hS2
        clear hF2 hS2 hck
        go_wp2
        go_roundw
        case rel => exact ⟨k + 1, by omega, by go_num, HF2.out, HS2.out⟩
        case measure => simp [Go.RowKit.intOf]; omega
      · have hkn : k = n := by omega
        subst hkn
        obtain ⟨d0, d1, e0, e1⟩ := HF.out.facts
        rw [putN_s] at d0
        obtain ⟨S, hS0⟩ : ∃ S, S = f.s := ⟨_, rfl⟩
        have HS0 : Hid (S = f.s) := hS0
        rw [← hS0] at d0
        clear hS0
        by_cases h0 : k = 0
        · have H0 : Hid (k = 0) := h0
          have hz : ¬ (0 : Int) < (k : Int) := by omega
          clear h0
          go_wp2
          go_ret
          exact ⟨rfl, by rw [HW0.out H0.out]; have := HF.out; rw [H0.out] at this; exact this, HS.out⟩
        · have hz : (0 : Int) < (k : Int) := by omega
          have HZ : Hid (0 < k) := by show 0 < k; omega
          clear h0
          rcases (show (S : Int) < (A : Int) + (k : Int) ∨ (A : Int) + (k : Int) ≤ (S : Int) by omega) with hmn | hmn
          · have HMN : Hid ((S : Int) < (A : Int) + (k : Int)) := hmn
            go_wp2
            go_ret
            refine ⟨rfl, ?_, HS.out.trans (Stay.set _ _ (.inl rfl))⟩
            have := HW.out wr (A + k) HF.out (by rw [HWs.out HZ.out, ← HS0.out]; have := HMN.out; omega)
            rw [show ((A + k : Nat) : Int) = (A : Int) + (k : Int) by omega] at this
            exact this
          · have HMN : Hid ((A : Int) + (k : Int) ≤ (S : Int)) := hmn
            go_wp2
            go_ret
            refine ⟨rfl, ?_, HS.out.trans (Stay.set _ _ (.inl rfl))⟩
            exact HW.out wr S HF.out (by rw [HWs.out HZ.out, ← HS0.out]; have := HMN.out; omega)
  · rw [if_neg he, errV_pos he]
    rw [errV_pos he] at HC
    unfold ptrF
    generalize xs.length = n at *
    generalize wrE a xs = E at *
    have hE : ¬ E = 0 := he
    clear hx h he
    go_enter Tryd.func11, Tryd.ntmps11
    go_wp2_with (go_at_call 29; refine (HC.out 0).mono ?_; rintro e w' ⟨rfl, rfl⟩)
    go_ret
    exact ⟨rfl, HM.out, Stay.refl _ _⟩

end Go.Proofs.YtepnbkonhaongaaDoor
