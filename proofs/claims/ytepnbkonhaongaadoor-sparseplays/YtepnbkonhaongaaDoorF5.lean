/- This text proves what Size and Read of package sparse answer: how many bytes there are, and the bytes from a place on in new memory, or what is wrong; old memory is as it was; the condition is that the file lies there. -/
import Derived.Test.YtepnbkonhaongaaDoorF4
import Derived.Deep.RegionHeld3
namespace Go.Proofs.YtepnbkonhaongaaDoor
open Go.RowKit Go.Deep Go.Maps

theorem sp_size (w : World) (g b : Nat) (f : Fil) (h : FilM w g b f) : Calls Tryd.prog 13 #[ptrF g] w fun e w' => e = .returned (.int .i64 (f.s : Int)) ∧ w = w' := by
  obtain ⟨c0, c1, _, _⟩ := h.facts
  unfold ptrF
  clear h
  go_enter Tryd.func13, Tryd.ntmps13
  go_wp2
  go_ret
  exact ⟨rfl, rfl⟩

/-- The byte at a place, out of its block. -/
theorem quad_at (c : Nat → Int) (k r : Nat) (hr : r < 4) (w : World) : (Instr.index 61 (quad c k) (.int .i64 (r : Int))).run Tryd.prog w = .ok (.int .i64 (c (4 * k + r))) w := by
  rcases (show r = 0 ∨ r = 1 ∨ r = 2 ∨ r = 3 by omega) with rfl | rfl | rfl | rfl <;> kernel_rfl

theorem news_one (w : World) (u : Value) (t : TypeId) : ∀ (j : Nat) (x : Value), [u][j]? = some x → (w.alloc (.cells #[u] t)).cell? ((⟨w.heap.size, 0, none⟩ : Addr).add j) = some x := by
  intro j x h
  obtain ⟨hj, rfl⟩ := List.getElem?_eq_some_iff.1 h
  obtain rfl : j = 0 := by simpa using hj
  rw [addr_at, cell_new]; rfl
theorem ones_int (x : Int) : ∀ u ∈ [Value.int .i64 x], u.oneCell' = true := fun u hu => by rw [List.mem_singleton.1 hu]; rfl

/-- The first bytes from a place on. -/
def rdK (f : Fil) (a k : Nat) : List Int := (List.range k).map fun i => f.c (a + i)
theorem rdK_snoc (f : Fil) (a k : Nat) : cellsOf (rdK f a k) ++ [.int .i64 (f.c (a + k))] = cellsOf (rdK f a (k + 1)) := by simp [cellsOf, rdK, List.range_succ]

/-- What Read tells. -/
def rdE (a n : Int) : Nat := if isS a = true ∧ isS n = true then 0 else 1
def rdV (f : Fil) (a n : Int) : List Int := if isS a = true ∧ isS n = true then rdL f a.toNat n.toNat else []

set_option maxHeartbeats 4000000 in
set_option maxRecDepth 100000 in
theorem sp_read (w : World) (g b : Nat) (f : Fil) (h : FilM w g b f) (hw : Wel f) (a n : Int) :
    Calls Tryd.prog 12 #[ptrF g, .int .i64 a, .int .i64 n] w fun e w' => ∃ v, e = .returned (.tuple #[v, errV (rdE a n)]) ∧ w'.ownsRow w.heap.size 3 1 v (rdV f a n).length (cellsOf (rdV f a n)) ∧ Below w.heap.size w w' := by
  have HA : Hid _ := fun (_ : Nat) => sp_isSize a w
  have HN : Hid _ := fun (_ : Nat) => sp_isSize n w
  obtain ⟨c0, c1, _, _⟩ := h.facts
  unfold rdE rdV
  cases hSa : isS a with
  | false =>
    rw [if_neg (by simp), if_neg (by simp), errV_pos (by decide)]
    rw [hSa] at HA
    unfold ptrF
    clear hSa HN h c0 c1
    go_enter Tryd.func12, Tryd.ntmps12
    go_wp2_with (go_at_call_of 25 a; refine (HA.out 0).mono ?_; rintro e w' ⟨rfl, rfl⟩)
    go_ret2
    exact ⟨_, rfl, World.ownsRow_nil _ _ _ _, Below.refl _ _⟩
  | true =>
    cases hSn : isS n with
    | false =>
      rw [if_neg (by simp), if_neg (by simp), errV_pos (by decide)]
      rw [hSa] at HA
      rw [hSn] at HN
      unfold ptrF
      clear hSa hSn h c0 c1
      go_enter Tryd.func12, Tryd.ntmps12
      go_wp2_with (first
        | (go_at_call_of 25 a; refine (HA.out 0).mono ?_; rintro e w' ⟨rfl, rfl⟩)
        | (go_at_call_of 25 n; refine (HN.out 0).mono ?_; rintro e w' ⟨rfl, rfl⟩))
      go_ret2
      exact ⟨_, rfl, World.ownsRow_nil _ _ _ _, Below.refl _ _⟩
    | true =>
      rw [if_pos ⟨rfl, rfl⟩, if_pos ⟨rfl, rfl⟩, errV_zero]
      obtain ⟨a0, a1⟩ := isS_iff.1 hSa
      obtain ⟨n0, n1⟩ := isS_iff.1 hSn
      obtain ⟨A, rfl⟩ : ∃ A : Nat, a = (A : Int) := ⟨a.toNat, by omega⟩
      obtain ⟨N, rfl⟩ : ∃ N : Nat, n = (N : Int) := ⟨n.toNat, by omega⟩
      rw [hSa] at HA
      rw [hSn] at HN
      rw [Int.toNat_natCast, Int.toNat_natCast, rdL_len]
      have HM : Hid (FilM w g b f) := h
      have hs64 := hw.big
      have HD : Hid (∀ K, K = min (A + N) f.s - A → rdL f A N = rdK f A K) := fun K hK => by rw [hK]; rfl
      obtain ⟨S, hS0⟩ : ∃ S, f.s = S := ⟨_, rfl⟩
      have hS0' := hS0
      rw [hS0] at hs64 c0 HD ⊢
      obtain ⟨K, hK⟩ : ∃ K, K = min (A + N) S - A := ⟨_, rfl⟩
      rw [HD.out K hK, ← hK]
      have HK : Hid (K = min (A + N) S - A) := hK
      have hK64 : K ≤ 64 := by omega
      obtain ⟨t3, ht3, y30, y31, y32⟩ := info_parts Tryd.info3
      unfold ptrF
      clear hSa hSn h c1 HD hS0 hK hw
      have HS0 : Hid (f.s = S) := hS0'
      clear hS0'
      go_enter Tryd.func12, Tryd.ntmps12
      go_wp2_with (first
        | (go_at_call_of 25 (A : Int); refine (HA.out 0).mono ?_; rintro e w' ⟨rfl, rfl⟩)
        | (go_at_call_of 25 (N : Int); refine (HN.out 0).mono ?_; rintro e w' ⟨rfl, rfl⟩))
      clear HA HN
      go_loopw [8, 9] (fun v i wr => ∃ k, k ≤ K ∧ i = .int .i64 ((A + k : Nat) : Int) ∧ wr.ownsRow w.heap.size 3 1 v k (cellsOf (rdK f A k)) ∧ Below w.heap.size w wr) (fun _ i _ => 200 - (Go.RowKit.intOf i).toNat)
      case atStart => exact ⟨0, Nat.zero_le _, rfl, World.ownsRow_nil _ _ _ _, Below.refl _ _⟩
      case round =>
        obtain ⟨k, hk, rfl, hown, hbel⟩ := hrel
        have HO : Hid (wr.ownsRow w.heap.size 3 1 u8 k (cellsOf (rdK f A k))) := hown
        have HB : Hid (Below w.heap.size w wr) := hbel
        obtain ⟨d0, d1, _, _⟩ := (HM.out.later hbel).facts
        obtain ⟨m, hm⟩ : ∃ m, m = A + k := ⟨_, rfl⟩
        rw [← hm]
        rw [HS0.out] at d0
        have hk' := HK.out
        clear hown hbel
        by_cases hlt : k < K
        · have hq : (m : Int) / 4 = ((m / 4 : Nat) : Int) := by omega
          have hr : (m : Int) % 4 = ((m % 4 : Nat) : Int) := by omega
          have hl := (HM.out.later HB.out).map.look1 (k := m / 4) (by omega)
          have hx := quad_at f.c (m / 4) (m % 4) (by omega) wr
          rw [show 4 * (m / 4) + m % 4 = m by omega] at hx
          have HQ : Hid ((m : Int) / 4 = ((m / 4 : Nat) : Int)) := hq
          have HR : Hid ((m : Int) % 4 = ((m % 4 : Nat) : Int)) := hr
          have HS : Hid (cellsOf (rdK f A k) ++ [.int .i64 (f.c m)] = cellsOf (rdK f A (k + 1))) := by
            show cellsOf (rdK f A k) ++ [.int .i64 (f.c m)] = _
            rw [hm]; exact rdK_snoc f A k
          have l1 : (m : Int) < (A : Int) + (N : Int) := by omega
          have l2 : (m : Int) < (S : Int) := by omega
          have hm4 : m ≤ 1000 := by omega
          have HMK : Hid (m = A + k) := hm
          generalize quad f.c (m / 4) = qv at *
          generalize f.c m = y at *
          clear hq hr hm hk'
          obtain ⟨q, hq⟩ : ∃ q, q = m / 4 := ⟨_, rfl⟩
          obtain ⟨r, hr⟩ : ∃ r, r = m % 4 := ⟨_, rfl⟩
          rw [← hq] at hl HQ
          rw [← hr] at hx HR
          have hq4 := HQ.out
          have hr4 := HR.out
          clear hq hr
          rcases (show (S : Int) < (A : Int) + (N : Int) ∨ (A : Int) + (N : Int) ≤ (S : Int) by omega) with hmn | hmn
          all_goals
            go_wp2_with (at_builtin; refine wpList_append_own _ rfl (.tmp 32) (.tmp 43) 25 rfl w.heap.size 3 t3 (.int .i64 0) 1 8 Tryd.underlying25 ht3 y30 y31 y32 rfl (by decide) u8 k (cellsOf (rdK f A k)) rfl (HO.out.alloc _) ⟨wr.heap.size, 0, none⟩ 1 1 [.int .i64 y] rfl rfl (news_one wr _ 3) (ones_int _) ?q1 ?q2 ?q3 ?q4)
            case q1 => unfold maxLen; omega
            case q2 => omega
            case q3 => have := HB.out.size; simp; omega
            case q4 =>
              intro v1 w1 hown hgr _
              rw [HS.out] at hown
              have HO1 : Hid (w1.ownsRow w.heap.size 3 1 v1 (k + 1) (cellsOf (rdK f A (k + 1)))) := hown
              have HB2 : Hid (Below w.heap.size w w1) := (HB.out.alloc HB.out.size _).grown hgr (by have := HB.out.size; simp; omega) (fun k e => (HO.out.lt k e).1)
              clear hown hgr hl hx
              go_wp2
              go_roundw
              case rel => exact ⟨k + 1, by omega, by have := HMK.out; subst this; go_num, HO1.out, HB2.out⟩
              case measure => simp [Go.RowKit.intOf]; omega
        · have hkK : k = K := by omega
          have HKK : Hid (k = K) := hkK
          have HMK : Hid (m = A + k) := hm
          rcases (show (S : Int) < (A : Int) + (N : Int) ∨ (A : Int) + (N : Int) ≤ (S : Int) by omega) with hmn | hmn
          · have l3 : ¬ (m : Int) < (S : Int) := by omega
            have hkn : k = K := HKK.out
            clear hkK hm hk' hkn
            go_wp2
            go_ret2
            exact ⟨_, rfl, by rw [← HKK.out]; simpa [rdK] using HO.out, HB.out⟩
          · have l3 : ¬ (m : Int) < (A : Int) + (N : Int) := by omega
            clear hkK hm hk'
            go_wp2
            go_ret2
            exact ⟨_, rfl, by rw [← HKK.out]; simpa [rdK] using HO.out, HB.out⟩

end Go.Proofs.YtepnbkonhaongaaDoor
