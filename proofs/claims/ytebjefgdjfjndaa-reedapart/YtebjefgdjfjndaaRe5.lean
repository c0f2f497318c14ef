/- This text proves what reed.Make and reed.Again answer: what the one row of factors comes to, in new memory, or nil with the first error that the document names; the only condition is that the slices lie there. -/
import Derived.Test.YtebjefgdjfjndaaRe4
namespace Go.Proofs.Ytebjefgdjfjndaa
open Go.RowKit Go.Deep

theorem makeE_zero {xs : List Int} {more : Int} (h : makeE xs more = 0) : 0 < xs.length ∧ xs.length ≤ 8 ∧ (∀ i, i < xs.length → isByte (nth xs i)) ∧ 0 ≤ more ∧ more ≤ 4 := by
  unfold makeE at h
  split at h
  · cases h
  · split at h
    · cases h
    · split at h
      · rename_i h1 h2 h3
        rw [Bool.and_eq_true, decide_eq_true_iff] at h3
        refine ⟨by omega, by omega, fun i hi => ?_, h3.2.1, h3.2.2⟩
        exact (byteB_iff _).1 (List.all_eq_true.1 h3.1 _ (nth_mem hi))
      · cases h

theorem nth_there {xs : List Int} (h : ∀ i, i < xs.length → isByte (nth xs i)) : ∀ i, i < xs.length → thereB xs i = true := by
  intro i hi
  have := (h i hi).1
  unfold thereB
  simp
  omega

theorem there_ne {xs : List Int} {i : Nat} (h : thereB xs i = true) : nth xs i ≠ -1 := by
  unfold thereB at h
  simpa using h

theorem range_getD {n i : Nat} (h : i < n) : (List.range n).getD i 0 = i := by simp [h]

theorem thru_range {n : Nat} {xs : List Int} {f : Nat → Nat} (h : Thru n (fun i => (List.range n).getD i 0) (fun i => (nth xs ((List.range n).getD i 0)).toNat) f) : Thru n (fun i => i) (fun i => (nth xs i).toNat) f := by
  refine ⟨h.1, fun i hi => ?_⟩
  have := h.2 i hi
  simp only [range_getD hi] at this
  exact this

theorem grows_id (n : Nat) : Grows n (fun i => i) := fun _ _ h _ => h

set_option maxHeartbeats 1000000 in
theorem make_err (w : World) (v : Value) (xs : List Int) (more : Int) (hx : SliceIs w v xs) (he : makeE xs more ≠ 0) :
    Calls Try.prog 8 #[v, .int .i64 more] w fun e w' => e = .returned (.tuple #[.slice none 0 0, errV (makeE xs more)]) ∧ w = w' := by
  have HE : Hid (errV (makeE xs more) = .iface 45 (.int .i64 (makeE xs more : Int))) := errV_pos he
  clear he
  go_enter Try.func8, Try.ntmps8
  go_wp2_with (go_at_call 18; refine (cm_any _ _ _ _ hx).mono ?_; rintro e w' ⟨rfl, rfl⟩; rw [HE.out])
  go_ret2
  exact ⟨by rw [HE.out]; rfl, rfl⟩

set_option maxHeartbeats 2000000 in
theorem make_okq (w : World) (v : Value) (xs : List Int) (more : Int) (hx : SliceIs w v xs) (he : makeE xs more = 0) :
    Calls Try.prog 8 #[v, .int .i64 more] w fun e w' => ∃ v' f q, v' = .slice (some ⟨q, 0, none⟩) (xs.length + more.toNat) (xs.length + more.toNat) ∧ Thru xs.length (fun i => i) (fun i => (nth xs i).toNat) f ∧ e = .returned (.tuple #[v', .nilIface]) ∧
      SliceIs w' v' (fl (xs.length + more.toNat) (fun i => evF f i xs.length)) ∧ Below w.heap.size w w' := by
  obtain ⟨h0, h8, hb, hm0, hm4⟩ := makeE_zero he
  have HE : Hid (errV (makeE xs more) = .nilIface) := by show errV (makeE xs more) = .nilIface; rw [he]; rfl
  have HF : Hid (fst (thereB xs) xs.length xs.length = List.range xs.length) := by
    show fst (thereB xs) xs.length xs.length = List.range xs.length
    rw [fst_all (nth_there hb), Nat.min_self]
  have HS : Hid (SliceIs w v xs) := hx
  have HB : Hid (∀ i, i < xs.length → isByte (nth xs i)) := hb
  obtain ⟨k, rfl⟩ : ∃ k : Nat, more = k := ⟨more.toNat, by omega⟩
  obtain ⟨a, c, hv, _⟩ := id hx
  obtain ⟨n, hn⟩ : ∃ n, n = xs.length := ⟨_, rfl⟩
  have HN : Hid (n = xs.length) := hn
  rw [← hn] at hv h0 h8 HF HB ⊢
  subst hv
  clear he hb hn
  go_enter Try.func8, Try.ntmps8
  go_wp2_with (first | (go_at_call 18; refine (cm_any _ _ _ _ hx).mono ?_; rintro e w' ⟨rfl, rfl⟩; rw [HE.out]) | fail)
  refine (firstThere_any w _ xs n HS.out (by rw [← HN.out]; omega) (by omega)).mono ?_
  rintro e w1 ⟨v1, rfl, hp1, hb1⟩
  rw [← HN.out, HF.out] at hp1
  have HP1 : Hid (PointsIs w1 v1 xs (List.range n)) := hp1
  have HB1 : Hid (Below w.heap.size w w1) := hb1
  clear hp1 hb1
  go_wp2_with fail
  refine (rowThrough_any w1 v1 xs (List.range n) n HP1.out List.length_range h8 (fun i j h1 h2 => by simp only [range_getD (show i < n by omega), range_getD h2]; exact h1) (fun i hi => by rw [range_getD hi]; omega) (fun i hi => by rw [range_getD hi]; exact HB.out i hi)).mono ?_
  rintro e w2 ⟨f, v2, hth, rfl, hs2, hb2⟩
  have HT : Hid (Thru n (fun i => i) (fun i => (nth xs i).toNat) f) := thru_range hth
  have HS2 : Hid (SliceIs w2 v2 (fl n f)) := hs2
  have HB2 : Hid (Below w.heap.size w w2) := Below.next HB1.out hb2
  clear hth hs2 hb2
  go_wp2_with fail
  have e1 : ((n : Int) + (k : Int)) = ((n + k : Nat) : Int) := by omega
  rw [e1]
  refine (shardsOf_any w2 v2 n (n + k) f HT.out.1 (by omega) (by omega) HS2.out).mono ?_
  rintro e w3 ⟨rfl, hr3, hb3, _⟩
  have HS3 : Hid (SliceIs w3 (.slice (some ⟨w2.heap.size, 0, none⟩) (n + k) (n + k)) (fl (n + k) (fun i => evF f i n))) := slice_row hr3 (by unfold maxLen; omega)
  have HB3 : Hid (Below w.heap.size w w3) := Below.next HB2.out hb3
  clear hr3 hb3
  generalize w2.heap.size = q at HS3 ⊢
  have HS4 : Hid (∀ N, N = n + k → SliceIs w3 (.slice (some ⟨q, 0, none⟩) N N) (fl (n + (k : Int).toNat) (fun i => evF f i n))) := by
    intro N hN
    rw [hN, Int.toNat_natCast]
    exact HS3.out
  generalize hnk : n + k = nk
  have HNK : Hid (n + k = nk) := hnk
  clear hnk HS3
  clear h0 h8 hm0 hm4 e1
  go_wp2
  go_ret2
  exact ⟨.slice (some ⟨q, 0, none⟩) nk nk, f, q, by rw [← HNK.out]; rfl, HT.out, rfl, HS4.out nk HNK.out.symm, HB3.out⟩

theorem make_ok (w : World) (v : Value) (xs : List Int) (more : Int) (hx : SliceIs w v xs) (he : makeE xs more = 0) :
    Calls Try.prog 8 #[v, .int .i64 more] w fun e w' => ∃ v' f, Thru xs.length (fun i => i) (fun i => (nth xs i).toNat) f ∧ e = .returned (.tuple #[v', .nilIface]) ∧
      SliceIs w' v' (fl (xs.length + more.toNat) (fun i => evF f i xs.length)) ∧ Below w.heap.size w w' :=
  (make_okq w v xs more hx he).mono fun _ _ ⟨v', f, _, _, h⟩ => ⟨v', f, h⟩

theorem againE_zero {xs : List Int} {data : Int} (h : againE xs data = 0) : xs.length ≤ 12 ∧ 1 ≤ data ∧ data ≤ 8 ∧ (∀ i, i < xs.length → -1 ≤ nth xs i ∧ nth xs i ≤ 255) ∧ data ≤ (xs.length : Int) ∧ (xs.length : Int) ≤ data + 4 := by
  unfold againE at h
  split at h
  · cases h
  · split at h
    · rename_i h1 h2
      rw [Bool.and_eq_true, decide_eq_true_iff] at h2
      split at h
      · cases h
      · rename_i h3
        rw [not_or] at h3
        refine ⟨by omega, h2.1.1, h2.1.2, fun i hi => ?_, by omega, by omega⟩
        exact of_decide_eq_true (List.all_eq_true.1 h2.2 _ (nth_mem hi))
    · cases h

set_option maxHeartbeats 1000000 in
theorem rag_err (w : World) (v : Value) (xs : List Int) (data : Int) (hx : SliceIs w v xs) (he : againE xs data ≠ 0) :
    Calls Try.prog 12 #[v, .int .i64 data] w fun e w' => e = .returned (.tuple #[.slice none 0 0, errV (againE xs data)]) ∧ w = w' := by
  have HE : Hid (errV (againE xs data) = .iface 45 (.int .i64 (againE xs data : Int))) := errV_pos he
  clear he
  go_enter Try.func12, Try.ntmps12
  go_wp2_with (go_at_call 22; refine (ca_any _ _ _ _ hx).mono ?_; rintro e w' ⟨rfl, rfl⟩; rw [HE.out])
  go_ret2
  exact ⟨by rw [HE.out]; rfl, rfl⟩

set_option maxHeartbeats 2000000 in
theorem rag_few (w : World) (v : Value) (xs : List Int) (d : Nat) (hx : SliceIs w v xs) (he : againE xs d = 0) (hf : (fst (thereB xs) d xs.length).length < d) :
    Calls Try.prog 12 #[v, .int .i64 (d : Int)] w fun e w' => e = .returned (.tuple #[.slice none 0 0, .iface 45 (.int .i64 5)]) ∧ Below w.heap.size w w' := by
  obtain ⟨h12, hd1, hd8, _, _, _⟩ := againE_zero he
  have HE : Hid (errV (againE xs d) = .nilIface) := by show errV (againE xs d) = .nilIface; rw [he]; rfl
  have HS : Hid (SliceIs w v xs) := hx
  have HF : Hid ((fst (thereB xs) d xs.length).length < d) := hf
  have hq : d ≤ 8 := by omega
  clear he hf hd1 hd8
  go_enter Try.func12, Try.ntmps12
  go_wp2_with (first | (go_at_call 22; refine (ca_any _ _ _ _ hx).mono ?_; rintro e w' ⟨rfl, rfl⟩; rw [HE.out]) | fail)
  refine (firstThere_any w v xs d HS.out (by omega) (by omega)).mono ?_
  rintro e w1 ⟨v1, rfl, ⟨g, cap, rfl, _, _⟩, hb1⟩
  have HB1 : Hid (Below w.heap.size w w1) := hb1
  have hlt : ((fst (thereB xs) d xs.length).length : Int) < (d : Int) := by have := HF.out; omega
  generalize (fst (thereB xs) d xs.length).length = m at hlt ⊢
  clear hb1
  go_wp2
  go_ret2
  exact ⟨rfl, HB1.out⟩

/-- Every shard that is there is as told. -/
abbrev allTold (xs : List Int) (t : Nat → Nat) : Prop := ∀ i, i < xs.length → thereB xs i = true → nth xs i = (t i : Int)

def toldV (xs : List Int) (t : Nat → Nat) (v : Value) : Value := if allTold xs t then .tuple #[v, .nilIface] else .tuple #[.slice none 0 0, .iface 45 (.int .i64 6)]

set_option maxHeartbeats 4000000 in
set_option maxRecDepth 100000 in
theorem rag_ok (w : World) (v : Value) (xs : List Int) (d : Nat) (hx : SliceIs w v xs) (he : againE xs d = 0) (hf : (fst (thereB xs) d xs.length).length = d) :
    Calls Try.prog 12 #[v, .int .i64 (d : Int)] w fun e w' => ∃ v' f, Thru d (fun i => (fst (thereB xs) d xs.length).getD i 0) (fun i => (nth xs ((fst (thereB xs) d xs.length).getD i 0)).toNat) f ∧
      e = .returned (toldV xs (fun i => evF f i d) v') ∧ SliceIs w' v' (fl xs.length (fun i => evF f i d)) ∧ Below w.heap.size w w' := by
  obtain ⟨h12, hd1, hd8, hsh, hle, _⟩ := againE_zero he
  have HE : Hid (errV (againE xs d) = .nilIface) := by show errV (againE xs d) = .nilIface; rw [he]; rfl
  have HS : Hid (SliceIs w v xs) := hx
  have HG : Hid (Grows d (fun i => (fst (thereB xs) d xs.length).getD i 0)) := by
    have := fst_grows (thereB xs) d xs.length
    rwa [hf] at this
  have HL : Hid ((fst (thereB xs) d xs.length).length = d) := hf
  have HX : Hid (∀ i, i < d → (fst (thereB xs) d xs.length).getD i 0 < 256) := fun i hi => by have := (fst_at (p := thereB xs) (many := d) (k := xs.length) (i := i) (by rw [hf]; exact hi)).1; omega
  have HY : Hid (∀ i, i < d → isByte (nth xs ((fst (thereB xs) d xs.length).getD i 0))) := fun i hi => by
    have h := fst_at (p := thereB xs) (many := d) (k := xs.length) (i := i) (by rw [hf]; exact hi)
    have h1 := hsh _ h.1
    have h2 := there_ne h.2
    exact ⟨by omega, h1.2⟩
  have hq : d ≤ 8 := by omega
  clear he hd1 hd8 hsh hle
  obtain ⟨a, c, b, o, hv, _, ha, hbs, hc⟩ : ∃ a c b o, v = .slice a xs.length c ∧ xs.length ≤ maxLen ∧ (0 < xs.length → a = some ⟨b, o, none⟩) ∧ (0 < xs.length → b < w.heap.size) ∧ ∀ i, i < xs.length → w.cell? ⟨b, o + i, none⟩ = some (.int .i64 (nth xs i)) := by
    obtain ⟨a, c, hv, hl, hx⟩ := hx
    by_cases hne : xs = []
    · exact ⟨a, c, 0, 0, hv, hl, fun h => by rw [hne] at h; simp at h, fun h => by rw [hne] at h; simp at h, fun i hi => by rw [hne] at hi; simp at hi⟩
    · obtain ⟨b, o, h1, h2, h3⟩ := hx hne
      exact ⟨a, c, b, o, hv, hl, fun _ => h1, fun _ => h2, h3⟩
  generalize hl : fst (thereB xs) d xs.length = l at HL HG HX HY hf ⊢
  have HLE : Hid (fst (thereB xs) d xs.length = l) := hl
  clear hl hf
  obtain ⟨n, hn⟩ : ∃ n, n = xs.length := ⟨_, rfl⟩
  have HN : Hid (n = xs.length) := hn
  rw [← hn] at hv h12 ha hbs hc ⊢
  have HC : Hid (∀ i, i < n → w.cell? ⟨b, o + i, none⟩ = some (.int .i64 (nth xs i))) := hc
  have HBS : Hid (0 < n → b < w.heap.size) := hbs
  subst hv
  clear hn hc hbs
  go_enter Try.func12, Try.ntmps12
  go_wp2_with (first | (go_at_call 22; refine (ca_any _ _ _ _ hx).mono ?_; rintro e w' ⟨rfl, rfl⟩; rw [HE.out]) | fail)
  refine (firstThere_any w _ xs d HS.out (by rw [← HN.out]; omega) (by omega)).mono ?_
  rintro e w1 ⟨v1, rfl, hp1, hb1⟩
  rw [HLE.out] at hp1
  have HP1 : Hid (PointsIs w1 v1 xs l) := hp1
  have HB1 : Hid (Below w.heap.size w w1) := hb1
  obtain ⟨g, cap, hv1, _, _⟩ := hp1
  rw [HL.out] at hv1
  subst hv1
  clear hb1
  go_wp2_with fail
  refine (rowThrough_any w1 _ xs l d HP1.out HL.out hq HG.out HX.out HY.out).mono ?_
  rintro e w2 ⟨f, v2, hth, rfl, hs2, hb2⟩
  have HT : Hid (Thru d (fun i => l.getD i 0) (fun i => (nth xs (l.getD i 0)).toNat) f) := hth
  have HS2 : Hid (SliceIs w2 v2 (fl d f)) := hs2
  have HB2 : Hid (Below w.heap.size w w2) := Below.next HB1.out hb2
  clear hth hs2 hb2
  go_wp2_with fail
  refine (shardsOf_any w2 v2 d n f HT.out.1 (by omega) (by omega) HS2.out).mono ?_
  rintro e w3 ⟨rfl, hr3, hb3, _⟩
  have HR3 : Hid (w3.rowIs w2.heap.size 3 n (fun i => .int .i64 (evF f i d : Int))) := hr3
  have HB3 : Hid (Below w.heap.size w w3) := Below.next HB2.out hb3
  clear hr3 hb3
  generalize w2.heap.size = q at HR3 ⊢
  go_wp2
  go_loop [32] (fun i => ∃ k : Nat, k ≤ n ∧ i = .int .i64 k ∧ ∀ j, j < k → thereB xs j = true → nth xs j = (evF f j d : Int)) (fun i => n - (intOf i).toNat)
  case atStart => exact ⟨0, Nat.zero_le _, rfl, fun j hj => absurd hj (Nat.not_lt_zero _)⟩
  case round =>
    obtain ⟨k, hk, rfl, hall⟩ := hrel
    have HA : Hid (∀ j, j < k → thereB xs j = true → nth xs j = (evF f j d : Int)) := hall
    clear hall
    by_cases hlt : k < n
    · have haa := ha (by omega)
      subst haa
      clear ha
      have h1 : w3.cell? ⟨b, o + k, none⟩ = some (.int .i64 (nth xs k)) := by rw [HB3.out.cell (p := ⟨b, o + k, none⟩) (HBS.out (by omega))]; exact HC.out k hlt
      have h2 : w3.cell? ⟨q, k, none⟩ = some (.int .i64 (evF f k d : Int)) := HR3.out.cell hlt
      by_cases ht : nth xs k = -1
      · have HK : Hid (thereB xs k = false) := by show thereB xs k = false; unfold thereB; simp [ht]
        rw [ht] at h1
        clear ht
        go_wp2
        refine ⟨⟨k + 1, by omega, rfl, fun j hj hth => ?_⟩, ?_⟩
        · by_cases e : j = k
          · subst e; rw [HK.out] at hth; cases hth
          · exact HA.out j (by omega) hth
        · simp only [intOf]; omega
      · by_cases hs : nth xs k = (evF f k d : Int)
        · have HK : Hid (nth xs k = (evF f k d : Int)) := hs
          rw [hs] at h1 ht
          clear hs
          go_wp2
          refine ⟨⟨k + 1, by omega, rfl, fun j hj hth => ?_⟩, ?_⟩
          · by_cases e : j = k
            · subst e; exact HK.out
            · exact HA.out j (by omega) hth
          · simp only [intOf]; omega
        · have HV : Hid (∀ u, toldV xs (fun i => evF f i d) u = .tuple #[.slice none 0 0, .iface 45 (.int .i64 6)]) := by
            intro u
            unfold toldV
            rw [if_neg]
            intro h
            exact hs (h k (by rw [← HN.out]; exact hlt) (by unfold thereB; simp [ht]))
          have hb1 : (nth xs k != -1) = true := by simpa using ht
          have hb2 : (nth xs k != (evF f k d : Int)) = true := by simpa using hs
          clear ht hs
          go_wp2
          go_ret2
          exact ⟨.slice (some ⟨q, 0, none⟩) n n, f, HT.out, by rw [HV.out]; rfl, slice_row HR3.out (by unfold maxLen; omega), HB3.out⟩
    · have hkn : k = n := by omega
      subst hkn
      have HV : Hid (∀ u, toldV xs (fun i => evF f i d) u = .tuple #[u, .nilIface]) := by
        intro u
        unfold toldV
        rw [if_pos]
        intro i hi
        exact HA.out i (by rw [HN.out]; exact hi)
      go_wp2
      go_ret2
      exact ⟨.slice (some ⟨q, 0, none⟩) k k, f, HT.out, by rw [HV.out]; rfl, slice_row HR3.out (by unfold maxLen; omega), HB3.out⟩

end Go.Proofs.Ytebjefgdjfjndaa
