/- This text proves what Crash and Home of package wal tell, and what the disk is behind them; nothing is turned but the disk's blocks and its log's; the condition is that the disk lies there. -/
import Derived.Test.YtejganpamidkmaaDoorZ8
namespace Go.Proofs.YtejganpamidkmaaDoor
open Go.RowKit Go.Deep Go.Maps

theorem own_front {w : World} {base N K c : Nat} {a : Option Addr} {L : List Rc} (h : w.ownsRow base 57 4 (.slice a N c) N (rcc L)) (hK : K ≤ N) : w.ownsRow base 57 4 (.slice a K c) (L.take K).length (rcc (L.take K)) := by
  have hl : L.length = N := by have := h.1; rw [rcc_len] at this; omega
  have e : (L.take K).length = K := by rw [List.length_take]; omega
  refine ⟨by rw [rcc_len], ?_⟩
  rw [e]
  rcases h.2 with ⟨h0, h1⟩ | ⟨g, cap, cur, h1, h2, h3, h4, h5, h6, h7⟩
  · cases h0
    obtain rfl : K = 0 := by omega
    exact .inl ⟨rfl, rfl⟩
  · cases h1
    refine .inr ⟨g, c, cur, rfl, h2, h3, by omega, h5, h6, ?_⟩
    rw [← rcc_take L K (by omega), ← h7, List.take_take, Nat.min_eq_left (by omega)]

theorem crash_mem {w w1 w2 : World} {base g : Nat} {v v2 : Value} {d : Dk} {M : List Rc} (h : DiskM w base g v d) (hb : Below w.heap.size w w1) (hs : Stay (fun x => v.ownBlock = some x) w1 w2)
    (ho : w2.ownsRow base 57 4 v2 M.length (rcc M)) (hv : v2.ownBlock = v.ownBlock) (hf : Fine ⟨d.H, M, d.s⟩) :
    (w2.cell? ⟨g, 8, none⟩ = some v ∧ w2.frozen? ⟨g, 8, none⟩ = false) ∧ DiskM (w2.setCell ⟨g, 8, none⟩ v2) base g v2 ⟨d.H, M, d.s⟩ ∧ Stay (Fp g v) w (w2.setCell ⟨g, 8, none⟩ v2) := by
  have hW := h.later hb
  have hc : w2.heap[g]? = some (.cells (dkC d v) 52 (0, 0)) := (hs.block g hW.lt h.ap).trans hW.cells
  refine ⟨⟨(cell_in hc 8).1.trans (dkC_log d v), (cell_in hc 8).2⟩, ⟨by rw [heap_set hc, dkC_setLog d v _ M], ?_, by rw [hv]; exact h.ap, hf, h.low⟩, ?_⟩
  · exact own_block ho fun b e => Below.heap_setCell w2 ⟨g, 8, none⟩ _ b fun k => h.ap (by rw [← hv, e]; exact congrArg some k)
  · exact ((Stay.of hb).trans (hs.sub fun x e => .inr e)).trans (Stay.set (S := Fp g v) w2 (a := ⟨g, 8, none⟩) v2 (.inl rfl))

set_option maxHeartbeats 4000000 in
set_option maxRecDepth 100000 in
theorem crash_any (w : World) (base g : Nat) (v : Value) (d : Dk) (h : DiskM w base g v d) (n : Int) :
    Calls Tryd.prog 9 #[ptrD g, .int .i64 n] w fun e w' => e = .returned (errV (crE d n)) ∧ ∃ v', Step w w' base g v v' (crD d n) := by
  obtain ⟨c8, c9, f8, f9⟩ := h.facts
  have HM : Hid (DiskM w base g v d) := h
  obtain ⟨N, hN⟩ : ∃ N, d.L.length = N := ⟨_, rfl⟩
  obtain ⟨S, hS⟩ : ∃ S, d.s = S := ⟨_, rfl⟩
  have h60 := h.fine.len
  rw [hN] at h60
  rw [hS] at c9
  by_cases h1 : n < (S : Int)
  · have he : crE d n = 1 := if_neg (by omega)
    have hd : crD d n = d := if_neg (by rw [he]; decide)
    rw [hd, he]
    clear h hN hS he hd
    unfold ptrD
    go_enter Tryd.func9, Tryd.ntmps9
    go_wp2
    go_ret
    exact ⟨rfl, v, Step.none' HM.out (Below.refl _ _)⟩
  · by_cases h2 : (N : Int) < n
    · have he : crE d n = 1 := if_neg (by omega)
      have hd : crD d n = d := if_neg (by rw [he]; decide)
      rw [hd, he]
      obtain ⟨a, c, rfl⟩ := rown_form h.log
      rw [hN] at c8 HM ⊢
      clear h hN hS he hd
      unfold ptrD
      go_enter Tryd.func9, Tryd.ntmps9
      go_wp2
      go_ret
      exact ⟨rfl, _, Step.none' HM.out (Below.refl _ _)⟩
    · obtain ⟨K, rfl⟩ : ∃ K : Nat, n = (K : Int) := ⟨n.toNat, by omega⟩
      have hKN : K ≤ N := by omega
      have hSK : S ≤ K := by omega
      have he : crE d (K : Int) = 0 := if_pos (by omega)
      have hd : crD d (K : Int) = ⟨d.H, lft (d.L.take K), (lft (d.L.take K)).length⟩ := if_pos he
      rw [hd, he]
      have hsub : (d.L.take K).Sublist d.L := List.take_sublist _ _
      have h20 : ∀ r ∈ d.L.take K, r.t < 20 := fun r hr => (h.fine.one r (hsub.subset hr)).1
      have hl60 : (d.L.take K).length ≤ 60 := by rw [List.length_take]; omega
      have hfi : Fine ⟨d.H, lft (d.L.take K), d.s⟩ := by
        have hs : (lft (d.L.take K)).Sublist d.L := List.filter_sublist.trans hsub
        exact ⟨fun r hr => h.fine.one r (hs.subset hr), h.fine.two.sublist hs, Nat.le_trans hs.length_le h.fine.len⟩
      have ho := h.log
      have hfp := fun x hx => h.log.lt x hx
      have hbs : base ≤ w.heap.size := by have := h.low; have := h.lt; omega
      rw [hN] at ho
      rcases ho.2 with ⟨rfl, rfl⟩ | ⟨b, c, cur, rfl, hb1, hb2, hb3, hb4, _⟩
      · obtain rfl : K = 0 := by omega
        have hof : w.ownsRow base 57 4 (Value.slice none 0 0) (d.L.take 0).length (rcc (d.L.take 0)) := own_front ho hKN
        have HO1 : Hid _ := fun (w2 : World) (hb : Below w.heap.size w w2) => isOpen_any w2 (Value.slice none 0 0) (d.L.take 0) (rcs_own (xown_later hof hb) (by unfold maxLen; omega)) h20 hl60
        have HD1 : Hid (∀ w2 B, Below w.heap.size w w2 → w.heap.size < B → Asks w2 B w.heap.size (d.L.take 0) → Calls Tryd.prog 23 #[(Value.slice none 0 0), .func (.func 32) #[] #[.pointer (some ⟨B, 0, none⟩)]] w2 fun e w' => ∃ v', e = .returned v' ∧ w'.ownsRow base 57 4 v' (lft (d.L.take 0)).length (rcc (lft (d.L.take 0))) ∧ v'.ownBlock = (Value.slice none 0 0).ownBlock ∧ Stay (fun x => (Value.slice none 0 0).ownBlock = some x) w2 w') := fun w2 B hb hB hA => del_any w2 base _ _ (xown_later hof hb) h20 hl60 B w.heap.size _ hA (fun e => by have := (hfp B e).2; omega) (fun e => by have := (hfp _ e).2; omega)
        have HSy : Hid _ := fun (w2 : World) (v2 : Value) (hm : DiskM w2 base g v2 ⟨d.H, lft (d.L.take 0), d.s⟩) => sync_any w2 base g v2 _ hm
        have HFi : Hid (Fine ⟨d.H, lft (d.L.take 0), d.s⟩) := hfi
        have hgl := h.lt
        clear h hN hS he hd hof hfi ho h20 hl60 hsub hfp
        unfold ptrD at HSy ⊢
        go_enter Tryd.func9, Tryd.ntmps9
        go_wp2_with (first
          | (go_at_call 24; refine (HO1.out _ (Below.refl _ _)).mono ?_; rintro e w2 ⟨B, rfl, hB, hcB, hsB, hb2⟩; have HB2 : Hid (Below w.heap.size w w2) := hb2; have HA2 : Hid (Asks w2 B w.heap.size (d.L.take 0)) := ⟨hcB, hsB⟩; clear hb2 hcB hsB)
          | (go_at_call 23; refine (HD1.out w2 B HB2.out hB HA2.out).mono ?_; rintro e w3 ⟨v3, rfl, ho3, hv3, hs3⟩; obtain ⟨a3, c3, hv3f⟩ := rown_form ho3; obtain ⟨n3, hn3⟩ : ∃ n3, (lft (d.L.take 0)).length = n3 := ⟨_, rfl⟩; rw [hn3] at hv3f; clear hn3; subst hv3f; obtain ⟨⟨k8, kf⟩, hm3, hst3⟩ := crash_mem HM.out HB2.out hs3 ho3 hv3 HFi.out; have HM3 : Hid (DiskM (w3.setCell ⟨g, 8, none⟩ (.slice a3 n3 c3)) base g (.slice a3 n3 c3) ⟨d.H, lft (d.L.take 0), d.s⟩) := hm3; have HS3 : Hid (Stay (Fp g (Value.slice none 0 0)) w (w3.setCell ⟨g, 8, none⟩ (.slice a3 n3 c3))) := hst3; have HV3 : Hid ((Value.slice a3 n3 c3).ownBlock = (Value.slice none 0 0).ownBlock) := hv3; clear hm3 hst3 ho3 hs3 hv3)
          | (go_at_call 11; refine (HSy.out _ (.slice a3 n3 c3) HM3.out).mono ?_; rintro e w4 ⟨rfl, hm4, hs4⟩; have HM4 : Hid (DiskM w4 base g (.slice a3 n3 c3) (syD ⟨d.H, lft (d.L.take 0), d.s⟩)) := hm4; have HS4 : Hid (Stay (fun x => x = g) (w3.setCell ⟨g, 8, none⟩ (.slice a3 n3 c3)) w4) := hs4; clear hm4 hs4))
        go_ret
        exact ⟨rfl, _, HM4.out, HS3.out.trans (HS4.out.sub fun x e => .inl e), fun x e => .inl (by rw [← HV3.out]; exact e)⟩
      · have hof : w.ownsRow base 57 4 (Value.slice (some ⟨b, 0, none⟩) K c) (d.L.take K).length (rcc (d.L.take K)) := own_front ho hKN
        have HO1 : Hid _ := fun (w2 : World) (hb : Below w.heap.size w w2) => isOpen_any w2 (Value.slice (some ⟨b, 0, none⟩) K c) (d.L.take K) (rcs_own (xown_later hof hb) (by unfold maxLen; omega)) h20 hl60
        have HD1 : Hid (∀ w2 B, Below w.heap.size w w2 → w.heap.size < B → Asks w2 B w.heap.size (d.L.take K) → Calls Tryd.prog 23 #[(Value.slice (some ⟨b, 0, none⟩) K c), .func (.func 32) #[] #[.pointer (some ⟨B, 0, none⟩)]] w2 fun e w' => ∃ v', e = .returned v' ∧ w'.ownsRow base 57 4 v' (lft (d.L.take K)).length (rcc (lft (d.L.take K))) ∧ v'.ownBlock = (Value.slice (some ⟨b, 0, none⟩) N c).ownBlock ∧ Stay (fun x => (Value.slice (some ⟨b, 0, none⟩) N c).ownBlock = some x) w2 w') := fun w2 B hb hB hA => del_any w2 base _ _ (xown_later hof hb) h20 hl60 B w.heap.size _ hA (fun e => by have := (hfp B e).2; omega) (fun e => by have := (hfp _ e).2; omega)
        have HSy : Hid _ := fun (w2 : World) (v2 : Value) (hm : DiskM w2 base g v2 ⟨d.H, lft (d.L.take K), d.s⟩) => sync_any w2 base g v2 _ hm
        have HFi : Hid (Fine ⟨d.H, lft (d.L.take K), d.s⟩) := hfi
        have hgl := h.lt
        have hKc : K ≤ c := by omega
        clear h hN hS he hd hof hfi ho h20 hl60 hsub hfp
        unfold ptrD at HSy ⊢
        go_enter Tryd.func9, Tryd.ntmps9
        go_wp2_with (first
          | (go_at_call 24; refine (HO1.out _ (Below.refl _ _)).mono ?_; rintro e w2 ⟨B, rfl, hB, hcB, hsB, hb2⟩; have HB2 : Hid (Below w.heap.size w w2) := hb2; have HA2 : Hid (Asks w2 B w.heap.size (d.L.take K)) := ⟨hcB, hsB⟩; clear hb2 hcB hsB)
          | (go_at_call 23; refine (HD1.out w2 B HB2.out hB HA2.out).mono ?_; rintro e w3 ⟨v3, rfl, ho3, hv3, hs3⟩; obtain ⟨a3, c3, hv3f⟩ := rown_form ho3; obtain ⟨n3, hn3⟩ : ∃ n3, (lft (d.L.take K)).length = n3 := ⟨_, rfl⟩; rw [hn3] at hv3f; clear hn3; subst hv3f; obtain ⟨⟨k8, kf⟩, hm3, hst3⟩ := crash_mem HM.out HB2.out hs3 ho3 hv3 HFi.out; have HM3 : Hid (DiskM (w3.setCell ⟨g, 8, none⟩ (.slice a3 n3 c3)) base g (.slice a3 n3 c3) ⟨d.H, lft (d.L.take K), d.s⟩) := hm3; have HS3 : Hid (Stay (Fp g (Value.slice (some ⟨b, 0, none⟩) N c)) w (w3.setCell ⟨g, 8, none⟩ (.slice a3 n3 c3))) := hst3; have HV3 : Hid ((Value.slice a3 n3 c3).ownBlock = (Value.slice (some ⟨b, 0, none⟩) N c).ownBlock) := hv3; clear hm3 hst3 ho3 hs3 hv3)
          | (go_at_call 11; refine (HSy.out _ (.slice a3 n3 c3) HM3.out).mono ?_; rintro e w4 ⟨rfl, hm4, hs4⟩; have HM4 : Hid (DiskM w4 base g (.slice a3 n3 c3) (syD ⟨d.H, lft (d.L.take K), d.s⟩)) := hm4; have HS4 : Hid (Stay (fun x => x = g) (w3.setCell ⟨g, 8, none⟩ (.slice a3 n3 c3)) w4) := hs4; clear hm4 hs4))
        go_ret
        exact ⟨rfl, _, HM4.out, HS3.out.trans (HS4.out.sub fun x e => .inl e), fun x e => .inl (by rw [← HV3.out]; exact e)⟩

end Go.Proofs.YtejganpamidkmaaDoor
