/- This text proves what reed.Again answers where some shards of a row of factors are lost, or one of them is another one; the conditions: the slice lies there and holds such shards. -/
import Derived.Test.YtebjefgdjfjndaaDoorRe7
namespace Go.Proofs.YtebjefgdjfjndaaDoor
open Go.RowKit Go.Deep

/-- Shards of which so many are lost. -/
def LostIs (f : Nat → Nat) (n N many : Nat) (ls : List Int) : Prop := ls.length = N ∧ (∀ i, i < N → nth ls i = -1 ∨ nth ls i = (evF f i n : Int)) ∧ cnt1 (thereB ls) N + many = N

theorem cnt1_congr {p q : Nat → Bool} : ∀ {m : Nat}, (∀ i, i < m → p i = q i) → cnt1 p m = cnt1 q m
  | 0, _ => rfl
  | m + 1, h => by rw [cnt1, cnt1, cnt1_congr (fun i hi => h i (by omega)), h m (by omega)]

theorem cnt1_less {p q : Nat → Bool} {x : Nat} (hp : p x = true) (hq : q x = false) (h : ∀ i, i ≠ x → p i = q i) : ∀ {m : Nat}, x < m → cnt1 q m + 1 = cnt1 p m
  | 0, hx => by omega
  | m + 1, hx => by
    rw [cnt1, cnt1]
    by_cases e : x = m
    · subst e
      rw [hp, hq, cnt1_congr (p := p) (q := q) (fun i hi => h i (by omega))]; simp
    · have ih := cnt1_less hp hq h (m := m) (by omega)
      rw [h m (fun e' => e e'.symm)]
      omega

theorem lost_none {f : Nat → Nat} {n N : Nat} : LostIs f n N 0 (fl N (fun i => evF f i n)) := by
  refine ⟨fl_len _ _, fun i hi => .inr (fl_nth hi), ?_⟩
  rw [cnt1_all fun i hi => ?_, Nat.add_zero]
  unfold thereB
  rw [fl_nth hi]
  simp

theorem lost_set {f : Nat → Nat} {n N many x : Nat} {ls : List Int} (h : LostIs f n N many ls) (hx : x < N) (ht : nth ls x ≠ -1) : LostIs f n N (many + 1) (ls.set x (-1)) := by
  have hl : x < ls.length := by rw [h.1]; exact hx
  refine ⟨by rw [List.length_set]; exact h.1, fun i hi => ?_, ?_⟩
  · rw [nth_set hl]
    by_cases e : i = x
    · exact .inl (if_pos e)
    · rw [if_neg e]; exact h.2.1 i hi
  · have := cnt1_less (p := thereB ls) (q := thereB (ls.set x (-1))) (x := x) (by unfold thereB; simp [ht]) (by unfold thereB; rw [nth_set hl]; simp) (fun i e => by unfold thereB; rw [nth_set hl, if_neg e]) hx
    have := h.2.2
    omega

theorem lost_againE {f : Nat → Nat} {n N many : Nat} {ls : List Int} (h : LostIs f n N many ls) (hf : BytesF f) (h1 : 1 ≤ n) (h8 : n ≤ 8) (hN : n ≤ N) (hN4 : N ≤ n + 4) : againE ls n = 0 := by
  unfold againE
  have hall : ls.all shardB = true := by
    rw [List.all_eq_true]
    intro x hx
    obtain ⟨i, hi, rfl⟩ := List.getElem_of_mem hx
    rw [← nth_lt hi]
    have hb : evF f i n < 256 := evF_byte hf (by rw [h.1] at hi; omega) n
    rcases h.2.1 i (by rw [← h.1]; exact hi) with e | e
    · rw [e]; decide
    · rw [e]; exact decide_eq_true (by omega)
  rw [if_neg (by rw [h.1]; omega), hall, decide_eq_true (by omega), h.1]
  rw [Bool.and_self, if_pos rfl, if_neg (by omega)]

theorem lost_fst {f : Nat → Nat} {n N many : Nat} {ls : List Int} (h : LostIs f n N many ls) (hm : many + n ≤ N) : (fst (thereB ls) n ls.length).length = n := by
  rw [fst_len, h.1]
  have := h.2.2
  omega

/-- Any so many shards as have data make all again. -/
theorem again_lost (w : World) (v : Value) (f : Nat → Nat) (n N many : Nat) (ls : List Int) (hx : SliceIs w v ls) (h : LostIs f n N many ls) (hf : BytesF f) (h1 : 1 ≤ n) (h8 : n ≤ 8) (hm : many + n ≤ N) (hN4 : N ≤ n + 4) :
    Calls Tryd.prog 10 #[v, .int .i64 (n : Int)] w fun e w' => ∃ v', e = .returned (.tuple #[v', .nilIface]) ∧ SliceIs w' v' (fl N (fun i => evF f i n)) ∧ Below w.heap.size w w' := by
  have hl := lost_fst h hm
  refine (rag_ok w v ls n hx (lost_againE h hf h1 h8 (by omega) hN4) hl).mono ?_
  rintro e w' ⟨v', g, hg, rfl, hs, hb⟩
  have hG := fst_grows (thereB ls) n ls.length
  rw [hl] at hG
  have hat : ∀ i, i < n → (fst (thereB ls) n ls.length).getD i 0 < N ∧ thereB ls ((fst (thereB ls) n ls.length).getD i 0) = true := fun i hi => by
    have := fst_at (p := thereB ls) (many := n) (k := ls.length) (i := i) (by rw [hl]; exact hi)
    rw [h.1] at this
    rwa [h.1]
  have hthru : Thru n (fun i => (fst (thereB ls) n ls.length).getD i 0) (fun i => (nth ls ((fst (thereB ls) n ls.length).getD i 0)).toNat) f := by
    refine ⟨hf, fun i hi => ?_⟩
    have h2 := hat i hi
    show evF f ((fst (thereB ls) n ls.length).getD i 0) n = (nth ls ((fst (thereB ls) n ls.length).getD i 0)).toNat
    rcases h.2.1 _ h2.1 with e | e
    · exact absurd e (there_ne h2.2)
    · rw [e, Int.toNat_natCast]
  have hsame := hg.same hG (fun i hi => by have := (hat i hi).1; omega) hthru
  have htold : allTold ls (fun i => evF g i n) := by
    intro i hi ht
    rcases h.2.1 i (by rw [← h.1]; exact hi) with e | e
    · exact absurd e (there_ne ht)
    · rw [e]; show (evF f i n : Int) = (evF g i n : Int); rw [hsame i]
  refine ⟨v', by unfold toldV; rw [if_pos htold], ?_, hb⟩
  rw [h.1, fl_congr (g := fun i => evF f i n) fun i _ => hsame i] at hs
  exact hs

/-- The places but one. -/
def skip1 (k i : Nat) : Nat := if i < k then i else i + 1

theorem skip1_grows (n k : Nat) : Grows n (skip1 k) := by
  intro i j h _
  unfold skip1
  split <;> split <;> omega

/-- One shard that is another one is seen. -/
theorem again_wrong (w : World) (v : Value) (f : Nat → Nat) (n N k : Nat) (is : Int) (ls : List Int) (hx : SliceIs w v ls) (hls : ls = (fl N (fun i => evF f i n)).set k is) (hf : BytesF f) (h1 : 1 ≤ n) (h8 : n ≤ 8) (hm : n < N) (hN4 : N ≤ n + 4)
    (hk : k < N) (hb : isByte is) (hne : is ≠ (evF f k n : Int)) :
    Calls Tryd.prog 10 #[v, .int .i64 (n : Int)] w fun e w' => e = .returned (.tuple #[.slice none 0 0, .iface 44 (.int .i64 6)]) ∧ Below w.heap.size w w' := by
  have hlen : ls.length = N := by rw [hls, List.length_set, fl_len]
  have hnth : ∀ i, i < N → nth ls i = if i = k then is else (evF f i n : Int) := fun i hi => by
    rw [hls, nth_set (by rw [fl_len]; exact hk)]
    by_cases e : i = k
    · rw [if_pos e, if_pos e]
    · rw [if_neg e, if_neg e, fl_nth hi]
  have hbyte : ∀ i, i < N → isByte (nth ls i) := fun i hi => by
    rw [hnth i hi]
    split
    · exact hb
    · exact isByte_of_nat (evF_byte hf (by omega) n)
  have hthere : ∀ i, i < ls.length → thereB ls i = true := fun i hi => by
    have := (hbyte i (by rw [← hlen]; exact hi)).1
    unfold thereB; simp; omega
  have hfst : fst (thereB ls) n ls.length = List.range n := by rw [fst_all hthere, hlen, show min n N = n by omega]
  have he : againE ls n = 0 := by
    unfold againE
    have hall : ls.all shardB = true := by
      rw [List.all_eq_true]
      intro x hx
      obtain ⟨i, hi, rfl⟩ := List.getElem_of_mem hx
      rw [← nth_lt hi]
      have := hbyte i (by rw [← hlen]; exact hi)
      exact decide_eq_true (by have h1 := this.1; have h2 := this.2; omega)
    rw [if_neg (by rw [hlen]; omega), hall, decide_eq_true (by omega), hlen, Bool.and_self, if_pos rfl, if_neg (by omega)]
  refine (rag_ok w v ls n hx he (by rw [hfst, List.length_range])).mono ?_
  rintro e w' ⟨v', g, hg, rfl, _, hbel⟩
  rw [hfst] at hg
  have hg' := thru_range hg
  refine ⟨?_, hbel⟩
  unfold toldV
  rw [if_neg]
  intro htold
  have hgv : ∀ i, i < N → (evF g i n : Int) = nth ls i := fun i hi => (htold i (by rw [hlen]; exact hi) (hthere i (by rw [hlen]; exact hi))).symm
  -- the two rows agree at n places beside k
  have hsame : ∀ x, evF g x n = evF f x n := by
    have ht : ∀ h : Nat → Nat, BytesF h → (∀ i, i < N → i ≠ k → evF h i n = evF f i n) → Thru n (skip1 k) (fun i => evF f (skip1 k i) n) h := fun h hh hv =>
      ⟨hh, fun i hi => hv _ (by unfold skip1; split <;> omega) (by unfold skip1; split <;> omega)⟩
    exact fun x => (ht g hg'.1 fun i hi e => by have := hgv i hi; rw [hnth i hi, if_neg e] at this; omega).same (skip1_grows n k) (fun i hi => by unfold skip1; split <;> omega) (ht f hf fun _ _ _ => rfl) x
  have := hgv k hk
  rw [hnth k hk, if_pos rfl, hsame k] at this
  exact hne this.symm

end Go.Proofs.YtebjefgdjfjndaaDoor
