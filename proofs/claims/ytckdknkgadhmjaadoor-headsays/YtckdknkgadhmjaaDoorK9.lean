/- This text proves what the document's own Sweep (package platterholdref1) answers: one way, then the other; the new list lies in memory of the call's own and all old memory is as it was; the conditions: the slice lies there and holds at most 20 numbers. -/
import Derived.Test.YtckdknkgadhmjaaDoorK7
import Derived.Test.YtckdknkgadhmjaaDoorAp
namespace Go.Proofs.YtckdknkgadhmjaaDoor
open Go.RowKit Go.Deep

/-- Two parts of a list are all of it. -/
theorem parts_perm (p q : Int → Bool) (hq : ∀ x, q x = !p x) : ∀ l : List Int, (l.filter p ++ (l.filter q).reverse).Perm l := by
  intro l
  refine (List.Perm.append_left _ (List.reverse_perm _)).trans ?_
  induction l with
  | nil => exact List.Perm.refl _
  | cons x l ih =>
    cases h : p x with
    | true => rw [List.filter_cons_of_pos h, List.filter_cons_of_neg (by rw [hq, h]; simp)]; exact ih.cons x
    | false => rw [List.filter_cons_of_neg (by rw [h]; simp), List.filter_cons_of_pos (by rw [hq, h]; rfl)]; exact List.perm_middle.trans (ih.cons x)

theorem parts_perm' (p q : Int → Bool) (hq : ∀ x, q x = !p x) (l : List Int) : ((l.filter q).reverse ++ l.filter p).Perm l := List.perm_append_comm.trans (parts_perm p q hq l)

theorem le_of_not {a b : Int} (h : ltI b a = false) : a ≤ b := by simp [ltI] at h; exact h

theorem pw_more {R S : Int → Int → Prop} : ∀ {l : List Int}, (∀ a, a ∈ l → ∀ b, b ∈ l → R a b → S a b) → l.Pairwise R → l.Pairwise S
  | [], _, _ => List.Pairwise.nil
  | a :: l, h, hp => by
    have h1 := List.pairwise_cons.1 hp
    exact List.pairwise_cons.2 ⟨fun b hb => h a (List.mem_cons_self ..) b (List.mem_cons_of_mem _ hb) (h1.1 b hb), pw_more (fun x hx y hy => h x (List.mem_cons_of_mem _ hx) y (List.mem_cons_of_mem _ hy)) h1.2⟩

def upL (s : Int) (r : List Int) : List Int := r.filter (fun x => decide (s ≤ x)) ++ (r.filter fun x => decide (x < s)).reverse
def downL (s : Int) (r : List Int) : List Int := (r.filter fun x => decide (x ≤ s)).reverse ++ r.filter (fun x => decide (s < x))

theorem upL_ord (s : Int) (xs : List Int) : upL s (rise xs) = ord (fun _ => ltS s true) xs.length s xs := by
  have hr := rise_sorted xs
  refine sorted_one (ltS_total s true) ?_ (ord_sorted (ltS_total s true) _ _ _ rfl) (((parts_perm _ _ (fun x => by simp [← decide_not]) _).trans (rise_perm xs)).trans (ord_perm _ _ _ _ rfl).symm)
  refine List.pairwise_append.2 ⟨?_, ?_, fun a ha b hb => ?_⟩
  · refine pw_more (fun a ha b hb h => ?_) (hr.filter _)
    have h1 := (List.mem_filter.1 ha).2
    have h2 := (List.mem_filter.1 hb).2
    have h3 := le_of_not h
    simp at h1 h2
    rw [← Bool.not_eq_true, ltS_up]; omega
  · refine List.pairwise_reverse.2 (pw_more (fun a ha b hb h => ?_) (hr.filter _))
    have h1 := (List.mem_filter.1 ha).2
    have h2 := (List.mem_filter.1 hb).2
    have h3 := le_of_not h
    simp at h1 h2
    rw [← Bool.not_eq_true, ltS_up]; omega
  · have h1 := (List.mem_filter.1 ha).2
    have h2 := (List.mem_filter.1 (List.mem_reverse.1 hb)).2
    simp at h1 h2
    rw [← Bool.not_eq_true, ltS_up]; omega

theorem downL_ord (s : Int) (xs : List Int) : downL s (rise xs) = ord (fun _ => ltS s false) xs.length s xs := by
  have hr := rise_sorted xs
  refine sorted_one (ltS_total s false) ?_ (ord_sorted (ltS_total s false) _ _ _ rfl) (((parts_perm' _ _ (fun x => by simp [← decide_not]) _).trans (rise_perm xs)).trans (ord_perm _ _ _ _ rfl).symm)
  refine List.pairwise_append.2 ⟨?_, ?_, fun a ha b hb => ?_⟩
  · refine List.pairwise_reverse.2 (pw_more (fun a ha b hb h => ?_) (hr.filter _))
    have h1 := (List.mem_filter.1 ha).2
    have h2 := (List.mem_filter.1 hb).2
    have h3 := le_of_not h
    simp at h1 h2
    rw [← Bool.not_eq_true, ltS_down]; omega
  · refine pw_more (fun a ha b hb h => ?_) (hr.filter _)
    have h1 := (List.mem_filter.1 ha).2
    have h2 := (List.mem_filter.1 hb).2
    have h3 := le_of_not h
    simp at h1 h2
    rw [← Bool.not_eq_true, ltS_down]; omega
  · have h1 := (List.mem_filter.1 (List.mem_reverse.1 ha)).2
    have h2 := (List.mem_filter.1 hb).2
    simp at h1 h2
    rw [← Bool.not_eq_true, ltS_down]; omega

/-- What has been gathered on the way up, and on the way down. -/
def gA (p : Int → Bool) (r : List Int) (i : Nat) : List Int := (r.take i).filter p
def gB (q : Int → Bool) (r : List Int) (i : Nat) : List Int := ((r.drop i).filter q).reverse

theorem gA_all (p : Int → Bool) (r : List Int) : gA p r r.length = r.filter p := by unfold gA; rw [List.take_length]
theorem gA_yes {p : Int → Bool} {r : List Int} {i : Nat} (hi : i < r.length) (h : p (nth r i) = true) : gA p r (i + 1) = gA p r i ++ [nth r i] := by
  unfold gA; rw [List.take_succ_eq_append_getElem hi, List.filter_append, ← nth_lt hi, List.filter_cons_of_pos h]; rfl
theorem gA_no {p : Int → Bool} {r : List Int} {i : Nat} (hi : i < r.length) (h : p (nth r i) = false) : gA p r (i + 1) = gA p r i := by
  unfold gA; rw [List.take_succ_eq_append_getElem hi, List.filter_append, ← nth_lt hi, List.filter_cons_of_neg (by rw [h]; simp)]; simp
theorem gA_len (p : Int → Bool) (r : List Int) (i : Nat) : (gA p r i).length ≤ r.length := Nat.le_trans (List.length_filter_le _ _) (by rw [List.length_take]; omega)
theorem gB_all (q : Int → Bool) (r : List Int) : gB q r 0 = (r.filter q).reverse := rfl
theorem gB_none (q : Int → Bool) (r : List Int) : gB q r r.length = [] := by unfold gB; rw [List.drop_length]; rfl
theorem gB_yes {q : Int → Bool} {r : List Int} {i : Nat} (hi : i < r.length) (h : q (nth r i) = true) : gB q r i = gB q r (i + 1) ++ [nth r i] := by
  unfold gB; rw [List.drop_eq_getElem_cons hi, ← nth_lt hi, List.filter_cons_of_pos h, List.reverse_cons]
theorem gB_no {q : Int → Bool} {r : List Int} {i : Nat} (hi : i < r.length) (h : q (nth r i) = false) : gB q r i = gB q r (i + 1) := by
  unfold gB; rw [List.drop_eq_getElem_cons hi, ← nth_lt hi, List.filter_cons_of_neg (by rw [h]; simp)]
theorem gB_len (q : Int → Bool) (r : List Int) (i : Nat) : (gB q r i).length ≤ r.length := by
  unfold gB; rw [List.length_reverse]; exact Nat.le_trans (List.length_filter_le _ _) (by rw [List.length_drop]; omega)

theorem own_lower {w : World} {B B' e n : Nat} {v : Value} {vs : List Value} (h : w.ownsRow B e 1 v n vs) (hB : B' ≤ B) : w.ownsRow B' e 1 v n vs := by
  refine ⟨h.1, ?_⟩
  rcases h.2 with h0 | ⟨g, cap, cur, h1, h2, h3⟩
  · exact .inl h0
  · exact .inr ⟨g, cap, cur, h1, Nat.le_trans hB h2, h3⟩

/-- One more at the end of a list of the call's own. -/
theorem more_own {w0 wr W1 : World} {B g2 c2 : Nat} {v : Value} {ys : List Int} {t : Int} {o : Obj} (hB : Below B w0 wr) (ho : wr.ownsRow B 3 1 v ys.length (cellsOf ys)) (hs : B ≤ wr.heap.size)
    (h1 : W1.ownsRow B 3 1 (.slice (some ⟨g2, 0, none⟩) (ys.length + 1) c2) (ys.length + 1) (cellsOf (ys ++ [t]))) (h2 : (wr.alloc o).grownBy W1 v.ownBlock) :
    W1.ownsRow B 3 1 (.slice (some ⟨g2, 0, none⟩) (ys.length + 1) c2) (ys ++ [t]).length (cellsOf (ys ++ [t])) ∧ Below B w0 W1 :=
  ⟨by rw [List.length_append]; exact h1, (hB.trans ((Below.refl _ _).alloc hs o)).trans ((Below.refl _ _).grown h2 (Nat.le_trans hs (by simp)) (fun k e => (ho.lt k e).1))⟩

set_option maxHeartbeats 8000000 in
set_option maxRecDepth 100000 in
theorem rsweep_up (w : World) (s : Int) (v : Value) (xs : List Int) (hx : SliceIs w v xs) (hn : xs.length ≤ 20) :
    Calls Tryd.prog 9 #[.int .i64 s, .bool true, v] w fun e w' => ∃ v', e = .returned v' ∧ w'.ownsRow w.heap.size 3 1 v' (upL s (rise xs)).length (cellsOf (upL s (rise xs))) ∧ Below w.heap.size w w' := by
  have HX : Hid (SliceIs w v xs) := hx
  have HN0 : Hid (xs.length ≤ 1000) := show xs.length ≤ 1000 by omega
  have hrl : (rise xs).length ≤ 20 := by rw [(rise_perm xs).length_eq]; exact hn
  obtain ⟨r, hr⟩ : ∃ r, r = rise xs := ⟨_, rfl⟩
  have HR : Hid (rise xs = r) := hr.symm
  rw [← hr] at hrl ⊢
  obtain ⟨n, hnn⟩ : ∃ n, n = r.length := ⟨_, rfl⟩
  have HN : Hid (n = r.length) := hnn
  rw [← hnn] at hrl
  obtain ⟨p, hp⟩ : ∃ p : Int → Bool, p = fun x => decide (s ≤ x) := ⟨_, rfl⟩
  obtain ⟨q, hq⟩ : ∃ q : Int → Bool, q = fun x => decide (x < s) := ⟨_, rfl⟩
  have HE : Hid (gA p r n ++ gB q r 0 = upL s r) := by show gA p r n ++ gB q r 0 = upL s r; rw [hnn, gA_all, gB_all, hp, hq]; rfl
  have HPy : Hid (∀ x, s ≤ x → p x = true) := fun x h => by rw [hp]; exact decide_eq_true h
  have HPn : Hid (∀ x, x < s → p x = false) := fun x h => by rw [hp]; exact decide_eq_false (by omega)
  have HQy : Hid (∀ x, x < s → q x = true) := fun x h => by rw [hq]; exact decide_eq_true h
  have HQn : Hid (∀ x, s ≤ x → q x = false) := fun x h => by rw [hq]; exact decide_eq_false (by omega)
  clear hx hn hr hnn hp hq
  go_enter Tryd.func9, Tryd.ntmps9
  go_wp2_with fail
  refine (rising_any w _ xs HX.out HN0.out).mono ?_
  rintro e w1 ⟨v1, rfl, hown, hb1⟩
  rw [HR.out] at hown
  have hsl : SliceIs w1 v1 r := slice_own hown (by rw [← HN.out]; unfold maxLen; omega)
  have HB1 : Hid (Below w.heap.size w w1) := hb1
  have hlater := fun w' (hb : Below w1.heap.size w1 w') => hsl.later hb
  obtain ⟨a, c, hv, hl, hi⟩ := hsl
  subst hv
  have HC : Hid (∀ w', Below w1.heap.size w1 w' → ∀ i, i < n → ∃ b o, a = some ⟨b, o, none⟩ ∧ w'.cell? ⟨b, o + i, none⟩ = some (.int .i64 (nth r i))) := fun w' hb i hi => by
    obtain ⟨a', c', hv, _, hc⟩ := hlater w' hb
    cases hv
    obtain ⟨b, o, h1, _, h3⟩ := hc (fun e => by have := HN.out; rw [e] at this; simp at this; omega)
    exact ⟨b, o, h1, h3 i (by rw [← HN.out]; exact hi)⟩
  rw [← HN.out]
  clear hown hb1 hlater hl hi
  go_wp2
  go_loopw [7, 8, 10] (fun v7 v8 v10 wr => ∃ i : Nat, i ≤ n ∧ v10 = .int .i64 i ∧ v8 = .slice none 0 0 ∧ wr.ownsRow w1.heap.size 3 1 v7 (gA p r i).length (cellsOf (gA p r i)) ∧ Below w1.heap.size w1 wr) (fun _ _ i _ => n - (intOf i).toNat)
  case atStart => exact ⟨0, Nat.zero_le _, rfl, rfl, World.ownsRow_nil _ _ _ _, Below.refl _ _⟩
  case round =>
    obtain ⟨i, hi, rfl, rfl, hown, hb⟩ := hrel
    have HO : Hid (wr.ownsRow w1.heap.size 3 1 u7 (gA p r i).length (cellsOf (gA p r i))) := hown
    have HB : Hid (Below w1.heap.size w1 wr) := hb
    clear hown hb
    by_cases hlt : i < n
    · obtain ⟨b, o, haa, hci⟩ := HC.out wr HB.out i hlt
      subst haa
      have hii : (i : Int) < (n : Int) := by omega
      have HLT : Hid (i < r.length) := by rw [← HN.out]; exact hlt
      by_cases hs : s ≤ nth r i
      · have HS : Hid _ := gA_yes HLT.out (HPy.out _ hs)
        have HO1 : Hid ((wr.alloc (.cells #[.int .i64 (nth r i)] 3)).ownsRow w1.heap.size 3 1 u7 (gA p r i).length (cellsOf (gA p r i))) := HO.out.alloc _
        have HY : Hid (SliceIs (wr.alloc (.cells #[.int .i64 (nth r i)] 3)) (.slice (some ⟨wr.heap.size, 0, none⟩) 1 1) [nth r i]) := ints_lit wr [nth r i] (show 1 ≤ maxLen by decide) 1
        have HS0 : Hid (w1.heap.size ≤ (wr.alloc (.cells #[.int .i64 (nth r i)] 3)).heap.size) := Nat.le_trans HB.out.size (by simp)
        have H63 : Hid ((gA p r i).length ≤ 1000000) := by have := gA_len p r i; rw [← HN.out] at this; show (gA p r i).length ≤ 1000000; omega
        go_wp2_with (at_builtin; refine wpList_append_lie rfl (.tmp 29) (.tmp 34) rfl w1.heap.size u7 _ (gA p r i) rfl HO1.out _ (nth r i) rfl HY.out H63.out HS0.out ?q1)
        case q1 =>
          intro g2 c2 W1 h1 h2 _ _
          have H1 : Hid _ := more_own HB.out HO.out HB.out.size h1 h2
          clear h1 h2
          go_wp2
          go_roundw
          case rel => exact ⟨i + 1, by omega, by go_num, rfl, by rw [HS.out]; exact H1.out.1, H1.out.2⟩
          case measure => simp [intOf]; omega
      · have HS : Hid _ := gA_no HLT.out (HPn.out _ (by omega))
        go_wp2
        go_roundw
        case rel => exact ⟨i + 1, by omega, by go_num, rfl, by rw [HS.out]; exact HO.out, HB.out⟩
        case measure => simp [intOf]; omega
    · have hin : i = n := by omega
      subst hin
      generalize u7 = U at HO ⊢
      rename World => w2
      go_wp2
      go_loopw [7, 8, 11] (fun v7 v8 v11 wv => ∃ j : Nat, j ≤ i ∧ v11 = .int .i64 ((j : Int) - 1) ∧ v7 = U ∧ wv.ownsRow w2.heap.size 3 1 v8 (gB q r j).length (cellsOf (gB q r j)) ∧ Below w2.heap.size w2 wv) (fun _ _ j _ => (intOf j + 1).toNat)
      case atStart => exact ⟨i, Nat.le_refl _, rfl, rfl, by rw [HN.out, gB_none]; exact World.ownsRow_nil _ _ _ _, Below.refl _ _⟩
      case round =>
        obtain ⟨j, hj, rfl, rfl, hown, hb⟩ := hrel
        have HOv : Hid (wr.ownsRow w2.heap.size 3 1 u8 (gB q r j).length (cellsOf (gB q r j))) := hown
        have HBv : Hid (Below w2.heap.size w2 wr) := hb
        clear hown hb
        by_cases hj0 : j = 0
        · subst hj0
          have HOA : Hid (wr.ownsRow w1.heap.size 3 1 _ (gA p r i).length (cellsOf (gA p r i))) := own_later HO.out HBv.out
          have HSA : Hid (SliceIs wr _ (gA p r i)) := slice_own HOA.out (by have := gA_len p r i; rw [← HN.out] at this; unfold maxLen; omega)
          have HSB : Hid (SliceIs wr u8 (gB q r 0)) := slice_own HOv.out (by have := gB_len q r 0; rw [← HN.out] at this; unfold maxLen; omega)
          have HOB : Hid (wr.ownsRow w1.heap.size 3 1 u8 (gB q r 0).length (cellsOf (gB q r 0))) := own_lower HOv.out HB.out.size
          have H63 : Hid ((gA p r i).length + (gB q r 0).length ≤ 1000000) := by
            have h1 := gA_len p r i
            have h2 := gB_len q r 0
            rw [← HN.out] at h1 h2
            show (gA p r i).length + (gB q r 0).length ≤ 1000000
            omega
          have HS0 : Hid (w1.heap.size ≤ wr.heap.size) := (Below.next HB.out HBv.out).size
          go_wp2_with (at_builtin; refine wpList_append_ints rfl (.tmp 93) (.tmp 94) rfl w1.heap.size _ _ (gA p r i) rfl HOA.out _ (gB q r 0) rfl HSB.out H63.out HS0.out ?q2)
          case q2 =>
            intro v' w' h1 h2
            have H1 : Hid _ := h1
            have H2 : Hid _ := h2
            clear h1 h2
            go_wp2
            go_ret
            exact ⟨_, rfl, by rw [← HE.out, List.length_append]; exact own_lower H1.out HB1.out.size, HB1.out.trans (((Below.next HB.out HBv.out).trans H2.out).mono HB1.out.size)⟩
        · obtain ⟨k, rfl⟩ : ∃ k, j = k + 1 := ⟨j - 1, by omega⟩
          have hke : ((k + 1 : Nat) : Int) - 1 = (k : Int) := by omega
          rw [hke]
          obtain ⟨b, o, haa, hci⟩ := HC.out wr (Below.next HB.out HBv.out) k (by omega)
          subst haa
          have hii : (k : Int) < (i : Int) := by omega
          have HLT : Hid (k < r.length) := by show k < r.length; rw [← HN.out]; omega
          by_cases hs : nth r k < s
          · have HS : Hid _ := gB_yes HLT.out (HQy.out _ hs)
            have HO1 : Hid ((wr.alloc (.cells #[.int .i64 (nth r k)] 3)).ownsRow w2.heap.size 3 1 u8 (gB q r (k + 1)).length (cellsOf (gB q r (k + 1)))) := HOv.out.alloc _
            have HY : Hid (SliceIs (wr.alloc (.cells #[.int .i64 (nth r k)] 3)) (.slice (some ⟨wr.heap.size, 0, none⟩) 1 1) [nth r k]) := ints_lit wr [nth r k] (show 1 ≤ maxLen by decide) 1
            have HS0 : Hid (w2.heap.size ≤ (wr.alloc (.cells #[.int .i64 (nth r k)] 3)).heap.size) := Nat.le_trans HBv.out.size (by simp)
            have H63 : Hid ((gB q r (k + 1)).length ≤ 1000000) := by have := gB_len q r (k + 1); rw [← HN.out] at this; show (gB q r (k + 1)).length ≤ 1000000; omega
            go_wp2_with (at_builtin; refine wpList_append_lie rfl (.tmp 69) (.tmp 74) rfl w2.heap.size u8 _ (gB q r (k + 1)) rfl HO1.out _ (nth r k) rfl HY.out H63.out HS0.out ?q1)
            case q1 =>
              intro g2 c2 W1 h1 h2 _ _
              have H1 : Hid _ := more_own HBv.out HOv.out HBv.out.size h1 h2
              clear h1 h2
              go_wp2
              go_roundw
              case rel => exact ⟨k, by omega, by go_num, rfl, by rw [HS.out]; exact H1.out.1, H1.out.2⟩
              case measure => simp [intOf]
          · have HS : Hid _ := gB_no HLT.out (HQn.out _ (by omega))
            go_wp2
            go_roundw
            case rel => exact ⟨k, by omega, by go_num, rfl, by rw [← HS.out] at HOv; exact HOv.out, HBv.out⟩
            case measure => simp [intOf]

set_option maxHeartbeats 8000000 in
set_option maxRecDepth 100000 in
theorem rsweep_down (w : World) (s : Int) (v : Value) (xs : List Int) (hx : SliceIs w v xs) (hn : xs.length ≤ 20) :
    Calls Tryd.prog 9 #[.int .i64 s, .bool false, v] w fun e w' => ∃ v', e = .returned v' ∧ w'.ownsRow w.heap.size 3 1 v' (downL s (rise xs)).length (cellsOf (downL s (rise xs))) ∧ Below w.heap.size w w' := by
  have HX : Hid (SliceIs w v xs) := hx
  have HN0 : Hid (xs.length ≤ 1000) := show xs.length ≤ 1000 by omega
  have hrl : (rise xs).length ≤ 20 := by rw [(rise_perm xs).length_eq]; exact hn
  obtain ⟨r, hr⟩ : ∃ r, r = rise xs := ⟨_, rfl⟩
  have HR : Hid (rise xs = r) := hr.symm
  rw [← hr] at hrl ⊢
  obtain ⟨n, hnn⟩ : ∃ n, n = r.length := ⟨_, rfl⟩
  have HN : Hid (n = r.length) := hnn
  rw [← hnn] at hrl
  obtain ⟨p, hp⟩ : ∃ p : Int → Bool, p = fun x => decide (s < x) := ⟨_, rfl⟩
  obtain ⟨q, hq⟩ : ∃ q : Int → Bool, q = fun x => decide (x ≤ s) := ⟨_, rfl⟩
  have HE : Hid (gB q r 0 ++ gA p r n = downL s r) := by show gB q r 0 ++ gA p r n = downL s r; rw [hnn, gA_all, gB_all, hp, hq]; rfl
  have HPy : Hid (∀ x, s < x → p x = true) := fun x h => by rw [hp]; exact decide_eq_true h
  have HPn : Hid (∀ x, x ≤ s → p x = false) := fun x h => by rw [hp]; exact decide_eq_false (by omega)
  have HQy : Hid (∀ x, x ≤ s → q x = true) := fun x h => by rw [hq]; exact decide_eq_true h
  have HQn : Hid (∀ x, s < x → q x = false) := fun x h => by rw [hq]; exact decide_eq_false (by omega)
  clear hx hn hr hnn hp hq
  go_enter Tryd.func9, Tryd.ntmps9
  go_wp2_with fail
  refine (rising_any w _ xs HX.out HN0.out).mono ?_
  rintro e w1 ⟨v1, rfl, hown, hb1⟩
  rw [HR.out] at hown
  have hsl : SliceIs w1 v1 r := slice_own hown (by rw [← HN.out]; unfold maxLen; omega)
  have HB1 : Hid (Below w.heap.size w w1) := hb1
  have hlater := fun w' (hb : Below w1.heap.size w1 w') => hsl.later hb
  obtain ⟨a, c, hv, hl, hi⟩ := hsl
  subst hv
  have HC : Hid (∀ w', Below w1.heap.size w1 w' → ∀ i, i < n → ∃ b o, a = some ⟨b, o, none⟩ ∧ w'.cell? ⟨b, o + i, none⟩ = some (.int .i64 (nth r i))) := fun w' hb i hi => by
    obtain ⟨a', c', hv, _, hc⟩ := hlater w' hb
    cases hv
    obtain ⟨b, o, h1, _, h3⟩ := hc (fun e => by have := HN.out; rw [e] at this; simp at this; omega)
    exact ⟨b, o, h1, h3 i (by rw [← HN.out]; exact hi)⟩
  rw [← HN.out]
  clear hown hb1 hlater hl hi
  go_wp2
  go_loopw [7, 8, 10] (fun v7 v8 v10 wr => ∃ i : Nat, i ≤ n ∧ v10 = .int .i64 i ∧ v7 = .slice none 0 0 ∧ wr.ownsRow w1.heap.size 3 1 v8 (gA p r i).length (cellsOf (gA p r i)) ∧ Below w1.heap.size w1 wr) (fun _ _ i _ => n - (intOf i).toNat)
  case atStart => exact ⟨0, Nat.zero_le _, rfl, rfl, World.ownsRow_nil _ _ _ _, Below.refl _ _⟩
  case round =>
    obtain ⟨i, hi, rfl, rfl, hown, hb⟩ := hrel
    have HO : Hid (wr.ownsRow w1.heap.size 3 1 u8 (gA p r i).length (cellsOf (gA p r i))) := hown
    have HB : Hid (Below w1.heap.size w1 wr) := hb
    clear hown hb
    by_cases hlt : i < n
    · obtain ⟨b, o, haa, hci⟩ := HC.out wr HB.out i hlt
      subst haa
      have hii : (i : Int) < (n : Int) := by omega
      have HLT : Hid (i < r.length) := by rw [← HN.out]; exact hlt
      by_cases hs : s < nth r i
      · have HS : Hid _ := gA_yes HLT.out (HPy.out _ hs)
        have HO1 : Hid ((wr.alloc (.cells #[.int .i64 (nth r i)] 3)).ownsRow w1.heap.size 3 1 u8 (gA p r i).length (cellsOf (gA p r i))) := HO.out.alloc _
        have HY : Hid (SliceIs (wr.alloc (.cells #[.int .i64 (nth r i)] 3)) (.slice (some ⟨wr.heap.size, 0, none⟩) 1 1) [nth r i]) := ints_lit wr [nth r i] (show 1 ≤ maxLen by decide) 1
        have HS0 : Hid (w1.heap.size ≤ (wr.alloc (.cells #[.int .i64 (nth r i)] 3)).heap.size) := Nat.le_trans HB.out.size (by simp)
        have H63 : Hid ((gA p r i).length ≤ 1000000) := by have := gA_len p r i; rw [← HN.out] at this; show (gA p r i).length ≤ 1000000; omega
        go_wp2_with (at_builtin; refine wpList_append_lie rfl (.tmp 46) (.tmp 51) rfl w1.heap.size u8 _ (gA p r i) rfl HO1.out _ (nth r i) rfl HY.out H63.out HS0.out ?q1)
        case q1 =>
          intro g2 c2 W1 h1 h2 _ _
          have H1 : Hid _ := more_own HB.out HO.out HB.out.size h1 h2
          clear h1 h2
          go_wp2
          go_roundw
          case rel => exact ⟨i + 1, by omega, by go_num, rfl, by rw [HS.out]; exact H1.out.1, H1.out.2⟩
          case measure => simp [intOf]; omega
      · have HS : Hid _ := gA_no HLT.out (HPn.out _ (by omega))
        go_wp2
        go_roundw
        case rel => exact ⟨i + 1, by omega, by go_num, rfl, by rw [HS.out]; exact HO.out, HB.out⟩
        case measure => simp [intOf]; omega
    · have hin : i = n := by omega
      subst hin
      generalize u8 = U at HO ⊢
      rename World => w2
      go_wp2
      go_loopw [7, 8, 11] (fun v7 v8 v11 wv => ∃ j : Nat, j ≤ i ∧ v11 = .int .i64 ((j : Int) - 1) ∧ v8 = U ∧ wv.ownsRow w2.heap.size 3 1 v7 (gB q r j).length (cellsOf (gB q r j)) ∧ Below w2.heap.size w2 wv) (fun _ _ j _ => (intOf j + 1).toNat)
      case atStart => exact ⟨i, Nat.le_refl _, rfl, rfl, by rw [HN.out, gB_none]; exact World.ownsRow_nil _ _ _ _, Below.refl _ _⟩
      case round =>
        obtain ⟨j, hj, rfl, rfl, hown, hb⟩ := hrel
        have HOv : Hid (wr.ownsRow w2.heap.size 3 1 u7 (gB q r j).length (cellsOf (gB q r j))) := hown
        have HBv : Hid (Below w2.heap.size w2 wr) := hb
        clear hown hb
        by_cases hj0 : j = 0
        · subst hj0
          have HOA : Hid (wr.ownsRow w1.heap.size 3 1 _ (gA p r i).length (cellsOf (gA p r i))) := own_later HO.out HBv.out
          have HSA : Hid (SliceIs wr _ (gA p r i)) := slice_own HOA.out (by have := gA_len p r i; rw [← HN.out] at this; unfold maxLen; omega)
          have HSB : Hid (SliceIs wr u7 (gB q r 0)) := slice_own HOv.out (by have := gB_len q r 0; rw [← HN.out] at this; unfold maxLen; omega)
          have HOB : Hid (wr.ownsRow w1.heap.size 3 1 u7 (gB q r 0).length (cellsOf (gB q r 0))) := own_lower HOv.out HB.out.size
          have H63 : Hid ((gB q r 0).length + (gA p r i).length ≤ 1000000) := by
            have h1 := gA_len p r i
            have h2 := gB_len q r 0
            rw [← HN.out] at h1 h2
            show (gB q r 0).length + (gA p r i).length ≤ 1000000
            omega
          have HS0 : Hid (w1.heap.size ≤ wr.heap.size) := (Below.next HB.out HBv.out).size
          go_wp2_with (at_builtin; refine wpList_append_ints rfl (.tmp 93) (.tmp 94) rfl w1.heap.size _ _ (gB q r 0) rfl HOB.out _ (gA p r i) rfl HSA.out H63.out HS0.out ?q2)
          case q2 =>
            intro v' w' h1 h2
            have H1 : Hid _ := h1
            have H2 : Hid _ := h2
            clear h1 h2
            go_wp2
            go_ret
            exact ⟨_, rfl, by rw [← HE.out, List.length_append]; exact own_lower H1.out HB1.out.size, HB1.out.trans (((Below.next HB.out HBv.out).trans H2.out).mono HB1.out.size)⟩
        · obtain ⟨k, rfl⟩ : ∃ k, j = k + 1 := ⟨j - 1, by omega⟩
          have hke : ((k + 1 : Nat) : Int) - 1 = (k : Int) := by omega
          rw [hke]
          obtain ⟨b, o, haa, hci⟩ := HC.out wr (Below.next HB.out HBv.out) k (by omega)
          subst haa
          have hii : (k : Int) < (i : Int) := by omega
          have HLT : Hid (k < r.length) := by show k < r.length; rw [← HN.out]; omega
          by_cases hs : nth r k ≤ s
          · have HS : Hid _ := gB_yes HLT.out (HQy.out _ hs)
            have HO1 : Hid ((wr.alloc (.cells #[.int .i64 (nth r k)] 3)).ownsRow w2.heap.size 3 1 u7 (gB q r (k + 1)).length (cellsOf (gB q r (k + 1)))) := HOv.out.alloc _
            have HY : Hid (SliceIs (wr.alloc (.cells #[.int .i64 (nth r k)] 3)) (.slice (some ⟨wr.heap.size, 0, none⟩) 1 1) [nth r k]) := ints_lit wr [nth r k] (show 1 ≤ maxLen by decide) 1
            have HS0 : Hid (w2.heap.size ≤ (wr.alloc (.cells #[.int .i64 (nth r k)] 3)).heap.size) := Nat.le_trans HBv.out.size (by simp)
            have H63 : Hid ((gB q r (k + 1)).length ≤ 1000000) := by have := gB_len q r (k + 1); rw [← HN.out] at this; show (gB q r (k + 1)).length ≤ 1000000; omega
            go_wp2_with (at_builtin; refine wpList_append_lie rfl (.tmp 86) (.tmp 91) rfl w2.heap.size u7 _ (gB q r (k + 1)) rfl HO1.out _ (nth r k) rfl HY.out H63.out HS0.out ?q1)
            case q1 =>
              intro g2 c2 W1 h1 h2 _ _
              have H1 : Hid _ := more_own HBv.out HOv.out HBv.out.size h1 h2
              clear h1 h2
              go_wp2
              go_roundw
              case rel => exact ⟨k, by omega, by go_num, rfl, by rw [HS.out]; exact H1.out.1, H1.out.2⟩
              case measure => simp [intOf]
          · have HS : Hid _ := gB_no HLT.out (HQn.out _ (by omega))
            go_wp2
            go_roundw
            case rel => exact ⟨k, by omega, by go_num, rfl, by rw [← HS.out] at HOv; exact HOv.out, HBv.out⟩
            case measure => simp [intOf]

theorem rsweep_any (w : World) (s : Int) (up : Bool) (v : Value) (xs : List Int) (hx : SliceIs w v xs) (hn : xs.length ≤ 20) :
    Calls Tryd.prog 9 #[.int .i64 s, .bool up, v] w fun e w' => ∃ v', e = .returned v' ∧ w'.ownsRow w.heap.size 3 1 v' (ord (fun _ => ltS s up) xs.length s xs).length (cellsOf (ord (fun _ => ltS s up) xs.length s xs)) ∧ Below w.heap.size w w' := by
  cases up
  · rw [← downL_ord]; exact rsweep_down w s v xs hx hn
  · rw [← upL_ord]; exact rsweep_up w s v xs hx hn

end Go.Proofs.YtckdknkgadhmjaaDoor
