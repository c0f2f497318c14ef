/- This text joins 4 parts of a proof. (1) This text proves plain facts on a box of two values and on results that lie in a box; it speaks of no call; no condition. (2) This text proves that the document's tree stays the program's one as a name is moved, and when the document tells that it can't be: below itself, or too deep; it speaks of no call; no condition. (3) This text proves that what the document collects for Walk and Inside are, once sorted, all paths of the program's tree and the names in a directory; it speaks of no call; no condition. (4) This text proves what the document's Drop answers: the tree without a name, or what is wrong; old memory is as it was; the conditions are those of the document's At. -/
import Derived.Test.YtdlmkienogimgaaGreatDoorMb2
import Derived.Deep.RegionHeld
namespace Go.Proofs.YtdlmkienogimgaaGreatDoor
open Go.RowKit Go.Deep Go.Shelf

/-- A box of two values. -/
def Box2 (w : World) (b : Nat) (x y : Value) : Prop := w.heap[b]? = some (.cells #[x, y] 42 (0, 0))
theorem Box2.facts {w : World} {b : Nat} {x y : Value} (h : Box2 w b x y) : w.cell? ⟨b, 0, none⟩ = some x ∧ w.cell? ⟨b, 1, none⟩ = some y ∧ w.frozen? ⟨b, 0, none⟩ = false ∧ w.frozen? ⟨b, 1, none⟩ = false := by
  unfold Box2 at h
  refine ⟨?_, ?_, ?_, ?_⟩ <;> simp [World.cell?, World.frozen?, h]
theorem Box2.later {w w' : World} {b : Nat} {x y : Value} (h : Box2 w b x y) (hb : Below w.heap.size w w') : Box2 w' b x y :=
  (hb.block b (Array.getElem?_eq_some_iff.1 h).1).trans h
theorem results_cell2 {fn : Func} {p q : Tmp} {ty : TypeId} (h : fn.results = #[.cell p ty, .tmp q]) (tmps : Array Value) (P : Program) (w : World) :
    (results fn tmps).run P w = ((asAddr (tmps.getD p undef)).run P w).andThen fun a w₁ => ((loadVar ty a).run P w₁).andThen fun x w₂ => .ok (.tuple #[x, tmps.getD q undef]) w₂ := by
  simp only [results, h]
  simp [Sem.run_bind, Result.andThen]

theorem Box2.set {w : World} {b : Nat} {x y : Value} (h : Box2 w b x y) (u v : Value) : Box2 ((w.setCell ⟨b, 0, none⟩ u).setCell ⟨b, 1, none⟩ v) b u v := by
  unfold Box2 at h ⊢
  simp [World.setCell, Array.getElem?_modify, h]
theorem cell_off {w : World} {p a : Addr} (u : Value) (h : p.block ≠ a.block) : (w.setCell p u).cell? a = w.cell? a := World.cell?_of_block (Below.heap_setCell w p u a.block fun e => h e.symm)
theorem NamedIs.off {w : World} {v : Value} {l : List Nm} (h : NamedIs w v l) {p : Addr} (u : Value) (hp : ∀ a n c, v = .slice (some a) n c → l ≠ [] → p.block ≠ a.block) : NamedIs (w.setCell p u) v l := by
  obtain ⟨a, cap, hv, hl, hx⟩ := h
  refine ⟨a, cap, hv, hl, fun hne => ?_⟩
  obtain ⟨b, off, ha, hlt, hc⟩ := hx hne
  subst ha
  have hb := hp _ _ _ hv hne
  refine ⟨b, off, rfl, by simpa [World.setCell] using hlt, fun i hi => ?_⟩
  have := hc i hi
  exact ⟨(cell_off (a := ⟨b, off + i * 2, none⟩) u hb).trans this.1, (cell_off (a := ⟨b, off + i * 2 + 1, none⟩) u hb).trans this.2⟩

end Go.Proofs.YtdlmkienogimgaaGreatDoor

namespace Go.Proofs.YtdlmkienogimgaaGreatDoor
open Go.RowKit Go.Deep Go.Shelf

theorem sg_app (a b : List (List UInt8)) : sg (a ++ b) = sg a ++ sg b := by simp [sg]

/-- A name of the document's that was moved. -/
def mvD (p p2 : List UInt8) (x : Nm) : Nm := if x.1 = p then (p2, x.2) else if bgn x.1 p = true then (p2 ++ x.1.drop p.length, x.2) else x
theorem mvD_path {p p2 : List (List UInt8)} (hp : p ≠ []) (hp2 : p2 ≠ []) (hp8 : p.length ≤ 8) (hpn : ∀ k ∈ p, isN k = true) {x : List (List UInt8)} (hx : x ≠ []) (hx8 : x.length ≤ 8) (hxn : ∀ k ∈ x, isN k = true) (z : Nat) :
    mvD (shw p) (shw p2) (shw x, z) = (shw (mv p p2 x), z) := by
  by_cases hpre : p <+: x
  · obtain ⟨u, rfl⟩ := hpre
    rw [mv_under]
    by_cases hu : u = []
    · subst hu
      rw [List.append_nil, List.append_nil]
      unfold mvD
      rw [if_pos rfl]
    · have hne : ¬ shw (p ++ u) = shw p := fun e => by
        have := shw_inj hx8 hxn hp8 hpn e
        exact hu (by simpa using this)
      obtain ⟨k, u', rfl⟩ : ∃ k u', u = k :: u' := by
        cases u with
        | nil => exact absurd rfl hu
        | cons k u' => exact ⟨k, u', rfl⟩
      have hb : bgn (shw (p ++ k :: u')) (shw p) = true := by
        rw [shw_sg hx, shw_sg hp]
        exact (sg_bgn hpn hxn).2 ⟨k, u', rfl⟩
      unfold mvD
      rw [if_neg hne, if_pos hb]
      simp only [Prod.mk.injEq, and_true]
      rw [shw_sg hx, shw_sg hp, shw_sg hp2, shw_sg (by simp), sg_app, sg_app, List.drop_left]
  · have hne : ¬ shw x = shw p := fun e => hpre (by rw [shw_inj hx8 hxn hp8 hpn e]; exact List.prefix_rfl)
    have hb : ¬ bgn (shw x) (shw p) = true := fun h => by
      rw [shw_sg hx, shw_sg hp] at h
      obtain ⟨k, u, e⟩ := (sg_bgn hpn hxn).1 h
      exact hpre ⟨k :: u, e.symm⟩
    unfold mvD
    rw [if_neg hne, if_neg hb, mv_off hpre]

theorem Mt.mov {L : List Ent} {M : Nat → Option Nat} {num : Nat → Nat} {D : List Nm} {B : List Bool} (h : Mt L M num D B) {q q2 : List (List UInt8)} {k k2 : List UInt8} {i d d2 : Nat} (hm : Mov L M q q2 k k2 i d d2) :
    Mt (movL L (q ++ [k]) (q2 ++ [k2])) M num (D.map (mvD (shw (q ++ [k])) (shw (q2 ++ [k2])))) B := by
  have hroot : mv (q ++ [k]) (q2 ++ [k2]) [] = [] := mv_off fun ⟨u, hu⟩ => by simp at hu
  obtain ⟨g1, g2⟩ := h.good.nam _ _ (look_mem hm.here)
  refine ⟨hm.good', ?_, fun x j hx => ?_, fun x j y j2 hx hy e => ?_, fun r hr => ?_⟩
  · unfold movL
    rw [h.names, ← List.map_tail, List.map_map, List.map_map]
    refine List.map_congr_left fun x hx => ?_
    have hne := h.good.tail_ne hx
    obtain ⟨a1, a2⟩ := h.good.nam x.1 x.2 (List.mem_of_mem_tail hx)
    exact mvD_path (by simp) (by simp) g1 g2 hne a1 a2 _
  · obtain ⟨y, j', hy, e⟩ := mem_movL.1 hx
    cases e
    exact h.dirs y j hy
  · obtain ⟨a, ja, ha, ea⟩ := mem_movL.1 hx
    obtain ⟨b, jb, hb, eb⟩ := mem_movL.1 hy
    cases ea
    cases eb
    exact h.inj _ _ _ _ ha hb e
  · obtain ⟨y, j', hy, e⟩ := mem_movL.1 hr
    simp only [Prod.mk.injEq] at e
    obtain ⟨e, rfl⟩ := e
    obtain ⟨r0, hr0, _⟩ := h.good.start
    by_cases hp : (q ++ [k]) <+: y
    · obtain ⟨u, rfl⟩ := hp
      rw [mv_under] at e
      simp at e
    · rw [mv_off hp] at e
      subst e
      exact h.root _ hy

/-- What is moved below itself. -/
theorem met_bgn {L : List Ent} {M : Nat → Option Nat} (hG : Good L M) {p q2 : List (List UInt8)} {k2 : List UInt8} {i d2 : Nat} (hpne : p ≠ []) (hp : look L p = some i) (hq : look L q2 = some d2) (hd : (M d2).isSome = true) (hk2 : isN k2 = true) :
    met i d2 (wk 8 L p) = ((M i).isSome && bgn (shw (q2 ++ [k2])) (shw p)) := by
  obtain ⟨_, a2⟩ := hG.nam _ _ (look_mem hp)
  obtain ⟨_, b2⟩ := hG.nam _ _ (look_mem hq)
  have b2' : ∀ x ∈ q2 ++ [k2], isN x = true := fun x hx => by
    rcases List.mem_append.1 hx with hx | hx
    · exact b2 x hx
    · rw [List.mem_singleton.1 hx]; exact hk2
  rw [Bool.eq_iff_iff, met_iff hG hp hq hd, Bool.and_eq_true, shw_sg (by simp), shw_sg hpne, sg_bgn a2 b2']
  constructor
  · rintro ⟨u, rfl⟩
    refine ⟨?_, ?_⟩
    · by_cases hu : u = []
      · subst hu
        rw [List.append_nil, hp] at hq
        rw [Option.some.inj hq]; exact hd
      · obtain ⟨d, hd', hs⟩ := hG.above u p d2 hu (look_mem hq)
        rw [hG.uni.same (look_mem hp) hd']; exact hs
    · cases u with
      | nil => exact ⟨k2, [], by simp⟩
      | cons a u => exact ⟨a, u ++ [k2], by simp⟩
  · rintro ⟨_, k, u, e⟩
    refine ⟨(k :: u).dropLast, ?_⟩
    have := congrArg List.dropLast e
    rw [List.dropLast_concat, List.dropLast_append_of_ne_nil (by simp)] at this
    exact this.symm

/-- What would stand too deep. -/
def dpx (p p2 : List UInt8) (x : Nm) : Bool := !decide (x.1 = p) && bgn x.1 p && decide (8 < sls (p2 ++ x.1.drop p.length))
theorem Mt.deep {L : List Ent} {M : Nat → Option Nat} {num : Nat → Nat} {D : List Nm} {B : List Bool} (h : Mt L M num D B) {p p2 : List (List UInt8)} (hp : p ≠ []) (hpn : ∀ k ∈ p, isN k = true) (hp2 : p2 ≠ []) (hp8 : p2.length ≤ 8) (hpn2 : ∀ k ∈ p2, isN k = true) :
    (∃ x ∈ D, dpx (shw p) (shw p2) x = true) ↔ 8 < p2.length + dpt (wk 8 L p) := by
  have hs : ∀ u : List (List UInt8), (∀ k ∈ u, isN k = true) → sls (shw p2 ++ (sg (p ++ u)).drop (shw p).length) = p2.length + u.length := fun u hu => by
    rw [shw_sg hp, shw_sg hp2, sg_app, List.drop_left, ← sg_app, sls_sg, List.length_append]
    intro k hk
    rcases List.mem_append.1 hk with hk | hk
    · exact hpn2 k hk
    · exact hu k hk
  constructor
  · rintro ⟨x, hx, hd⟩
    obtain ⟨y, hy, hyne, e1, _, y8, yn⟩ := h.name hx
    unfold dpx at hd
    simp only [Bool.and_eq_true, decide_eq_true_eq] at hd
    obtain ⟨⟨_, hb⟩, h8⟩ := hd
    rw [e1] at hb h8
    rw [shw_sg hp] at hb
    obtain ⟨k, u, e⟩ := (sg_bgn hpn yn).1 hb
    rw [e, hs (k :: u) (fun c hc => yn c (by rw [e]; exact List.mem_append_right _ hc))] at h8
    have hmem : ((k :: u : List (List UInt8)), y.2) ∈ wk 8 L p := wk_all h.good 8 p (k :: u) y.2 (by simp) (by
      have := congrArg List.length e
      rw [List.length_append] at this
      have : 0 < p.length := List.length_pos_iff.2 hp
      omega) (by rw [← e]; exact hy)
    have := (dpt_le (n := dpt (wk 8 L p))).1 (Nat.le_refl _) _ hmem
    dsimp only at this
    omega
  · intro hlt
    have : ¬ dpt (wk 8 L p) ≤ 8 - p2.length := by omega
    rw [dpt_le] at this
    have ⟨x, hx⟩ : ∃ x, ¬ (x ∈ wk 8 L p → x.1.length ≤ 8 - p2.length) := Classical.byContradiction fun hne => this fun x hx => Classical.byContradiction fun hc => hne ⟨x, fun h => hc (h hx)⟩
    have hxm : x ∈ wk 8 L p := Classical.byContradiction fun hc => hx fun h => absurd h hc
    have hxl : ¬ x.1.length ≤ 8 - p2.length := fun hc => hx fun _ => hc
    obtain ⟨hxne, hxL⟩ := wk_mem 8 p x hxm
    obtain ⟨a8, an⟩ := h.good.nam _ _ hxL
    refine ⟨(shw (p ++ x.1), num x.2), ?_, ?_⟩
    · rw [h.names]
      exact List.mem_map.2 ⟨(p ++ x.1, x.2), h.good.in_tail hxL (by simp [hp]), rfl⟩
    · obtain ⟨k, u, e⟩ : ∃ k u, x.1 = k :: u := by
        cases hc : x.1 with
        | nil => exact absurd hc hxne
        | cons k u => exact ⟨k, u, rfl⟩
      unfold dpx
      simp only [Bool.and_eq_true, decide_eq_true_eq, Bool.not_eq_true', decide_eq_false_iff_not]
      refine ⟨⟨fun e' => ?_, ?_⟩, ?_⟩
      · rw [shw_sg hp, shw_sg (by simp [hp]), sg_app, e, sg_cons] at e'
        have := congrArg List.length e'
        simp at this
      · rw [shw_sg hp, shw_sg (by simp [hp])]
        exact (sg_bgn hpn an).2 ⟨k, u, by rw [e]⟩
      · rw [shw_sg (show p ++ x.1 ≠ [] by simp [hp]), hs x.1 (fun c hc => an c (List.mem_append_right _ hc))]
        omega

end Go.Proofs.YtdlmkienogimgaaGreatDoor

namespace Go.Proofs.YtdlmkienogimgaaGreatDoor
open Go.RowKit Go.Deep Go.Shelf

/-- What Walk collects. -/
def wlk (B : List Bool) (x : Nm) : List UInt8 := x.1 ++ if B.getD x.2 false then [47] else []
theorem Mt.walk {L : List Ent} {M : Nat → Option Nat} {num : Nat → Nat} {D : List Nm} {B : List Bool} (h : Mt L M num D B) : D.map (wlk B) = L.tail.map (tx M) := by
  rw [h.names, List.map_map]
  refine List.map_congr_left fun x hx => ?_
  have := (h.dirs x.1 x.2 (List.mem_of_mem_tail hx)).2
  simp only [Function.comp, wlk, tx, this]
theorem Mt.walk_mem {L : List Ent} {M : Nat → Option Nat} {num : Nat → Nat} {D : List Nm} {B : List Bool} (h : Mt L M num D B) (x : List UInt8) : x ∈ D.map (wlk B) ↔ x ∈ txs L M := by
  rw [h.walk]
  unfold txs
  exact ((wka_perm h.good).map (tx M)).symm.mem_iff
theorem Mt.walk_nodup {L : List Ent} {M : Nat → Option Nat} {num : Nat → Nat} {D : List Nm} {B : List Bool} (h : Mt L M num D B) : (D.map (wlk B)).Nodup := by
  have hne : ∀ {a b : List UInt8}, a < b → a ≠ b := fun {a b} r e => List.lt_irrefl a (by rw [← e] at r; exact r)
  have h1 : (txs L M).Nodup := List.nodup_iff_pairwise_ne.2 (pw_of hne (txs_rise h.good))
  rw [h.walk]
  exact ((wka_perm h.good).map (tx M)).nodup_iff.1 h1
theorem Mt.walk_srt {L : List Ent} {M : Nat → Option Nat} {num : Nat → Nat} {D : List Nm} {B : List Bool} (h : Mt L M num D B) : srt (D.map (wlk B)) = txs L M :=
  srt_same h.walk_nodup (txs_rise h.good) h.walk_mem

/-- What Inside collects. -/
def ins (p : List UInt8) (x : Nm) : Option (List UInt8) := if bgn x.1 p = true ∧ sls x.1 = sls p + 1 then some (x.1.drop (p.length + 1)) else none
theorem filterMap_same {α β : Type} {f g : α → Option β} : ∀ {l : List α}, (∀ x ∈ l, f x = g x) → l.filterMap f = l.filterMap g
  | [], _ => rfl
  | y :: l, h => by
    have hy := h y (by simp)
    have ih := filterMap_same (l := l) fun x hx => h x (by simp [hx])
    rw [List.filterMap_cons, List.filterMap_cons, hy, ih]
theorem ins_name {p x : List (List UInt8)} (hpn : ∀ k ∈ p, isN k = true) (hx : x ≠ []) (hxn : ∀ k ∈ x, isN k = true) (z : Nat) : ins (sg p) (shw x, z) = if x ≠ [] ∧ x.dropLast = p then x.getLast? else none := by
  have hsx := sls_sg hxn
  have hsp := sls_sg hpn
  unfold ins
  dsimp only
  rw [shw_sg hx]
  by_cases hc : x ≠ [] ∧ x.dropLast = p
  · rw [if_pos hc]
    obtain ⟨k, hk⟩ : ∃ k, x.getLast? = some k := ⟨_, List.getLast?_eq_some_getLast hx⟩
    have e := snoc_parts.1 ⟨hc.1, hc.2, hk⟩
    rw [if_pos ⟨(sg_bgn hpn hxn).2 ⟨k, [], e⟩, by rw [hsx, hsp, e]; simp⟩, hk, e, sg_app]
    congr 1
    rw [show sg [k] = 47 :: k by simp [sg], List.drop_append]
    simp
  · rw [if_neg hc, if_neg]
    rintro ⟨hb, hl⟩
    obtain ⟨k, u, e⟩ := (sg_bgn hpn hxn).1 hb
    rw [hsx, hsp, e] at hl
    simp at hl
    obtain rfl : u = [] := hl
    exact hc ⟨hx, by rw [e, List.dropLast_concat]⟩
theorem Mt.inside {L : List Ent} {M : Nat → Option Nat} {num : Nat → Nat} {D : List Nm} {B : List Bool} (h : Mt L M num D B) {p : List (List UInt8)} (hpn : ∀ k ∈ p, isN k = true) : D.filterMap (ins (sg p)) = kd L p := by
  obtain ⟨r, t, hL, _⟩ := h.good.root
  have e : kd L p = L.tail.filterMap fun x => if x.1 ≠ [] ∧ x.1.dropLast = p then x.1.getLast? else none := by
    unfold kd
    rw [hL, List.filterMap_cons, List.tail_cons]
    simp
  rw [e, h.names, List.filterMap_map]
  refine filterMap_same fun x hx => ?_
  have hne := h.good.tail_ne hx
  obtain ⟨_, a2⟩ := h.good.nam x.1 x.2 (List.mem_of_mem_tail hx)
  exact ins_name hpn hne a2 _
theorem Mt.inside_srt {L : List Ent} {M : Nat → Option Nat} {num : Nat → Nat} {D : List Nm} {B : List Bool} (h : Mt L M num D B) {p : List (List UInt8)} (hpn : ∀ k ∈ p, isN k = true) : srt (D.filterMap (ins (sg p))) = kids L p := by
  rw [h.inside hpn]; rfl

end Go.Proofs.YtdlmkienogimgaaGreatDoor

namespace Go.Proofs.YtdlmkienogimgaaGreatDoor
open Go.RowKit Go.Deep Go.Shelf

theorem box2_new (w : World) (x y : Value) : Box2 (w.alloc (.cells #[x, y] 42)) w.heap.size x y := blk_alloc_new _ _
theorem Box2.lt {w : World} {b : Nat} {x y : Value} (h : Box2 w b x y) : b < w.heap.size := (Array.getElem?_eq_some_iff.1 h).1
theorem own_off {w : World} {base e z n : Nat} {v : Value} {xs : List Value} (h : w.ownsRow base e z v n xs) {p : Addr} (hp : p.block < base) (u : Value) : (w.setCell p u).ownsRow base e z v n xs := by
  refine ⟨h.1, ?_⟩
  rcases h.2 with h0 | ⟨g, cap, cur, h1, h2, h3, h4⟩
  · exact .inl h0
  · refine .inr ⟨g, cap, cur, h1, h2, ?_, h4⟩
    rw [Below.heap_setCell w p u g (by omega)]; exact h3
theorem NamedIs.form {w : World} {v : Value} {l : List Nm} (h : NamedIs w v l) : ∃ a c, v = .slice a l.length c := by
  obtain ⟨a, c, e, _⟩ := h
  exact ⟨a, c, e⟩
theorem BoolsIs.form {w : World} {v : Value} {l : List Bool} (h : BoolsIs w v l) : ∃ a c, v = .slice a l.length c := by
  obtain ⟨a, c, e, _⟩ := h
  exact ⟨a, c, e⟩
/-- The document's names without one. -/
def drD (D : List Nm) (P : List UInt8) (e : Nat) : List Nm := if e = 0 then D.filter fun x => decide (x.1 ≠ P) else D
theorem row_form {w : World} {base e z n : Nat} {v : Value} {vs : List Value} (h : w.ownsRow base e z v n vs) : ∃ a c, v = .slice a n c := by
  rcases h.2 with ⟨h0, h1⟩ | ⟨g, cap, cur, h1, _⟩
  · subst h1; exact ⟨none, 0, h0⟩
  · exact ⟨_, _, h1⟩
theorem Mt.few {L : List Ent} {M : Nat → Option Nat} {num : Nat → Nat} {D : List Nm} {B : List Bool} (h : Mt L M num D B) : D.length + 1 = L.length := by
  obtain ⟨r, t, e, _⟩ := h.good.root
  rw [h.names, e]; simp
theorem drD_zero (D : List Nm) (P : List UInt8) : drD D P 0 = D.filter fun x => decide (x.1 ≠ P) := rfl
theorem drD_bad {D : List Nm} {P : List UInt8} {e : Nat} (h : e ≠ 0) : drD D P e = D := if_neg h
theorem names_one (w : World) (x : Nm) : NamedIs (w.alloc (.cells #[.string (bs x.1), .int .i64 (x.2 : Int)] 90)) (.slice (some ⟨w.heap.size, 0, none⟩) 1 1) [x] := by
  refine ⟨_, 1, rfl, by simp [maxLen], fun _ => ⟨w.heap.size, 0, rfl, by simp, fun i hi => ?_⟩⟩
  have : i = 0 := by simpa using hi
  subst this
  simp [nAt]
theorem take_one {α : Type} {D : List α} {k : Nat} (h : k < D.length) : D.take (k + 1) = D.take k ++ [D[k]] := by
  rw [List.take_add_one, List.getElem?_eq_getElem h]; rfl
theorem below_set2 {G b : Nat} {w w' : World} (hb : Below G w w') (hle : G ≤ b) (x y : Value) : Below G w ((w'.setCell ⟨b, 0, none⟩ x).setCell ⟨b, 1, none⟩ y) :=
  (hb.setCell (p := ⟨b, 0, none⟩) hle x).setCell (p := ⟨b, 1, none⟩) hle y
theorem below_names {G : Nat} {w w' : World} (h : Below G w w') {v : Value} {l : List Nm} (hv : NamedIs w v l) (hG : G = w.heap.size) : NamedIs w' v l := hv.later (by rw [← hG]; exact h)

set_option maxHeartbeats 4000000 in
set_option maxRecDepth 100000 in
theorem ddrop_any (w : World) (vD vB : Value) (L : List Ent) (M : Nat → Option Nat) (num : Nat → Nat) (D : List Nm) (B : List Bool) (hD : NamedIs w vD D) (hB : BoolsIs w vB B) (hm : Mt L M num D B) (s : ByteArray) (hs : s.size ≤ maxLen) :
    Calls Tryz.prog 20 #[.agg #[vD, vB], .string s] w fun e w' => ∃ vD', e = .returned (.tuple #[.agg #[vD', vB], .int .i64 (drE L M s.data.toList : Nat)]) ∧ NamedIs w' vD' (drD D (shw (pN s.data.toList)) (drE L M s.data.toList)) ∧ Below w.heap.size w w' := by
  obtain ⟨aD, cD, rfl⟩ := hD.form
  obtain ⟨aB, cB, rfl⟩ := hB.form
  obtain ⟨nD, hnD⟩ : ∃ n, D.length = n := ⟨_, rfl⟩
  obtain ⟨nB, hnB⟩ : ∃ n, B.length = n := ⟨_, rfl⟩
  have HND : Hid (D.length = nD) := hnD
  rw [hnD] at hD ⊢
  rw [hnB] at hB ⊢
  clear hnD hnB
  obtain ⟨w1, hw1⟩ : ∃ w1, (w.alloc (.cells #[(.slice aD nD cD), (.slice aB nB cB)] 42)).alloc (.cells #[.slice none 0 0, .slice none 0 0] 42) = w1 := ⟨_, rfl⟩
  have hb1 : Below w.heap.size w w1 := by rw [← hw1]; exact (below_alloc w _).trans ((below_alloc _ _).mono (by simp))
  have hz1 : w1.heap.size = w.heap.size + 2 := by rw [← hw1]; simp
  have k0 : Box2 w1 w.heap.size (.slice aD nD cD) (.slice aB nB cB) := by rw [← hw1]; exact (box2_new w (.slice aD nD cD) (.slice aB nB cB)).later (below_alloc _ _)
  have k1 : Box2 w1 (w.heap.size + 1) (.slice none 0 0) (.slice none 0 0) := by
    rw [← hw1]
    have := box2_new (w.alloc (.cells #[(.slice aD nD cD), (.slice aB nB cB)] 42)) (.slice none 0 0) (.slice none 0 0)
    simpa using this
  have HX : Hid (∀ w', Below w1.heap.size w1 w' → Box2 w' w.heap.size (.slice aD nD cD) (.slice aB nB cB) ∧ Box2 w' (w.heap.size + 1) (.slice none 0 0) (.slice none 0 0)) :=
    fun w' hb => ⟨k0.later hb, k1.later hb⟩
  have HSp : Hid _ := fun (_ : Nat) => dspot_any w1 (.slice aD nD cD) (.slice aB nB cB) L M num D B (hD.later hb1) (hB.later hb1) hm s hs
  have HB1 : Hid (Below w.heap.size w w1) := hb1
  have HZ1 : Hid (w1.heap.size = w.heap.size + 2) := hz1
  have HW1 : Hid ((w.alloc (.cells #[(.slice aD nD cD), (.slice aB nB cB)] 42)).alloc (.cells #[.slice none 0 0, .slice none 0 0] 42) = w1) := hw1
  obtain ⟨l, hl⟩ : ∃ l, s.data.toList = l := ⟨_, rfl⟩
  rw [hl] at HSp ⊢
  have HD : Hid (NamedIs w (.slice aD nD cD) D) := hD
  clear k0 k1 hb1 hw1 hl hz1
  by_cases he : spE L M l = 0
  · obtain ⟨q, kn, d, m, hp, hqk, hk, hl, hM, hV⟩ := spE_zero hm.good he
    have h24 : nD ≤ 24 := by have := hm.few; have := hm.good.few; have := HND.out; omega
    obtain ⟨g1, g2⟩ := pN_right hp
    rw [hqk] at g1 g2
    have hT : spT L M l = shw (q ++ [kn]) := by unfold spT; rw [if_pos he, hqk]
    rw [hT, he] at HSp
    have HF : Hid _ := fun (w' : World) (hb : Below w.heap.size w w') => find_any w' (.slice aD nD cD) (.slice aB nB cB) D (hD.later hb) (bs (shw (q ++ [kn])))
    rw [data_bs, hm.find g1 g2] at HF
    have hdr : drE L M l = if look L (q ++ [kn]) = none then 5 else if kids L (q ++ [kn]) = [] then 0 else 7 := by unfold drE; rw [if_neg (by simp [he]), hqk]
    have hhas := hm.has (p := q ++ [kn]) (by simp) g2
    rw [hqk]
    have hPl : (bs (shw (q ++ [kn]))).size ≤ maxLen := by
      have := (shw_path g1 g2).2.2
      rw [Lib.size_eq, data_bs]; unfold maxLen; omega
    have HPt : Hid ((bs (shw (q ++ [kn]))).data.toList = shw (q ++ [kn])) := data_bs _
    obtain ⟨dE, hdE⟩ : ∃ n, drE L M l = n := ⟨_, rfl⟩
    rw [hdE] at hdr ⊢
    obtain ⟨kk, hkk⟩ : ∃ kk, kids L (q ++ [kn]) = kk := ⟨_, rfl⟩
    rw [hkk] at hdr hhas
    obtain ⟨lk, hlk⟩ : ∃ lk, look L (q ++ [kn]) = lk := ⟨_, rfl⟩
    rw [hlk] at hdr HF
    generalize shw (q ++ [kn]) = P at *
    obtain ⟨Y, hY⟩ : ∃ Y, bs P = Y := ⟨_, rfl⟩
    rw [hY] at HSp HF hPl HPt
    clear hp hqk hk hl hM hV g1 g2 hT he hB hm hdE hkk hlk hY
    cases lk with
    | none =>
      rw [if_pos rfl] at hdr
      subst hdr
      simp only [nO] at HF
      clear hhas
      go_enter Tryz.func20, Tryz.ntmps20
      go_wp2_with fail
      rw [HW1.out]
      refine Calls.mono (HSp.out 0) ?_
      rintro e w2 ⟨rfl, hb2⟩
      obtain ⟨hx0, hx1⟩ := HX.out w2 hb2
      obtain ⟨x0, x1, _, _⟩ := hx0.facts
      have HB2 : Hid (Below w.heap.size w w2) := HB1.out.trans (hb2.mono HB1.out.size)
      go_wp2_with fail
      refine Calls.mono (HF.out w2 HB2.out) ?_
      rintro e w3 ⟨rfl, hb3⟩
      have hx0 := hx0.later hb3
      have hx1 := hx1.later hb3
      obtain ⟨x0, x1, _, _⟩ := hx0.facts
      obtain ⟨y0, y1, f0, f1⟩ := hx1.facts
      have HB3 : Hid (Below w.heap.size w w3) := HB2.out.trans (hb3.mono HB2.out.size)
      clear hx0 hx1 hb2 hb3
      go_wp2_with fail
      refine bodyPost_ret (v := .tuple #[.agg #[.slice aD nD cD, .slice aB nB cB], .int .i64 5]) ?_ rfl ?_
      · rw [results_cell2 rfl]
        go_simp
      · have hf := below_set2 (b := w.heap.size + 1) HB3.out (by omega) (.slice aD nD cD) (.slice aB nB cB)
        exact ⟨_, rfl, by rw [drD_bad (by decide)]; exact HD.out.later hf, hf⟩
    | some i =>
      rw [if_neg (by simp)] at hdr
      have HE7 : Hid ((∃ x ∈ D, bgn x.1 P = true) → dE = 7) := fun h => by rw [hdr, if_neg (hhas.1 h)]
      have HE0 : Hid ((¬ ∃ x ∈ D, bgn x.1 P = true) → dE = 0) := fun h => by rw [hdr, if_pos (Classical.byContradiction fun hc => h (hhas.2 hc))]
      simp only [nO] at HF
      obtain ⟨z, hz⟩ : ∃ z, num i = z := ⟨_, rfl⟩
      rw [hz] at HF
      have hz0 : ¬ ((z : Int) < 0) := by omega
      clear hz hdr hhas
      go_enter Tryz.func20, Tryz.ntmps20
      go_wp2_with fail
      rw [HW1.out]
      refine Calls.mono (HSp.out 0) ?_
      rintro e w2 ⟨rfl, hb2⟩
      obtain ⟨hx0, hx1⟩ := HX.out w2 hb2
      obtain ⟨x0, x1, _, _⟩ := hx0.facts
      have HB2 : Hid (Below w.heap.size w w2) := HB1.out.trans (hb2.mono HB1.out.size)
      go_wp2_with fail
      refine Calls.mono (HF.out w2 HB2.out) ?_
      rintro e w3 ⟨rfl, hb3⟩
      have HB3 : Hid (Below w.heap.size w w3) := HB2.out.trans (hb3.mono HB2.out.size)
      have HX0 : Hid (∀ w', Below w3.heap.size w3 w' → Box2 w' w.heap.size (.slice aD nD cD) (.slice aB nB cB)) := fun w' hb => (hx0.later hb3).later hb
      have HX1 : Hid (∀ w', Below w3.heap.size w3 w' → Box2 w' (w.heap.size + 1) (.slice none 0 0) (.slice none 0 0)) := fun w' hb => (hx1.later hb3).later hb
      have hG3 : w.heap.size + 2 ≤ w3.heap.size := by have := hb2.size; have := hb3.size; have := HZ1.out; omega
      obtain ⟨a', c', b, o, e', hl, ha, _, hc⟩ := (HD.out.later HB3.out).where
      rw [HND.out] at e' hl ha hc
      cases e'
      have HA : Hid (0 < nD → aD = some ⟨b, o, none⟩) := ha
      have HC : Hid (∀ i, i < nD → w3.cell? ⟨b, o + i * 2, none⟩ = some (.string (bs (nAt D i).1)) ∧ w3.cell? ⟨b, o + i * 2 + 1, none⟩ = some (.int .i64 ((nAt D i).2 : Int))) := hc
      unfold maxLen at hl
      clear hx0 hx1 hb2 hb3 x0 x1 ha hc
      go_wp2_with fail
      go_loopw [5, 8, 9] (fun r nm i wr => ∃ (k : Nat) (xs : List Nm), k ≤ nD ∧ r = .int .i64 0 ∧ i = .int .i64 k ∧ Hid (wr.ownsRow w3.heap.size 90 2 nm xs.length (ndc xs)) ∧ xs = (D.take k).filter (fun x => decide (x.1 ≠ P)) ∧ Hid (∀ x ∈ D.take k, bgn x.1 P = false) ∧ Hid (Below w3.heap.size w3 wr)) (fun _ _ i _ => nD - (intOf i).toNat)
      case atStart => exact ⟨0, [], Nat.zero_le _, rfl, rfl, World.ownsRow_nil _ _ _ _, rfl, fun x hx => by simp at hx, Below.refl _ _⟩
      case round =>
        obtain ⟨k, xs, hk, rfl, rfl, HO, hxs, HBg, HB⟩ := hrel
        have HXs : Hid (xs = (D.take k).filter fun x => decide (x.1 ≠ P)) := hxs
        obtain ⟨x0, x1, g0, g1⟩ := (HX0.out wr HB.out).facts
        obtain ⟨y0, y1, f0, f1⟩ := (HX1.out wr HB.out).facts
        have hxl : xs.length ≤ k := by rw [hxs]; have := List.length_filter_le (fun x : Nm => decide (x.1 ≠ P)) (D.take k); rw [List.length_take] at this; omega
        clear hxs
        by_cases hlt : k < nD
        · have haa := HA.out (by omega)
          subst haa
          have n1 := keepU HB.out (HC.out k hlt).1
          have n2 := keepU HB.out (HC.out k hlt).2
          have hkD : k < D.length := by have := HND.out; omega
          have HTk : Hid (D.take (k + 1) = D.take k ++ [nAt D k]) := by
            show D.take (k + 1) = _
            rw [take_one hkD, nAt_lt hkD]
          have HN1 : Hid (∀ w : World, NamedIs (w.alloc (.cells #[.string (bs (nAt D k).1), .int .i64 ((nAt D k).2 : Int)] 90)) (.slice (some ⟨w.heap.size, 0, none⟩) 1 1) [nAt D k]) := fun w => names_one w _
          have HBs : Hid _ := fun (_ : Nat) => begins_any wr (bs (nAt D k).1) Y hPl
          rw [data_bs, HPt.out] at HBs
          by_cases hbg : bgn (nAt D k).1 P = true
          · have h7 := HE7.out ⟨_, nAt_mem hkD, hbg⟩
            subst h7
            rw [hbg] at HBs
            clear hbg HN1 HTk hkD
            generalize bs (nAt D k).1 = y at *
            generalize (nAt D k).2 = yz at *
            go_wp2_with fail
            refine Calls.mono (HBs.out 0) ?_
            rintro e w' ⟨rfl, rfl⟩
            go_wp2_with fail
            refine bodyPost_ret (v := .tuple #[.agg #[.slice (some ⟨b, o, none⟩) nD cD, .slice aB nB cB], .int .i64 7]) ?_ rfl ?_
            · rw [results_cell2 rfl]
              go_simp
            · have hf := below_set2 (b := w.heap.size + 1) (HB3.out.trans (HB.out.mono HB3.out.size)) (by omega) (.slice (some ⟨b, o, none⟩) nD cD) (.slice aB nB cB)
              exact ⟨_, rfl, by rw [drD_bad (by decide)]; exact HD.out.later hf, hf⟩
          · have hbf : bgn (nAt D k).1 P = false := by simpa using hbg
            rw [hbf] at HBs
            have HBg1 : Hid (∀ x ∈ D.take (k + 1), bgn x.1 P = false) := by
              show ∀ x ∈ D.take (k + 1), bgn x.1 P = false
              rw [HTk.out]
              intro x hx
              rcases List.mem_append.1 hx with hx | hx
              · exact HBg.out x hx
              · rw [List.mem_singleton.1 hx]; exact hbf
            by_cases heq : (nAt D k).1 = P
            · have hq : ((bs (nAt D k).1).toList == Y.toList) = true := by rw [bs_list, Lib.toList_data, HPt.out, heq]; simp
              have HX1 : Hid (xs = (D.take (k + 1)).filter fun x => decide (x.1 ≠ P)) := by
                show xs = _
                rw [HTk.out, List.filter_append, ← HXs.out]; simp [heq]
              clear heq hbg hbf HN1 HTk hkD
              generalize bs (nAt D k).1 = y at *
              generalize (nAt D k).2 = yz at *
              go_wp2_with fail
              refine Calls.mono (HBs.out 0) ?_
              rintro e w' ⟨rfl, rfl⟩
              go_wp2_with fail
              go_roundw
              case rel => exact ⟨k + 1, xs, by omega, rfl, by go_num, HO, HX1.out, HBg1, HB⟩
              case measure => simp [intOf]; omega
            · have hq : ((bs (nAt D k).1).toList == Y.toList) = false := by rw [bs_list, Lib.toList_data, HPt.out]; simp [heq]
              have HX1 : Hid (xs ++ [nAt D k] = (D.take (k + 1)).filter fun x => decide (x.1 ≠ P)) := by
                show xs ++ [nAt D k] = _
                rw [HTk.out, List.filter_append, ← HXs.out]; simp [heq]
              clear heq hbg hbf HTk hkD
              generalize hx : nAt D k = x at *
              obtain ⟨y, yz⟩ := x
              dsimp only at *
              generalize bs y = yb at *
              go_wp2_with fail
              refine Calls.mono (HBs.out 0) ?_
              rintro e w' ⟨rfl, rfl⟩
              go_wp2_with (at_builtin; refine wpList_append_names rfl (.tmp 49) (.tmp 55) rfl w3.heap.size u8 xs.length xs rfl (HO.out.alloc _) _ [(y, yz)] rfl (HN1.out wr) ?q1 ?q2 ?q3)
              case q1 => simp; omega
              case q2 => have := HB.out.size; simp; omega
              case q3 =>
                intro v1 w4 hown hb4
                have HO1 : Hid (w4.ownsRow w3.heap.size 90 2 v1 (xs ++ [(y, yz)]).length (ndc (xs ++ [(y, yz)]))) := by rw [List.length_append]; exact hown
                have HB4 : Hid (Below w3.heap.size w3 w4) := HB.out.trans (((below_alloc wr _).mono HB.out.size).trans hb4)
                clear hown hb4
                go_wp2_with fail
                go_roundw
                case rel => exact ⟨k + 1, _, by omega, rfl, by go_num, HO1, HX1.out, HBg1, HB4⟩
                case measure => simp [intOf]; omega
        · have hkn : k = nD := by omega
          have hall : D.take k = D := List.take_of_length_le (by have := HND.out; omega)
          have h0 := HE0.out (fun ⟨x, hx, hb⟩ => by have := HBg.out x (by rw [hall]; exact hx); rw [hb] at this; cases this)
          subst h0
          have HXD : Hid (xs = drD D P 0) := by
            show xs = _
            rw [HXs.out, hall, drD_zero]
          obtain ⟨a8, c8, rfl⟩ := row_form HO.out
          clear hall hkn
          go_wp2_with fail
          refine bodyPost_ret (v := .tuple #[.agg #[.slice a8 xs.length c8, .slice aB nB cB], .int .i64 0]) ?_ rfl ?_
          · rw [results_cell2 rfl]
            go_simp
          · have hf := below_set2 (b := w.heap.size + 1) ((HB3.out.trans (HB.out.mono HB3.out.size)).setCell (p := ⟨w.heap.size, 0, none⟩) (Nat.le_refl _) (.slice a8 xs.length c8)) (by omega) (.slice a8 xs.length c8) (.slice aB nB cB)
            refine ⟨_, rfl, ?_, hf⟩
            rw [← HXD.out]
            refine names_own (base := w3.heap.size) (own_off (own_off (own_off HO.out ?_ _) ?_ _) ?_ _) (by unfold maxLen; omega)
            · show w.heap.size < _; omega
            · show w.heap.size + 1 < _; omega
            · show w.heap.size + 1 < _; omega
  · have hE : drE L M l = spE L M l := if_pos he
    have hT : spT L M l = [] := by unfold spT; rw [if_neg he]
    have hfin : drE L M l ≠ 0 := by rw [hE]; exact he
    rw [drD_bad hfin, hE]
    rw [hT] at HSp
    have hz : ¬ ((spE L M l : Int) = 0) := by omega
    generalize (spE L M l : Int) = E at *
    clear hE hT hfin he hD hB hm
    go_enter Tryz.func20, Tryz.ntmps20
    go_wp2_with fail
    rw [HW1.out]
    refine Calls.mono (HSp.out 0) ?_
    rintro e w2 ⟨rfl, hb2⟩
    obtain ⟨hx0, hx1⟩ := HX.out w2 hb2
    obtain ⟨x0, x1, _, _⟩ := hx0.facts
    obtain ⟨y0, y1, f0, f1⟩ := hx1.facts
    have HB2 : Hid (Below w.heap.size w w2) := HB1.out.trans (hb2.mono HB1.out.size)
    clear hx0 hx1 hb2
    go_wp2_with fail
    refine bodyPost_ret (v := .tuple #[.agg #[.slice aD nD cD, .slice aB nB cB], .int .i64 E]) ?_ rfl ?_
    · rw [results_cell2 rfl]
      go_simp
    · have hf := below_set2 (b := w.heap.size + 1) HB2.out (by omega) (.slice aD nD cD) (.slice aB nB cB)
      exact ⟨_, rfl, HD.out.later hf, hf⟩

end Go.Proofs.YtdlmkienogimgaaGreatDoor
