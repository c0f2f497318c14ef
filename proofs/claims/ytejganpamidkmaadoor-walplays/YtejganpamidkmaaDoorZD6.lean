/- This text says what it means that a play's disk and the document's lie in memory beside each other, and what stays of it behind each step; it speaks of no call; the conditions are those that each fact names. -/
import Derived.Test.YtejganpamidkmaaDoorZD5
namespace Go.Proofs.YtejganpamidkmaaDoor
open Go.RowKit Go.Deep Go.Maps

/-- A disk in memory that was made behind a world, whose memory is as it was. -/
structure OnD (w wr : World) (g : Nat) (v : Value) (d : Dk) : Prop where
  disk : DiskM wr w.heap.size g v d
  old : Below w.heap.size w wr
theorem OnD.later {w wr w' : World} {g : Nat} {v : Value} {d : Dk} (h : OnD w wr g v d) (hb : Below wr.heap.size wr w') : OnD w w' g v d := ⟨h.disk.later hb, h.old.trans (hb.mono h.old.size)⟩
theorem OnD.step {w wr w' : World} {g : Nat} {v v' : Value} {d d' : Dk} (h : OnD w wr g v d) (hs : Step wr w' w.heap.size g v v' d') : OnD w w' g v' d' :=
  ⟨hs.disk, h.old.trans (hs.stay.below (fun _ hx => (h.disk.fp hx).1) h.old.size)⟩
theorem OnD.sync {w wr w' : World} {g : Nat} {v : Value} {d d' : Dk} (h : OnD w wr g v d) (hd : DiskM w' w.heap.size g v d') (hs : Stay (fun x => x = g) wr w') : OnD w w' g v d' :=
  ⟨hd, h.old.trans (hs.below (by rintro x rfl; exact h.disk.low) h.old.size)⟩

/-- Where a row's slice lies. -/
theorem RowsIs.row {w : World} {a : Option Addr} {n c : Nat} {rs : List (List Int)} (h : RowsIs w (.slice a n c) rs) (i : Nat) (hi : i < n) :
    ∃ b o v, a = some ⟨b, o, none⟩ ∧ b < w.heap.size ∧ w.cell? ⟨b, o + i, none⟩ = some v ∧ SliceIs w v (rowAt rs i) := by
  obtain ⟨a', c', e, hl, hx⟩ := h
  cases e
  obtain ⟨b, o, ha, hb, hc⟩ := hx (fun e => by rw [e] at hi; simp at hi)
  obtain ⟨v, h1, h2⟩ := hc i hi
  exact ⟨b, o, v, ha, hb, h1, h2⟩
theorem row_cells {w : World} {v : Value} {xs : List Int} {z : Nat} (h : SliceIs w v xs) (hl : xs.length = z) (hz : 0 < z) :
    ∃ b o c, v = .slice (some ⟨b, o, none⟩) z c ∧ b < w.heap.size ∧ ∀ i, i < z → w.cell? ⟨b, o + i, none⟩ = some (.int .i64 (nth xs i)) := by
  obtain ⟨a, c, rfl, _, hx⟩ := h
  obtain ⟨b, o, ha, hb, hc⟩ := hx (fun e => by rw [e] at hl; simp at hl; omega)
  subst ha
  exact ⟨b, o, c, by rw [hl], hb, fun i hi => hc i (by omega)⟩

/-- The blocks that a play turns. -/
def Thr (g : Nat) (v : Value) (X x : Nat) : Prop := Fp g v x ∨ x = X

/-- The program's disk, and the document's, each with what it holds. -/
structure PlW (w wr : World) (g : Nat) (v : Value) (X : Nat) (vh vl : Value) (d q : Dk) : Prop where
  on : OnD w wr g v d
  box : Box3 wr X vh vl (.int .i64 (q.s : Int))
  home : KP (Thr g v X) wr (fun W => SliceIs W vh (lst q.H))
  log : KP (Thr g v X) wr (fun W => PutsIs W vl q.L)
  ap : ¬ Fp g v X
  low : w.heap.size ≤ X
theorem PlW.lt {w wr : World} {g X : Nat} {v vh vl : Value} {d q : Dk} (h : PlW w wr g v X vh vl d q) : ∀ x, Thr g v X x → x < wr.heap.size := by
  rintro x (e | rfl)
  · exact (h.on.disk.fp e).2
  · exact h.box.lt
theorem PlW.later {w wr w' : World} {g X : Nat} {v vh vl : Value} {d q : Dk} (h : PlW w wr g v X vh vl d q) (hb : Below wr.heap.size wr w') : PlW w w' g v X vh vl d q :=
  ⟨h.on.later hb, h.box.later hb, h.home.step (Stay.of hb) fun _ e => .inl e, h.log.step (Stay.of hb) fun _ e => .inl e, h.ap, h.low⟩
theorem PlW.prog {w wr w' : World} {g X : Nat} {v v' vh vl : Value} {d d' q : Dk} (h : PlW w wr g v X vh vl d q) (hs : Step wr w' w.heap.size g v v' d') : PlW w w' g v' X vh vl d' q := by
  have hT : ∀ x, Thr g v' X x → Thr g v X x ∨ wr.heap.size ≤ x := by
    rintro x (e | rfl)
    · rcases hs.fp x e with k | k
      · exact .inl (.inl k)
      · exact .inr k
    · exact .inl (.inr rfl)
  have hS : Stay (Thr g v X) wr w' := hs.stay.sub fun _ e => .inl e
  refine ⟨h.on.step hs, h.box.same (hs.stay.block X h.box.lt h.ap), h.home.step hS hT, h.log.step hS hT, fun e => ?_, h.low⟩
  rcases hs.fp X e with k | k
  · exact h.ap k
  · have := h.box.lt; omega
theorem PlW.sync {w wr w' : World} {g X : Nat} {v vh vl : Value} {d d' q : Dk} (h : PlW w wr g v X vh vl d q) (hd : DiskM w' w.heap.size g v d') (hs : Stay (fun x => x = g) wr w') : PlW w w' g v X vh vl d' q := by
  have hS : Stay (Thr g v X) wr w' := hs.sub fun _ e => .inl (.inl e)
  exact ⟨h.on.sync hd hs, h.box.same (hs.block X h.box.lt fun e => h.ap (.inl e)), h.home.step hS fun _ e => .inl e, h.log.step hS fun _ e => .inl e, h.ap, h.low⟩
theorem OnD.turn {w wr w' : World} {g X : Nat} {v : Value} {d : Dk} (h : OnD w wr g v d) (hs : Stay (fun x => x = X) wr w') (hn : ¬ Fp g v X) (hl : w.heap.size ≤ X) : OnD w w' g v d :=
  ⟨h.disk.stay hs fun x hx e => hn (e ▸ hx), h.old.trans (hs.below (by rintro x rfl; exact hl) h.old.size)⟩
theorem PlW.doc {w wr w2 : World} {g X : Nat} {v vh vl vh' vl' : Value} {d q q' : Dk} (h : PlW w wr g v X vh vl d q) (hb : Below wr.heap.size wr w2)
    (hh : (vh' = vh ∧ lst q'.H = lst q.H) ∨ w2.ownsRow wr.heap.size 3 1 vh' 8 (cellsOf (lst q'.H))) (hl : (vl' = vl ∧ q'.L = q.L) ∨ (vl' = .slice none 0 0 ∧ q'.L = []) ∨ w2.ownsRow wr.heap.size 35 3 vl' q'.L.length (plc q'.L)) :
    PlW w (((w2.setCell ⟨X, 0, none⟩ vh').setCell ⟨X, 1, none⟩ vl').setCell ⟨X, 2, none⟩ (.int .i64 (q'.s : Int))) g v X vh' vl' d q' := by
  have h2 := h.later hb
  have hs := stay_set3 (S := fun x => x = X) w2 (b := X) rfl vh' vl' (.int .i64 (q'.s : Int))
  have hS : Stay (Thr g v X) w2 _ := hs.sub fun _ e => .inr e
  refine ⟨h2.on.turn hs h.ap h.low, h2.box.set _ _ _, ?_, ?_, h.ap, h.low⟩
  · have : KP (Thr g v X) w2 (fun W => SliceIs W vh' (lst q'.H)) := by
      rcases hh with ⟨rfl, e⟩ | k
      · rw [e]; exact h2.home
      · exact KP.list k (by decide) h.lt
    exact this.step hS fun _ e => .inl e
  · have : KP (Thr g v X) w2 (fun W => PutsIs W vl' q'.L) := by
      rcases hl with ⟨rfl, e⟩ | ⟨rfl, e⟩ | k
      · rw [e]; exact h2.log
      · rw [e]; exact fun W _ => ⟨none, 0, rfl, Nat.zero_le _, .inl rfl, fun h => absurd rfl h⟩
      · exact KP.puts k h.lt
    exact this.step hS fun _ e => .inl e
theorem PlW.syn {w wr : World} {g X : Nat} {v vh vl : Value} {d q : Dk} (h : PlW w wr g v X vh vl d q) (n : Nat) : PlW w (wr.setCell ⟨X, 2, none⟩ (.int .i64 (n : Int))) g v X vh vl d ⟨q.H, q.L, n⟩ := by
  have hs : Stay (fun x => x = X) wr (wr.setCell ⟨X, 2, none⟩ (.int .i64 (n : Int))) := Stay.set (S := fun x => x = X) wr (a := ⟨X, 2, none⟩) _ rfl
  have hS : Stay (Thr g v X) wr _ := hs.sub fun _ e => .inr e
  exact ⟨h.on.turn hs h.ap h.low, h.box.set2 _, h.home.step hS fun _ e => .inl e, h.log.step hS fun _ e => .inl e, h.ap, h.low⟩
theorem PlW.new {w w1 w2 : World} {g : Nat} {vh : Value} (h : OnD w w1 g (.slice none 0 0) dk0) (hh : w2.ownsRow w1.heap.size 3 1 vh 8 (cellsOf (lst nV))) (hb : Below w1.heap.size w1 w2) :
    PlW w (w2.alloc (.cells #[vh, .slice none 0 0, .int .i64 0] 28)) g (.slice none 0 0) w2.heap.size vh (.slice none 0 0) dk0 dk0 := by
  have h2 := h.later hb
  have hlt : ∀ x, Fp g (.slice none 0 0) x → x < w1.heap.size := fun x e => (h.disk.fp e).2
  refine ⟨h2.later (below_one _ _), box3_new _ _ _ _, ?_, fun W _ => ⟨none, 0, rfl, Nat.zero_le _, .inl rfl, fun h => absurd rfl h⟩, fun e => by have := (h2.disk.fp e).2; omega, h2.old.size⟩
  have : KP (Fp g (.slice none 0 0)) w2 (fun W => SliceIs W vh (lst nV)) := KP.list hh (by decide) hlt
  refine this.step (Stay.of (below_one _ _)) ?_
  rintro x (e | rfl)
  · exact .inl e
  · exact .inr (Nat.le_refl _)

/-- Values that were told, of which one is as the other. -/
theorem same_lists (w : World) (u v : Value) (xs ys : List Int) (hu : SliceIs w u xs) (hv : SliceIs w v ys) (e : xs = ys) :
    Calls Tryd.prog 16 #[u, v] w fun e w' => e = .returned (.bool true) ∧ Below w.heap.size w w' := by
  subst e
  have H1 := ints_any w _ _ _ _ hu hv
  rw [show eqB xs xs = true by simp [eqB]] at H1
  refine H1.mono ?_
  rintro e w' ⟨rfl, q, rfl⟩
  exact ⟨rfl, below_drew _ _ _⟩
theorem VlAt.is {w : World} {B : Nat} {H : Nat → Nat} (h : VlAt w B H) : SliceIs w (.slice (some ⟨B, 0, none⟩) 8 8) (lst H) :=
  ⟨_, 8, by rw [lst_len], by rw [lst_len]; unfold maxLen; omega, fun _ => ⟨B, 0, rfl, h.lt, fun i hi => by rw [lst_len] at hi; rw [Nat.zero_add, h.cell hi, lst_nth hi]⟩⟩

end Go.Proofs.YtejganpamidkmaaDoor
