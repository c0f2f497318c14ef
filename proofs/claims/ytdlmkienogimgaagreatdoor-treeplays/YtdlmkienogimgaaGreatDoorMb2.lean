/- This text joins 15 parts of a proof. (1) This text proves what the document's own platterholdref2.Name and platterholdref2.Parts answer: whether a text is a name, its names, and what is wrong; old memory is as it was; the only condition is that a text is no longer than texts can be. (2) This text proves what the document's own platterholdref2.Parts answers: a path's names, and what is wrong; old memory is as it was; the only condition is that a text is no longer than texts can be. (3) This text proves how the document's own tree lies in memory (names with numbers, and truth values), and how it is held against the program's tree; it speaks of no call; no condition. (4) This text proves what the document's find, begins and slashes answer; old memory is as it was; the conditions are that the document's tree lies there and that a text is no longer than texts can be. (5) This text proves what the document's At answers: the number of what some names lead to, or what is wrong; old memory is as it was; the conditions are that the document's tree lies there and is the program's, and that the names are right. (6) This text proves what the document's Parts, Thing and Spot answer; old memory is as it was; the conditions are that the document's tree lies there and is the program's, and that a text is no longer than texts can be. (7) This text proves what the document's Spot answers: a name's whole path, or what is wrong; old memory is as it was; the conditions are those of the document's At. (8) This text proves what the document's Many answers: how many names a thing has; old memory is as it was; the conditions are that the document's tree lies there. (9) This text proves plain facts on paths as texts: when one begins another one, and how many / it has; it speaks of no call; no condition. (10) This text proves what the document's NewTree answers: a tree with a root alone; old memory is as it was; no condition. (11) This text proves plain facts on the document's way to sort: the least one that is left comes next; it speaks of no call; no condition. (12) This text proves that the document's tree stays the program's one as names are put, dropped and moved; it speaks of no call; no condition. (13) This text proves that a directory has something just where the document finds a path that begins with its own, and that the document's tree stays the program's one as names are moved; it speaks of no call; no condition. (14) This text proves what append does to the document's names and truth values: the new slice is the call's own and holds both lists; old memory is as it was; the conditions are that the slices lie there and are short. (15) This text proves what append does to the document's truth values: the new slice is the call's own and holds both lists; old memory is as it was; the conditions are that the slices lie there and are short. -/
import Derived.Test.YtdlmkienogimgaaGreatDoorMb1
import Derived.Test.YtdlmkienogimgaaGreatDoorMa8
import Derived.Laws.AppendOwnNone
import Derived.Test.YtdlmkienogimgaaGreatDoorQ6
namespace Go.Proofs.YtdlmkienogimgaaGreatDoor
open Go.RowKit Go.Deep Go.Shelf

set_option maxHeartbeats 2000000 in
theorem rname_any (w : World) (s : ByteArray) (hs : s.size ≤ maxLen) : Calls Tryz.prog 56 #[.string s] w fun e w' => e = .returned (.bool (isN s.data.toList)) ∧ w = w' := by
  unfold maxLen at hs
  obtain ⟨b, hb⟩ : ∃ b, isN s.data.toList = b := ⟨_, rfl⟩
  have HB : Hid (isN s.data.toList = b) := hb
  rw [hb]
  clear hb
  go_enter Tryz.func56, Tryz.ntmps56
  go_wp2
  go_loop [3] (fun i => ∃ k : Nat, k ≤ s.size ∧ i = .int .i64 k ∧ ∀ (j : Nat) (hj : j < s.size), j < k → isL s[j] = true) (fun i => s.size - (intOf i).toNat)
  case atStart => exact ⟨0, Nat.zero_le _, rfl, fun j _ hj => absurd hj (Nat.not_lt_zero _)⟩
  case round =>
    obtain ⟨k, hk, rfl, hall⟩ := hrel
    have HA : Hid (∀ (j : Nat) (hj : j < s.size), j < k → isL s[j] = true) := hall
    clear hall
    by_cases hlt : k < s.size
    · by_cases h3 : 97 ≤ s[k].toNat
      · by_cases h4 : s[k].toNat ≤ 122
        · go_wp2
          go_round
          case rel =>
            refine ⟨k + 1, by omega, by go_num, fun j hj hj2 => ?_⟩
            by_cases e : j = k
            · subst e; simp [isL, h3, h4]
            · exact HA.out j hj (by omega)
          case measure => simp [intOf]; omega
        · go_wp2
          go_ret
          refine ⟨?_, rfl⟩
          rw [← HB.out, isN_bad hlt (by simp [isL]; omega)]; rfl
      · go_wp2
        go_ret
        refine ⟨?_, rfl⟩
        rw [← HB.out, isN_bad hlt (by simp [isL]; omega)]; rfl
    · have hkn : k = s.size := by omega
      subst hkn
      by_cases h1 : s.size < 1
      · go_wp2
        go_ret
        refine ⟨?_, rfl⟩
        rw [← HB.out, isN_short h1]; rfl
      · by_cases h2 : 4 < s.size
        · go_wp2
          go_ret
          refine ⟨?_, rfl⟩
          rw [← HB.out, isN_long h2]
          exact congrArg (fun b => Ending.returned (Value.bool b)) (by simp; omega)
        · go_wp2
          go_ret
          refine ⟨?_, rfl⟩
          rw [← HB.out, isN_good h1 h2 fun j hj => HA.out j hj hj]
          exact congrArg (fun b => Ending.returned (Value.bool b)) (by simp; omega)

theorem run_append_nil {P : Program} {w : World} (base : Nat) (t ty e : TypeId) (i : TypeInfo) (size c : Nat) (ht : P.underlying t = some (.slice e)) (hi : P.info? e = some i)
    (v : Value) (n : Nat) (xs : List Value) (hown : w.ownsRow base e size v n xs) : (Builtin.append_ #[t, t] ty #[v, .slice none 0 c]).run P w = .ok v w := by
  rcases hown.2 with ⟨rfl, rfl⟩ | ⟨g, cap, cur, rfl, _, _, hnc, _⟩
  · simp [Builtin.append_, run_underlying ht, sizeOf, typeInfo, hi, Builtin.lenOf, Builtin.firstCells]
  · simp [Builtin.append_, run_underlying ht, sizeOf, typeInfo, hi, Builtin.lenOf, Builtin.firstCells, hnc, storeCells]

theorem strs_read {w : World} {b o : Nat} {xs : List (List UInt8)} (hc : ∀ i, i < xs.length → w.cell? ⟨b, o + i, none⟩ = some (.string (bs (sth xs i)))) : ∀ j u, (cellsS xs)[j]? = some u → w.cell? ((⟨b, o, none⟩ : Addr).add j) = some u := by
  intro j u hj
  have hl : j < xs.length := by have := (List.getElem?_eq_some_iff.1 hj).1; rwa [cellsS_len] at this
  rw [cellsS_get hl] at hj
  rw [addr_off, hc j hl]
  exact hj

/-- append of any slice of texts onto a slice of the call's own. -/
theorem wpList_append_strs {ops : Array Oper} {rest : List Oper} {o : Oper} {a : Act} {w : World} {Q : Exit → Act → World → Prop} (hgd : o.guard = none) (s x : Operand)
    (ho : o.op = .call { callee := .builtin .append, args := #[s, x], argTypes := #[26, 26] })
    (base : Nat) (v : Value) (n : Nat) (xs : List (List UInt8)) (hs : a.eval s = v) (hown : w.ownsRow base 9 1 v n (cellsS xs)) (y : Value) (ys : List (List UInt8)) (hx : a.eval x = y) (hy : StrsIs w y ys)
    (h63 : n + ys.length ≤ 1000000) (hbase : base ≤ w.heap.size)
    (h : ∀ v' w', w'.ownsRow base 9 1 v' (n + ys.length) (cellsS (xs ++ ys)) → Below base w w' → wpList Tryz.prog ops Q rest (a.put o.dst v') w') : wpList Tryz.prog ops Q (o :: rest) a w := by
  obtain ⟨ti, hti, hz0, hz1, hz2⟩ := info_parts Tryz.info9
  obtain ⟨ad, cap, rfl, _, hl, hi⟩ := hy
  by_cases h0 : ys = []
  · subst h0
    cases ad with
    | none =>
      refine wpList_plain hgd fun K hK => ?_
      have hrun := run_append_nil (P := Tryz.prog) (w := w) base 26 o.type 9 ti 1 cap Tryz.underlying26 hti v n _ hown
      unfold Oper.wp
      simp [execOp, ho, resolve, invoke, builtin, hs, hx, hrun, Result.andThen]
      refine hK _ _ (h v w ?_ (Below.refl _ _))
      simpa [cellsS] using hown
    | some ad =>
      refine wpList_append_own w hgd s x 26 ho base 9 ti (.string ByteArray.empty) 1 16 Tryz.underlying26 hti hz0 hz1 hz2 rfl (by decide) v n (cellsS xs) hs hown ad 0 cap [] hx rfl (fun j u hj => by cases hj) (fun u hu => by cases hu) (by unfold maxLen; simp at h63; omega) (by simp at h63; omega) hbase ?_
      intro v' w' h1 h2 _
      refine h v' w' ?_ ((Below.refl _ _).grown h2 hbase (fun k e => (hown.lt k e).1))
      simpa using h1
  · obtain ⟨b, off, rfl, _, hc⟩ := hi h0
    refine wpList_append_own w hgd s x 26 ho base 9 ti (.string ByteArray.empty) 1 16 Tryz.underlying26 hti hz0 hz1 hz2 rfl (by decide) v n (cellsS xs) hs hown ⟨b, off, none⟩ ys.length cap (cellsS ys) hx (by rw [cellsS_len, Nat.mul_one]) (strs_read hc) (cellsS_one ys) (by unfold maxLen; omega) (by omega) hbase ?_
    intro v' w' h1 h2 _
    refine h v' w' ?_ ((Below.refl _ _).grown h2 hbase (fun k e => (hown.lt k e).1))
    have e : cellsS xs ++ cellsS ys = cellsS (xs ++ ys) := by simp [cellsS]
    rw [← e]
    exact h1


end Go.Proofs.YtdlmkienogimgaaGreatDoor

namespace Go.Proofs.YtdlmkienogimgaaGreatDoor
open Go.RowKit Go.Deep Go.Shelf

theorem u8_eq (c : UInt8) : (c = 47) ↔ ((c.toNat : Int) = 47) := by
  constructor
  · rintro rfl; rfl
  · intro h
    have h' : c.toNat = 47 := by omega
    exact UInt8.toNat_inj.1 h'
theorem pre_get (s : ByteArray) (h : 0 < s.size) : [47].isPrefixOf s.data.toList = ((s[0].toNat : Int) == 47) := by
  have h0 := get_data s 0 h
  cases e : s.data.toList with
  | nil => rw [e] at h0; simp at h0
  | cons c r =>
    rw [e] at h0
    have hc : c = s[0] := by simpa using h0
    rw [← hc]
    by_cases h47 : c = 47
    · subst h47; rfl
    · have : ¬ ((c.toNat : Int) = 47) := fun h => h47 ((u8_eq c).2 h)
      have e2 : ((c.toNat : Int) == 47) = false := by simpa using this
      rw [e2]
      simp [List.isPrefixOf, Ne.symm h47]
theorem at_get {s : ByteArray} {k : Nat} (h : k < s.size) (h' : k < s.data.toList.length) : s.data.toList[k] = s[k] := by
  have := get_data s k h
  rw [List.getElem?_eq_getElem h'] at this
  exact Option.some.inj this
theorem ext_seg (s : ByteArray) (f k : Nat) : s.extract f k = bs (seg s.data.toList f k) := by
  rw [← bs_data (s.extract f k), Lib.extract_data]; rfl

set_option maxRecDepth 100000 in
set_option maxHeartbeats 8000000 in
theorem rparts_loop (w : World) (s : ByteArray) (h60 : s.size ≤ 60) (h0 : 0 < s.size) (hp : ((s[0].toNat : Int) == 47) = true) :
    Calls Tryz.prog 27 #[.string s] w fun e w' => ∃ v, e = .returned (.tuple #[v, .int .i64 (pE s.data.toList : Int)]) ∧ StrsIs w' v (nms s.data.toList) ∧ Below w.heap.size w w' := by
  have hsz : s.size = s.data.toList.length := Lib.size_eq s
  have hpre : [47].isPrefixOf s.data.toList = true := by rw [pre_get s h0]; exact hp
  obtain ⟨r, hr⟩ := (pre_iff _).1 hpre
  obtain ⟨R, hR⟩ : ∃ R, R = rn [] [] r := ⟨_, rfl⟩
  have hdr : s.data.toList.drop 1 = r := by rw [hr]; rfl
  have HBad : Hid (R = none → pE s.data.toList = 2 ∧ nms s.data.toList = []) := by
    intro h
    have h2 : (spl (s.data.toList.drop 1)).any noP = true := by
      rw [hdr]
      rw [hR, rn_all] at h
      split at h
      · assumption
      · cases h
    have := pE_bad (by omega) hpre h2
    exact ⟨this, nms_none (by rw [this]; decide)⟩
  have HGood : Hid (∀ o, R = some o → (8 < o.length → pE s.data.toList = 4 ∧ nms s.data.toList = []) ∧ (¬ 8 < o.length → pE s.data.toList = 0 ∧ nms s.data.toList = o)) := by
    intro o h
    rw [hR, rn_all, ← hdr] at h
    split at h
    · cases h
    · rename_i h2
      have h2' : (spl (s.data.toList.drop 1)).any noP = false := by simpa using h2
      have ho := Option.some.inj h
      refine ⟨fun h8 => ?_, fun h8 => ?_⟩
      · have := pE_many (by omega) hpre h2' (by rw [ho]; exact h8)
        exact ⟨this, nms_none (by rw [this]; decide)⟩
      · have := pE_fine (by omega) hpre h2' (by rw [ho]; exact h8)
        exact ⟨this, by rw [nms_some this, ho]⟩
  have HS0 : Hid (St s.data.toList R 1 1 []) := by rw [hR, hr]; exact St.first r
  have HOn : Hid (∀ k f o, St s.data.toList R k f o → ∀ h : k < s.size, ((s[k].toNat : Int) == 47) = false → St s.data.toList R (k + 1) f o) := by
    intro k f o h hk hc
    refine h.on (by omega) ?_
    rw [at_get hk]
    exact fun e => by rw [(u8_eq _).1 e] at hc; cases hc
  have HCut : Hid (∀ k f o, St s.data.toList R k f o → k ≤ s.size → (∀ h : k < s.size, ((s[k].toNat : Int) == 47) = true) → (noP (seg s.data.toList f k) = true → R = none) ∧ (noP (seg s.data.toList f k) = false → St s.data.toList R (k + 1) (k + 1) (stp o (seg s.data.toList f k)))) := by
    intro k f o h hk hc
    refine h.cut (by omega) fun h' => ?_
    have hk' : k < s.size := by omega
    rw [at_get hk']
    exact (u8_eq _).2 (by simpa using hc hk')
  have HTop : Hid (∀ k f o, St s.data.toList R k f o → k ≤ s.size + 1 ∧ f ≤ k ∧ o.length ≤ k) := fun k f o h => by rw [hsz]; exact h.top
  have HLast : Hid (∀ k f o, St s.data.toList R k f o → ¬ k ≤ s.size → R = some o) := fun k f o h hk => h.last (by omega)
  have HSeg : Hid (∀ f k, (seg s.data.toList f k).length ≤ 60) := fun f k => Nat.le_trans (seg_len _ _ _) (by omega)
  have HExt : Hid (∀ f k, s.extract f k = bs (seg s.data.toList f k)) := ext_seg s
  generalize pE s.data.toList = E at *
  generalize nms s.data.toList = NS at *
  generalize s.data.toList = l at *
  clear hR hr hdr hpre hsz
  go_enter Tryz.func27, Tryz.ntmps27
  have hz : ((s.size : Int) == 0) = false := by rw [beq_eq_false_iff_ne]; omega
  have hp2 : ((s[0].toNat : Int) != 47) = false := by rw [bne, hp]; rfl
  have hne : ¬ s = ByteArray.empty := fun e => by rw [e] at h0; simp at h0
  clear hp
  go_wp2
  clear hz hp2 hne
  go_loopw [4, 5, 6] (fun out frm i wr => ∃ (k f : Nat) (o : List (List UInt8)), frm = .int .i64 f ∧ i = .int .i64 k ∧ StrsIs wr out o ∧ Below w.heap.size w wr ∧ St l R k f o) (fun _ _ i _ => s.size + 1 - (intOf i).toNat)
  case atStart => exact ⟨1, 1, [], rfl, rfl, strs_nil _ _ _, Below.refl _ _, HS0.out⟩
  case round =>
    obtain ⟨k, f, o, rfl, rfl, hout, hbw, hst⟩ := hrel
    obtain ⟨ht1, ht2, ht3⟩ := HTop.out k f o hst
    have HST : Hid (St l R k f o) := hst
    have HO : Hid (StrsIs wr _ o) := hout
    have HBW : Hid (Below w.heap.size w wr) := hbw
    clear hst hout hbw
    by_cases hkn : k ≤ s.size
    · by_cases hin : k < s.size
      · cases hc : ((s[k].toNat : Int) == 47) with
        | false =>
          have HS2 : Hid (St l R (k + 1) f o) := HOn.out k f o HST.out hin hc
          have hd : ((s[k].toNat : Int) != 47) = true := by rw [bne, hc]; rfl
          clear hc
          go_wp2
          go_roundw
          case rel => exact ⟨k + 1, f, o, by go_num, by go_num, HO.out, HBW.out, HS2.out⟩
          case measure => simp [intOf]; omega
        | true =>
          have hd : ((s[k].toNat : Int) != 47) = false := by rw [bne, hc]; rfl
          obtain ⟨hc1, hc2⟩ := HCut.out k f o HST.out hkn (fun _ => hc)
          have hP := HExt.out f k
          have hPl := HSeg.out f k
          generalize seg l f k = p at *
          have hT : (bs p).toList = p := by rw [ByteArray.toList_eq, data_bs]
          have HN : Hid _ := fun (w : World) => rname_any w (bs p) (small_data (by omega))
          rw [data_bs] at HN
          by_cases hp1 : p = []
          · subst hp1
            have hs2 := hc2 (by decide)
            rw [stp_nil] at hs2
            have HS2 : Hid (St l R (k + 1) (k + 1) o) := hs2
            clear hc1 hc2 hs2 HN
            go_wp2
            go_roundw
            case rel => exact ⟨k + 1, k + 1, o, by go_num, by go_num, HO.out, HBW.out, HS2.out⟩
            case measure => simp [intOf]; omega
          by_cases hp2 : p = [46]
          · subst hp2
            have hs2 := hc2 (by decide)
            rw [stp_dot] at hs2
            have HS2 : Hid (St l R (k + 1) (k + 1) o) := hs2
            clear hc1 hc2 hs2 HN
            go_wp2
            go_roundw
            case rel => exact ⟨k + 1, k + 1, o, by go_num, by go_num, HO.out, HBW.out, HS2.out⟩
            case measure => simp [intOf]; omega
          by_cases hp3 : p = [46, 46]
          · subst hp3
            have hs2 := hc2 (by decide)
            rw [stp_up] at hs2
            have HS2 : Hid (St l R (k + 1) (k + 1) o.dropLast) := hs2
            clear hc1 hc2 hs2 HN hp1 hp2
            obtain ⟨a1, c1, rfl, hq1, hq2, hq3⟩ := id HO.out
            by_cases ho : o = []
            · subst ho
              clear hq3
              go_wp2
              go_roundw
              case rel => exact ⟨k + 1, k + 1, [], by go_num, by go_num, HO.out, HBW.out, HS2.out⟩
              case measure => simp [intOf]; omega
            · have hol : 1 ≤ o.length := List.length_pos_iff.2 ho
              obtain ⟨b1, o1, rfl, _⟩ := hq3 ho
              have HL : Hid (StrsIs wr (.slice (some ⟨b1, o1, none⟩) (o.length - 1) c1) o.dropLast) := HO.out.less
              unfold maxLen at hq2
              clear hq3 ho HO
              go_wp2
              go_roundw
              case rel => exact ⟨k + 1, k + 1, o.dropLast, by go_num, by go_num, HL.out, HBW.out, HS2.out⟩
              case measure => simp [intOf]; omega
          have hb1 : ((bs p).toList == [46]) = false := by rw [hT]; simp [hp2]
          have hb2 : ((bs p).toList == [46, 46]) = false := by rw [hT]; simp [hp3]
          have hb3 : ((bs p).toList == []) = false := by rw [hT]; simp [hp1]
          have hb4 : (bs p).toList.isEmpty = false := by rw [hT]; simp [hp1]
          have hb5 : ¬ (bs p).toList = [] := by rw [hT]; exact hp1
          clear hT
          cases hn : isN p with
          | false =>
            have HR := HBad.out (hc1 (noP_yes hp1 hp2 hp3 hn))
            rw [hn] at HN
            obtain ⟨rfl, rfl⟩ := HR
            clear hc1 hc2 hp1 hp2 hp3 hn
            go_wp2_with (go_at_call 56; refine (HN.out wr).mono ?_; rintro e w' ⟨rfl, rfl⟩)
            go_ret2
            exact ⟨_, rfl, strs_nil _ _ _, HBW.out⟩
          | true =>
            have hs2 := hc2 (noP_name hn)
            rw [stp_name hn] at hs2
            have HS2 : Hid (St l R (k + 1) (k + 1) (o ++ [p])) := hs2
            rw [hn] at HN
            clear hc1 hc2 hp1 hp2 hp3 hn hs2
            go_wp2_with (first
              | (go_at_call 56; refine (HN.out wr).mono ?_; rintro e w' ⟨rfl, rfl⟩)
              | (at_builtin; refine wpList_append_strs rfl (.tmp 61) (.tmp 62) rfl wr.heap.size (.slice none 0 0) 0 [] rfl (World.ownsRow_nil _ _ _ _) _ o rfl HO.out ?q1 ?q2 ?q3))
            case q1 => omega
            case q2 => exact Nat.le_refl _
            case q3 =>
            intro v1 w1 ho1 hb6
            have HB6 : Hid (Below wr.heap.size wr w1) := hb6
            have HO1 : Hid (w1.ownsRow wr.heap.size 9 1 v1 o.length (cellsS o)) := ho1
            have HL2 : Hid (StrsIs (w1.alloc (.cells #[.string (bs p)] 9)) (.slice (some ⟨w1.heap.size, 0, none⟩) 1 1) [p]) := strs_one w1 p
            clear ho1 hb6
            go_wp2_with (at_builtin; refine wpList_append_strs rfl (.tmp 64) (.tmp 66) rfl wr.heap.size v1 _ _ rfl (HO1.out.alloc _) (.slice (some ⟨w1.heap.size, 0, none⟩) 1 1) [p] rfl HL2.out ?q1 ?q2 ?q3)
            case q1 => simp; omega
            case q2 => exact Nat.le_trans HB6.out.size (by simp)
            case q3 =>
            intro v2 w2 ho2 hb7
            have HO2 : Hid (StrsIs w2 v2 (o ++ [p])) := strs_own ho2
            have HB2 : Hid (Below w.heap.size w w2) := Below.next HBW.out ((HB6.out.alloc HB6.out.size _).trans hb7)
            clear ho2 hb7
            go_wp2
            go_roundw
            case rel => exact ⟨k + 1, k + 1, o ++ [p], by go_num, by go_num, HO2.out, HB2.out, HS2.out⟩
            case measure => simp [intOf]; omega
      · have hkl : s.size ≤ k := by omega
        obtain ⟨hc1, hc2⟩ := HCut.out k f o HST.out hkn (fun h => absurd h (by omega))
        have hP := HExt.out f k
        have hPl := HSeg.out f k
        generalize seg l f k = p at *
        have hT : (bs p).toList = p := by rw [ByteArray.toList_eq, data_bs]
        have HN : Hid _ := fun (w : World) => rname_any w (bs p) (small_data (by omega))
        rw [data_bs] at HN
        by_cases hp1 : p = []
        · subst hp1
          have hs2 := hc2 (by decide)
          rw [stp_nil] at hs2
          have HS2 : Hid (St l R (k + 1) (k + 1) o) := hs2
          clear hc1 hc2 hs2 HN
          go_wp2
          go_roundw
          case rel => exact ⟨k + 1, k + 1, o, by go_num, by go_num, HO.out, HBW.out, HS2.out⟩
          case measure => simp [intOf]; omega
        by_cases hp2 : p = [46]
        · subst hp2
          have hs2 := hc2 (by decide)
          rw [stp_dot] at hs2
          have HS2 : Hid (St l R (k + 1) (k + 1) o) := hs2
          clear hc1 hc2 hs2 HN
          go_wp2
          go_roundw
          case rel => exact ⟨k + 1, k + 1, o, by go_num, by go_num, HO.out, HBW.out, HS2.out⟩
          case measure => simp [intOf]; omega
        by_cases hp3 : p = [46, 46]
        · subst hp3
          have hs2 := hc2 (by decide)
          rw [stp_up] at hs2
          have HS2 : Hid (St l R (k + 1) (k + 1) o.dropLast) := hs2
          clear hc1 hc2 hs2 HN hp1 hp2
          obtain ⟨a1, c1, rfl, hq1, hq2, hq3⟩ := id HO.out
          by_cases ho : o = []
          · subst ho
            clear hq3
            go_wp2
            go_roundw
            case rel => exact ⟨k + 1, k + 1, [], by go_num, by go_num, HO.out, HBW.out, HS2.out⟩
            case measure => simp [intOf]; omega
          · have hol : 1 ≤ o.length := List.length_pos_iff.2 ho
            obtain ⟨b1, o1, rfl, _⟩ := hq3 ho
            have HL : Hid (StrsIs wr (.slice (some ⟨b1, o1, none⟩) (o.length - 1) c1) o.dropLast) := HO.out.less
            unfold maxLen at hq2
            clear hq3 ho HO
            go_wp2
            go_roundw
            case rel => exact ⟨k + 1, k + 1, o.dropLast, by go_num, by go_num, HL.out, HBW.out, HS2.out⟩
            case measure => simp [intOf]; omega
        have hb1 : ((bs p).toList == [46]) = false := by rw [hT]; simp [hp2]
        have hb2 : ((bs p).toList == [46, 46]) = false := by rw [hT]; simp [hp3]
        have hb3 : ((bs p).toList == []) = false := by rw [hT]; simp [hp1]
        have hb4 : (bs p).toList.isEmpty = false := by rw [hT]; simp [hp1]
        have hb5 : ¬ (bs p).toList = [] := by rw [hT]; exact hp1
        clear hT
        cases hn : isN p with
        | false =>
          have HR := HBad.out (hc1 (noP_yes hp1 hp2 hp3 hn))
          rw [hn] at HN
          obtain ⟨rfl, rfl⟩ := HR
          clear hc1 hc2 hp1 hp2 hp3 hn
          go_wp2_with (go_at_call 56; refine (HN.out wr).mono ?_; rintro e w' ⟨rfl, rfl⟩)
          go_ret2
          exact ⟨_, rfl, strs_nil _ _ _, HBW.out⟩
        | true =>
          have hs2 := hc2 (noP_name hn)
          rw [stp_name hn] at hs2
          have HS2 : Hid (St l R (k + 1) (k + 1) (o ++ [p])) := hs2
          rw [hn] at HN
          clear hc1 hc2 hp1 hp2 hp3 hn hs2
          go_wp2_with (first
            | (go_at_call 56; refine (HN.out wr).mono ?_; rintro e w' ⟨rfl, rfl⟩)
            | (at_builtin; refine wpList_append_strs rfl (.tmp 61) (.tmp 62) rfl wr.heap.size (.slice none 0 0) 0 [] rfl (World.ownsRow_nil _ _ _ _) _ o rfl HO.out ?q1 ?q2 ?q3))
          case q1 => omega
          case q2 => exact Nat.le_refl _
          case q3 =>
          intro v1 w1 ho1 hb6
          have HB6 : Hid (Below wr.heap.size wr w1) := hb6
          have HO1 : Hid (w1.ownsRow wr.heap.size 9 1 v1 o.length (cellsS o)) := ho1
          have HL2 : Hid (StrsIs (w1.alloc (.cells #[.string (bs p)] 9)) (.slice (some ⟨w1.heap.size, 0, none⟩) 1 1) [p]) := strs_one w1 p
          clear ho1 hb6
          go_wp2_with (at_builtin; refine wpList_append_strs rfl (.tmp 64) (.tmp 66) rfl wr.heap.size v1 _ _ rfl (HO1.out.alloc _) (.slice (some ⟨w1.heap.size, 0, none⟩) 1 1) [p] rfl HL2.out ?q1 ?q2 ?q3)
          case q1 => simp; omega
          case q2 => exact Nat.le_trans HB6.out.size (by simp)
          case q3 =>
          intro v2 w2 ho2 hb7
          have HO2 : Hid (StrsIs w2 v2 (o ++ [p])) := strs_own ho2
          have HB2 : Hid (Below w.heap.size w w2) := Below.next HBW.out ((HB6.out.alloc HB6.out.size _).trans hb7)
          clear ho2 hb7
          go_wp2
          go_roundw
          case rel => exact ⟨k + 1, k + 1, o ++ [p], by go_num, by go_num, HO2.out, HB2.out, HS2.out⟩
          case measure => simp [intOf]; omega
    · have HR := HLast.out k f o HST.out hkn
      obtain ⟨hg1, hg2⟩ := HGood.out o HR
      obtain ⟨a1, c1, rfl, hq1, hq2, hq3⟩ := id HO.out
      clear hq3
      by_cases h8 : 8 < o.length
      · obtain ⟨rfl, rfl⟩ := hg1 h8
        clear hg1 hg2
        go_wp2
        go_ret2
        exact ⟨_, rfl, strs_nil _ _ _, HBW.out⟩
      · obtain ⟨rfl, rfl⟩ := hg2 h8
        clear hg1 hg2
        go_wp2
        go_ret2
        exact ⟨_, rfl, HO.out, HBW.out⟩

end Go.Proofs.YtdlmkienogimgaaGreatDoor

namespace Go.Proofs.YtdlmkienogimgaaGreatDoor
open Go.RowKit Go.Deep Go.Shelf

/-- A path, and the number of what it names. -/
abbrev Nm := List UInt8 × Nat
/-- The cells of names. -/
def ndc : List Nm → List Value
  | [] => []
  | x :: l => .string (bs x.1) :: .int .i64 (x.2 : Int) :: ndc l
theorem ndc_len : ∀ l, (ndc l).length = l.length * 2
  | [] => rfl
  | x :: l => by simp only [ndc, List.length_cons, ndc_len l]; omega
theorem ndc_append : ∀ (a b : List Nm), ndc (a ++ b) = ndc a ++ ndc b
  | [], b => rfl
  | y :: l, b => by simp only [ndc, List.cons_append, ndc_append l b]
theorem ndc_one : ∀ l, ∀ u ∈ ndc l, u.oneCell' = true
  | [], u, h => by simp [ndc] at h
  | x :: l, u, h => by
    simp only [ndc, List.mem_cons] at h
    rcases h with rfl | rfl | h
    · rfl
    · rfl
    · exact ndc_one l u h
def nAt (l : List Nm) (i : Nat) : Nm := l.getD i ([], 0)
theorem nAt_lt {l : List Nm} {i : Nat} (h : i < l.length) : nAt l i = l[i] := by unfold nAt; simp [List.getD, h]
theorem nAt_mem {l : List Nm} {i : Nat} (h : i < l.length) : nAt l i ∈ l := by rw [nAt_lt h]; exact List.getElem_mem h
theorem ndc_even : ∀ (l : List Nm) (i : Nat), i < l.length → (ndc l)[i * 2]? = some (.string (bs (nAt l i).1)) ∧ (ndc l)[i * 2 + 1]? = some (.int .i64 ((nAt l i).2 : Int))
  | [], i, h => by simp at h
  | x :: l, 0, _ => by simp [ndc, nAt]
  | x :: l, i + 1, h => by
    have := ndc_even l i (by simpa using h)
    simp only [ndc, show (i + 1) * 2 = i * 2 + 1 + 1 by omega, List.getElem?_cons_succ, nAt, List.getD_cons_succ]
    exact this

/-- The value is a slice that holds these names. -/
def NamedIs (w : World) (v : Value) (l : List Nm) : Prop :=
  ∃ a cap, v = .slice a l.length cap ∧ l.length ≤ maxLen ∧ (l ≠ [] → ∃ b off, a = some ⟨b, off, none⟩ ∧ b < w.heap.size ∧
    ∀ i, i < l.length → w.cell? ⟨b, off + i * 2, none⟩ = some (.string (bs (nAt l i).1)) ∧ w.cell? ⟨b, off + i * 2 + 1, none⟩ = some (.int .i64 ((nAt l i).2 : Int)))
theorem NamedIs.later {w w' : World} {v : Value} {l : List Nm} (h : NamedIs w v l) (hb : Below w.heap.size w w') : NamedIs w' v l := by
  obtain ⟨a, cap, hv, hl, hx⟩ := h
  refine ⟨a, cap, hv, hl, fun hne => ?_⟩
  obtain ⟨b, off, ha, hlt, hc⟩ := hx hne
  refine ⟨b, off, ha, Nat.lt_of_lt_of_le hlt hb.size, fun i hi => ?_⟩
  have := hc i hi
  exact ⟨by rw [hb.cell (p := ⟨b, off + i * 2, none⟩) hlt]; exact this.1, by rw [hb.cell (p := ⟨b, off + i * 2 + 1, none⟩) hlt]; exact this.2⟩
theorem NamedIs.turned {w w' : World} {v : Value} {l : List Nm} {base : Nat} (h : NamedIs w v l) (hT : Turned base w w') : NamedIs w' v l := by
  obtain ⟨a, cap, hv, hl, hx⟩ := h
  refine ⟨a, cap, hv, hl, fun hne => ?_⟩
  obtain ⟨b, off, ha, hlt, hc⟩ := hx hne
  exact ⟨b, off, ha, Nat.lt_of_lt_of_le hlt hT.below.size, fun i hi => ⟨hT.cell (hc i hi).1, hT.cell (hc i hi).2⟩⟩
theorem NamedIs.where {w : World} {v : Value} {l : List Nm} (h : NamedIs w v l) :
    ∃ a c b o, v = .slice a l.length c ∧ l.length ≤ maxLen ∧ (0 < l.length → a = some ⟨b, o, none⟩) ∧ (0 < l.length → b < w.heap.size) ∧
      ∀ i, i < l.length → w.cell? ⟨b, o + i * 2, none⟩ = some (.string (bs (nAt l i).1)) ∧ w.cell? ⟨b, o + i * 2 + 1, none⟩ = some (.int .i64 ((nAt l i).2 : Int)) := by
  obtain ⟨a, c, rfl, hl, hi⟩ := h
  by_cases hx : l = []
  · subst hx
    exact ⟨a, c, 0, 0, rfl, hl, fun h => absurd h (by simp), fun h => absurd h (by simp), fun i h => absurd h (by simp)⟩
  · obtain ⟨b, o, ha, hb, hc⟩ := hi hx
    exact ⟨a, c, b, o, rfl, hl, fun _ => ha, fun _ => hb, hc⟩

/-- The value is a slice that holds these truth values. -/
def BoolsIs (w : World) (v : Value) (l : List Bool) : Prop :=
  ∃ a cap, v = .slice a l.length cap ∧ l.length ≤ maxLen ∧ (l ≠ [] → ∃ b off, a = some ⟨b, off, none⟩ ∧ b < w.heap.size ∧ ∀ i, i < l.length → w.cell? ⟨b, off + i, none⟩ = some (.bool (l.getD i false)))
theorem BoolsIs.later {w w' : World} {v : Value} {l : List Bool} (h : BoolsIs w v l) (hb : Below w.heap.size w w') : BoolsIs w' v l := by
  obtain ⟨a, cap, hv, hl, hx⟩ := h
  refine ⟨a, cap, hv, hl, fun hne => ?_⟩
  obtain ⟨b, off, ha, hlt, hc⟩ := hx hne
  exact ⟨b, off, ha, Nat.lt_of_lt_of_le hlt hb.size, fun i hi => by rw [hb.cell (p := ⟨b, off + i, none⟩) hlt]; exact hc i hi⟩
theorem BoolsIs.turned {w w' : World} {v : Value} {l : List Bool} {base : Nat} (h : BoolsIs w v l) (hT : Turned base w w') : BoolsIs w' v l := by
  obtain ⟨a, cap, hv, hl, hx⟩ := h
  refine ⟨a, cap, hv, hl, fun hne => ?_⟩
  obtain ⟨b, off, ha, hlt, hc⟩ := hx hne
  exact ⟨b, off, ha, Nat.lt_of_lt_of_le hlt hT.below.size, fun i hi => hT.cell (hc i hi)⟩
theorem BoolsIs.where {w : World} {v : Value} {l : List Bool} (h : BoolsIs w v l) :
    ∃ a c b o, v = .slice a l.length c ∧ l.length ≤ maxLen ∧ (0 < l.length → a = some ⟨b, o, none⟩) ∧ ∀ i, i < l.length → w.cell? ⟨b, o + i, none⟩ = some (.bool (l.getD i false)) := by
  obtain ⟨a, c, rfl, hl, hi⟩ := h
  by_cases hx : l = []
  · subst hx
    exact ⟨a, c, 0, 0, rfl, hl, fun h => absurd h (by simp), fun i h => absurd h (by simp)⟩
  · obtain ⟨b, o, ha, hb, hc⟩ := hi hx
    exact ⟨a, c, b, o, rfl, hl, fun _ => ha, hc⟩

/-- The number at a path, or -1. -/
def fnd (D : List Nm) (s : List UInt8) : Int := if s = [47] then 0 else match D.find? (fun x => decide (x.1 = s)) with | some x => (x.2 : Int) | none => -1
theorem fnd_root {D : List Nm} {s : List UInt8} (h : s = [47]) : fnd D s = 0 := if_pos h
theorem fnd_hit {D : List Nm} {s : List UInt8} (h : s ≠ [47]) {k : Nat} (hk : k < D.length) (hb : ∀ j, j < k → (nAt D j).1 ≠ s) (he : (nAt D k).1 = s) : fnd D s = ((nAt D k).2 : Int) := by
  unfold fnd
  rw [if_neg h, (List.find?_eq_some_iff_getElem (xs := D) (b := nAt D k)).2 ⟨by simpa using he, k, hk, (nAt_lt hk).symm, fun j hj => ?_⟩]
  have := hb j hj
  rw [nAt_lt (by omega)] at this
  simpa using this
theorem fnd_none {D : List Nm} {s : List UInt8} (h : s ≠ [47]) (hb : ∀ j, j < D.length → (nAt D j).1 ≠ s) : fnd D s = -1 := by
  unfold fnd
  rw [if_neg h, List.find?_eq_none.2 fun x hx => ?_]
  obtain ⟨j, hj, rfl⟩ := List.getElem_of_mem hx
  have := hb j hj
  rw [nAt_lt hj] at this
  simpa using this

/-- The document's tree is the program's. -/
structure Mt (L : List Ent) (M : Nat → Option Nat) (num : Nat → Nat) (D : List Nm) (B : List Bool) : Prop where
  good : Good L M
  names : D = L.tail.map fun x => (shw x.1, num x.2)
  dirs : ∀ p i, (p, i) ∈ L → num i < B.length ∧ B.getD (num i) false = (M i).isSome
  inj : ∀ p i q j, (p, i) ∈ L → (q, j) ∈ L → num i = num j → i = j
  root : ∀ r, ([], r) ∈ L → num r = 0

theorem shw_inj {p q : List (List UInt8)} (hp : p.length ≤ 8) (hpn : ∀ k ∈ p, isN k = true) (hq : q.length ≤ 8) (hqn : ∀ k ∈ q, isN k = true) (h : shw p = shw q) : p = q := by
  have h1 := (shw_path hp hpn).2.1
  have h2 := (shw_path hq hqn).2.1
  rw [← h1, ← h2, h]
theorem shw_root {p : List (List UInt8)} (hp : p.length ≤ 8) (hpn : ∀ k ∈ p, isN k = true) : shw p = [47] ↔ p = [] := by
  constructor
  · intro h
    exact shw_inj hp hpn (q := []) (by simp) (by simp) (by rw [h]; rfl)
  · rintro rfl; rfl

theorem find_same {α : Type} {p q : α → Bool} : ∀ {l : List α}, (∀ x ∈ l, p x = q x) → l.find? p = l.find? q
  | [], _ => rfl
  | y :: l, h => by
    have hy := h y (by simp)
    have ih := find_same (l := l) fun x hx => h x (by simp [hx])
    rw [List.find?_cons, List.find?_cons, hy, ih]

/-- The number of what is at a path. -/
def nO (num : Nat → Nat) : Option Nat → Int
  | some i => (num i : Int)
  | none => -1
theorem Mt.find {L : List Ent} {M : Nat → Option Nat} {num : Nat → Nat} {D : List Nm} {B : List Bool} (h : Mt L M num D B) {p : List (List UInt8)} (hp : p.length ≤ 8) (hpn : ∀ k ∈ p, isN k = true) : fnd D (shw p) = nO num (look L p) := by
  obtain ⟨r, t, hL, _⟩ := h.good.root
  by_cases h0 : p = []
  · subst h0
    rw [fnd_root (show shw [] = [47] from rfl), hL]
    have : num r = 0 := h.root r (by rw [hL]; simp)
    simp [look, nO, this]
  · have hne : shw p ≠ [47] := fun e => h0 ((shw_root hp hpn).1 e)
    unfold fnd
    rw [if_neg hne, h.names, List.find?_map, hL, List.tail_cons]
    have hc : (([] : List (List UInt8)), r).1 ≠ p := fun e => h0 e.symm
    unfold look
    rw [List.find?_cons_of_neg (by simpa using hc)]
    have hfn : t.find? ((fun x : Nm => decide (x.1 = shw p)) ∘ fun x : Ent => (shw x.1, num x.2)) = t.find? fun x => decide (x.1 = p) := by
      refine find_same fun x hx => ?_
      obtain ⟨g1, g2⟩ := h.good.nam x.1 x.2 (by rw [hL]; exact List.mem_cons_of_mem _ hx)
      simp only [Function.comp]
      congr 1
      exact propext ⟨fun e => shw_inj g1 g2 hp hpn e, fun e => by rw [e]⟩
    rw [hfn]
    cases t.find? (fun x => decide (x.1 = p)) with
    | none => rfl
    | some x => rfl

end Go.Proofs.YtdlmkienogimgaaGreatDoor

namespace Go.Proofs.YtdlmkienogimgaaGreatDoor
open Go.RowKit Go.Deep Go.Shelf

theorem keepU {w w' : World} (hb : Below w.heap.size w w') {a : Addr} {v : Value} (h : w.cell? a = some v) : w'.cell? a = some v := by
  rw [hb.cell (World.block_lt_of_cell? _ _ h)]; exact h

set_option maxHeartbeats 2000000 in
theorem find_any (w : World) (vD vB : Value) (D : List Nm) (hD : NamedIs w vD D) (s : ByteArray) :
    Calls Tryz.prog 48 #[.agg #[vD, vB], .string s] w fun e w' => e = .returned (.int .i64 (fnd D s.data.toList)) ∧ Below w.heap.size w w' := by
  obtain ⟨a, c, b, o, rfl, hl, ha, _, hc⟩ := hD.where
  obtain ⟨n, hn⟩ : ∃ n, D.length = n := ⟨_, rfl⟩
  have HN : Hid (D.length = n) := hn
  have HA : Hid (0 < n → a = some ⟨b, o, none⟩) := by rw [← hn]; exact ha
  have HC : Hid (∀ w', Below w.heap.size w w' → ∀ i, i < n → w'.cell? ⟨b, o + i * 2, none⟩ = some (.string (bs (nAt D i).1)) ∧ w'.cell? ⟨b, o + i * 2 + 1, none⟩ = some (.int .i64 ((nAt D i).2 : Int))) :=
    fun w' hb i hi => ⟨keepU hb (hc i (by omega)).1, keepU hb (hc i (by omega)).2⟩
  rw [hn] at hl ⊢
  unfold maxLen at hl
  have HS : Hid (s.toList = s.data.toList) := Lib.toList_data s
  clear hD ha hc hn
  by_cases h0 : s.data.toList = [47]
  · rw [fnd_root h0]
    have hq : (s.toList == [47]) = true := by rw [HS.out, h0]; rfl
    clear h0
    go_enter Tryz.func48, Tryz.ntmps48
    go_wp2
    go_ret
    exact ⟨rfl, below_alloc _ _⟩
  · have HNe : Hid (s.data.toList ≠ [47]) := h0
    have hq : (s.toList == [47]) = false := by rw [HS.out]; simpa using h0
    clear h0
    go_enter Tryz.func48, Tryz.ntmps48
    go_wp2
    have HC1 : Hid _ := HC.out _ (below_alloc w (.cells #[.slice a n c, vB] 42))
    go_loop [5] (fun i => ∃ k : Nat, k ≤ n ∧ i = .int .i64 k ∧ ∀ j, j < k → (nAt D j).1 ≠ s.data.toList) (fun i => n - (intOf i).toNat)
    case atStart => exact ⟨0, Nat.zero_le _, rfl, fun j hj => absurd hj (Nat.not_lt_zero _)⟩
    case round =>
      obtain ⟨k, hk, rfl, hall⟩ := hrel
      have HAll : Hid (∀ j, j < k → (nAt D j).1 ≠ s.data.toList) := hall
      clear hall
      by_cases hlt : k < n
      · have haa := HA.out (by omega)
        subst haa
        obtain ⟨h1, h2⟩ := HC1.out k hlt
        by_cases he : (nAt D k).1 = s.data.toList
        · have hb : ((bs (nAt D k).1).toList == s.toList) = true := by rw [bs_list, HS.out, he]; simp
          have HE : Hid (fnd D s.data.toList = ((nAt D k).2 : Int)) := fnd_hit HNe.out (by rw [HN.out]; exact hlt) HAll.out he
          clear he
          generalize bs (nAt D k).1 = y at *
          generalize (nAt D k).2 = z at *
          go_wp2
          go_ret
          exact ⟨(congrArg (fun z : Int => Ending.returned (Value.int .i64 z)) HE.out).symm, below_alloc _ _⟩
        · have hb : ((bs (nAt D k).1).toList == s.toList) = false := by rw [bs_list, HS.out]; simpa using he
          have HE : Hid ((nAt D k).1 ≠ s.data.toList) := he
          clear he
          generalize hy : bs (nAt D k).1 = y at *
          generalize hz : (nAt D k).2 = z at *
          clear hy hz
          go_wp2
          go_round
          case rel =>
            refine ⟨k + 1, by omega, by go_num, fun j hj => ?_⟩
            by_cases e : j = k
            · subst e; exact HE.out
            · exact HAll.out j (by omega)
          case measure => simp [intOf]; omega
      · have hkn : k = n := by omega
        have HE : Hid (fnd D s.data.toList = -1) := fnd_none HNe.out fun j hj => HAll.out j (by rw [HN.out] at hj; omega)
        clear hkn
        go_wp2
        go_ret
        exact ⟨(congrArg (fun z : Int => Ending.returned (Value.int .i64 z)) HE.out).symm, below_alloc _ _⟩

/-- Does a path begin with another one, and a / behind it? -/
def bgn (s p : List UInt8) : Bool := decide (p ++ [47] <+: s)
theorem bgn_short {s p : List UInt8} (h : ¬ p.length < s.length) : bgn s p = false := by
  unfold bgn
  rw [decide_eq_false_iff_not]
  rintro ⟨u, hu⟩
  have := congrArg List.length hu
  simp at this
  omega
theorem bgn_iff {s p : List UInt8} (h : p.length < s.length) : bgn s p = (decide (s.take p.length = p) && decide (s[p.length] = 47)) := by
  unfold bgn
  rw [Bool.eq_iff_iff, Bool.and_eq_true, decide_eq_true_iff, decide_eq_true_iff, decide_eq_true_iff]
  constructor
  · rintro ⟨u, rfl⟩
    constructor
    · rw [List.append_assoc, List.take_left']; rfl
    · rw [List.getElem_append_left (by simp), List.getElem_append_right (by simp)]; simp
  · rintro ⟨h1, h2⟩
    refine ⟨s.drop (p.length + 1), ?_⟩
    conv => rhs; rw [← List.take_append_drop p.length s, h1, List.drop_eq_getElem_cons h, h2]
    simp

set_option maxHeartbeats 2000000 in
theorem begins_any (w : World) (s p : ByteArray) (hp : p.size ≤ maxLen) :
    Calls Tryz.prog 49 #[.string s, .string p] w fun e w' => e = .returned (.bool (bgn s.data.toList p.data.toList)) ∧ w = w' := by
  have hsl : s.data.toList.length = s.size := by rw [Lib.size_eq]
  have hpl : p.data.toList.length = p.size := by rw [Lib.size_eq]
  unfold maxLen at hp
  by_cases h : p.size < s.size
  · have e2 : s.data.toList[p.data.toList.length]'(by omega) = s[p.size] := by simp only [hpl]; rfl
    rw [bgn_iff (by omega), e2]
    have e1 : (decide (s.data.toList.take p.data.toList.length = p.data.toList)) = ((s.extract 0 p.size).toList == p.toList) := by
      rw [Lib.toList_data, Lib.toList_data, Lib.extract_data, List.drop_zero, Nat.sub_zero, hpl, Bool.eq_iff_iff, decide_eq_true_iff, beq_iff_eq]
    rw [e1]
    have e3 : decide (s[p.size] = 47) = decide (s[p.size].toNat = 47) := by
      congr 1
      exact propext ⟨fun h => by rw [h]; rfl, fun h => UInt8.toNat_inj.1 h⟩
    rw [e3]
    clear e1 e2 e3 hsl hpl
    by_cases h1 : ((s.extract 0 p.size).toList == p.toList) = true
    · rw [h1, Bool.true_and]
      have HQ : Hid (((s[p.size].toNat : Int) == 47) = decide (s[p.size].toNat = 47)) := by
        show ((s[p.size].toNat : Int) == 47) = decide (s[p.size].toNat = 47)
        rw [Bool.eq_iff_iff, beq_iff_eq, decide_eq_true_iff]
        omega
      go_enter Tryz.func49, Tryz.ntmps49
      go_wp2
      go_ret
      exact ⟨congrArg (fun b => Ending.returned (Value.bool b)) HQ.out, rfl⟩
    · have h1 : ((s.extract 0 p.size).toList == p.toList) = false := by simpa using h1
      rw [h1, Bool.false_and]
      go_enter Tryz.func49, Tryz.ntmps49
      go_wp2
      go_ret
      exact ⟨rfl, rfl⟩
  · rw [bgn_short (by omega)]
    clear hsl hpl
    go_enter Tryz.func49, Tryz.ntmps49
    go_wp2
    go_ret
    exact ⟨rfl, rfl⟩

/-- How many / a text has. -/
def sls (s : List UInt8) : Nat := s.countP fun c => decide (c = 47)
theorem sls_succ {s : List UInt8} {k : Nat} (h : k < s.length) : sls (s.take (k + 1)) = sls (s.take k) + if s[k] = 47 then 1 else 0 := by
  unfold sls
  rw [List.take_add_one, List.getElem?_eq_getElem h, List.countP_append]
  by_cases e : s[k] = 47 <;> simp [e]

set_option maxHeartbeats 2000000 in
theorem slashes_any (w : World) (s : ByteArray) (hs : s.size ≤ 1000000) :
    Calls Tryz.prog 51 #[.string s] w fun e w' => e = .returned (.int .i64 (sls s.data.toList : Nat)) ∧ w = w' := by
  have hsl : s.data.toList.length = s.size := by rw [Lib.size_eq]
  have HS : Hid (∀ k (h : k < s.size), sls (s.data.toList.take (k + 1)) = sls (s.data.toList.take k) + if s[k] = 47 then 1 else 0) := fun k h => sls_succ (by omega)
  have HT : Hid (s.data.toList.take s.size = s.data.toList) := List.take_of_length_le (by omega)
  clear hsl
  go_enter Tryz.func51, Tryz.ntmps51
  go_wp2
  go_loop [3, 4] (fun n i => ∃ k : Nat, k ≤ s.size ∧ i = .int .i64 k ∧ n = .int .i64 (sls (s.data.toList.take k) : Nat) ∧ sls (s.data.toList.take k) ≤ k) (fun _ i => s.size - (intOf i).toNat)
  case atStart => exact ⟨0, Nat.zero_le _, rfl, by simp [sls], by simp [sls]⟩
  case round =>
    obtain ⟨k, hk, rfl, rfl, hle⟩ := hrel
    by_cases hlt : k < s.size
    · have hs1 := HS.out k hlt
      by_cases h47 : s[k].toNat = 47
      · have e : s[k] = 47 := UInt8.toNat_inj.1 h47
        have HQ : Hid (sls (s.data.toList.take (k + 1)) = sls (s.data.toList.take k) + 1) := by rw [if_pos e] at hs1; exact hs1
        clear hs1 e
        generalize sls (s.data.toList.take k) = m at *
        go_wp2
        go_round
        case rel => exact ⟨k + 1, by omega, by go_num, by rw [HQ.out]; go_num, by rw [HQ.out]; omega⟩
        case measure => simp [intOf]; omega
      · have HQ : Hid (sls (s.data.toList.take (k + 1)) = sls (s.data.toList.take k)) := by
          rw [if_neg (fun e => h47 (by rw [e]; rfl))] at hs1; exact hs1
        clear hs1
        generalize sls (s.data.toList.take k) = m at *
        go_wp2
        go_round
        case rel => exact ⟨k + 1, by omega, by go_num, by rw [HQ.out], by rw [HQ.out]; omega⟩
        case measure => simp [intOf]; omega
    · have hkn : k = s.size := by omega
      subst hkn
      rw [HT.out]
      obtain ⟨m, hm⟩ : ∃ m, sls s.data.toList = m := ⟨_, rfl⟩
      have HM : Hid (sls s.data.toList = m) := hm
      rw [hm]
      clear hm
      go_wp2
      go_ret
      exact ⟨congrArg (fun z : Nat => Ending.returned (Value.int .i64 (z : Int))) HM.out.symm, rfl⟩

end Go.Proofs.YtdlmkienogimgaaGreatDoor

namespace Go.Proofs.YtdlmkienogimgaaGreatDoor
open Go.RowKit Go.Deep Go.Shelf

theorem StrsIs.upto {w : World} {a : Option Addr} {n c k : Nat} {ls : List (List UInt8)} (h : StrsIs w (.slice a n c) ls) (hk : k ≤ n) : StrsIs w (.slice a k c) (ls.take k) := by
  obtain ⟨a', c', hv, hl, hm, hi⟩ := h
  cases hv
  have e : (ls.take k).length = k := by rw [List.length_take]; omega
  refine ⟨_, _, by rw [e], by omega, by omega, fun hne => ?_⟩
  obtain ⟨b, o, ha, hb, hc⟩ := hi (fun h0 => hne (by rw [h0]; simp))
  refine ⟨b, o, ha, hb, fun i hi => ?_⟩
  rw [hc i (by omega), sth_lt (by omega), sth_lt hi, List.getElem_take]

/-- The number of what was found. -/
def nU (num : Nat → Nat) : Option Nat → Int
  | some i => (num i : Int)
  | none => 0

theorem wid_take {ls : List (List UInt8)} (h : ∀ k ∈ ls, isN k = true) (hl : ls.length ≤ 8) (k : Nat) : wid (ls.take k) ≤ 1000000 := by
  have := wid_names (p := ls.take k) fun x hx => h x (List.mem_of_mem_take hx)
  rw [List.length_take] at this
  omega

set_option maxHeartbeats 4000000 in
set_option maxRecDepth 100000 in
theorem dat_any (w : World) (vD vB : Value) (L : List Ent) (M : Nat → Option Nat) (num : Nat → Nat) (D : List Nm) (B : List Bool) (hD : NamedIs w vD D) (hB : BoolsIs w vB B) (hm : Mt L M num D B)
    (v : Value) (ns : List (List UInt8)) (hv : StrsIs w v ns) (hl : ns.length ≤ 8) (hn : ∀ k ∈ ns, isN k = true) :
    Calls Tryz.prog 50 #[.agg #[vD, vB], v] w fun e w' => e = .returned (.tuple #[.int .i64 (nU num (atF L M ns).2), .int .i64 ((atF L M ns).1 : Nat)]) ∧ Below w.heap.size w w' := by
  obtain ⟨a, c, bv, ov, rfl, hcap, _, _, _⟩ := hv.where
  obtain ⟨a2, c2, b2, o2, rfl, hlB, ha2, hc2⟩ := hB.where
  obtain ⟨N, hN⟩ : ∃ N, ns.length = N := ⟨_, rfl⟩
  have HN : Hid (ns.length = N) := hN
  obtain ⟨R, hR⟩ : ∃ R, atF L M ns = R := ⟨_, rfl⟩
  have HR : Hid (atF L M ns = R) := hR
  have HMt : Hid (Mt L M num D B) := hm
  have HV : Hid (StrsIs w (.slice a N c) ns) := by rw [← hN]; exact hv
  have HD : Hid (NamedIs w vD D) := hD
  have HNm : Hid (∀ k ∈ ns, isN k = true) := hn
  obtain ⟨nB, hnB⟩ : ∃ nB, B.length = nB := ⟨_, rfl⟩
  have HA2 : Hid (0 < nB → a2 = some ⟨b2, o2, none⟩) := by rw [← hnB]; exact ha2
  have HC2 : Hid (∀ w', Below w.heap.size w w' → ∀ i, i < nB → w'.cell? ⟨b2, o2 + i, none⟩ = some (.bool (B.getD i false))) := fun w' hb i hi => keepU hb (hc2 i (by omega))
  have HNb : Hid (B.length = nB) := hnB
  rw [hR]
  rw [hN] at hl hcap ⊢
  rw [hnB] at hlB ⊢
  unfold maxLen at hlB
  clear hv hB ha2 hc2 hD hm hn hN hR hnB
  go_enter Tryz.func50, Tryz.ntmps50
  go_wp2
  have hb1 := below_alloc w (.cells #[vD, .slice a2 nB c2] 42)
  have hx0 : (w.alloc (.cells #[vD, .slice a2 nB c2] 42)).cell? ⟨w.heap.size, 0, none⟩ = some vD := cell_new w _ _ 0
  have hx1 : (w.alloc (.cells #[vD, .slice a2 nB c2] 42)).cell? ⟨w.heap.size, 1, none⟩ = some (.slice a2 nB c2) := cell_new w _ _ 1
  generalize w.alloc (.cells #[vD, .slice a2 nB c2] 42) = w1 at *
  have HB1 : Hid (Below w.heap.size w w1) := hb1
  have HX : Hid (∀ w', Below w1.heap.size w1 w' → w'.cell? ⟨w.heap.size, 0, none⟩ = some vD ∧ w'.cell? ⟨w.heap.size, 1, none⟩ = some (.slice a2 nB c2)) := fun w' hb => ⟨keepU hb hx0, keepU hb hx1⟩
  clear hb1 hx0 hx1
  go_loopw [6, 7] (fun n i wr => ∃ k j : Nat, i = .int .i64 k ∧ k ≤ N ∧ n = .int .i64 (num j : Nat) ∧ look L (ns.take k) = some j ∧ fo L M (ns.take k) j (ns.drop k) = R ∧ Below w1.heap.size w1 wr) (fun _ i _ => N - (intOf i).toNat)
  case atStart =>
    obtain ⟨r, hr, _⟩ := HMt.out.good.start
    have h0 := HMt.out.root r hr
    have hlr := HMt.out.good.uni.look.2 hr
    have hro : rootOf L = r := by unfold rootOf; rw [hlr]; rfl
    refine ⟨0, r, rfl, Nat.zero_le _, by rw [h0]; rfl, hlr, ?_, Below.refl _ _⟩
    have := HR.out
    unfold atF at this
    rw [hro] at this
    exact this
  case round =>
    obtain ⟨k, j, rfl, hk, rfl, hlk, hfo, hbr⟩ := hrel
    have HLk : Hid (look L (ns.take k) = some j) := hlk
    have HFo : Hid (fo L M (ns.take k) j (ns.drop k) = R) := hfo
    have HBr : Hid (Below w1.heap.size w1 wr) := hbr
    have hbw : Below w.heap.size w wr := HB1.out.trans (hbr.mono HB1.out.size)
    have HBw : Hid (Below w.heap.size w wr) := hbw
    obtain ⟨hx0, hx1⟩ := HX.out wr hbr
    obtain ⟨hj1, hj2⟩ := HMt.out.dirs _ _ (look_mem hlk)
    rw [HNb.out] at hj1
    obtain ⟨z, hz⟩ : ∃ z, num j = z := ⟨_, rfl⟩
    have HZ : Hid (num j = z) := hz
    have haa := HA2.out (by omega)
    subst haa
    have cB := HC2.out wr hbw (num j) hj1
    rw [hj2] at cB
    rw [hz] at hj1 cB ⊢
    clear hlk hfo hj2 hz
    by_cases hlt : k < N
    · have hdr : ns.drop k = sth ns k :: ns.drop (k + 1) := by
        rw [sth_lt (by rw [HN.out]; exact hlt)]; exact List.drop_eq_getElem_cons (by rw [HN.out]; exact hlt)
      have htk : ns.take (k + 1) = ns.take k ++ [sth ns k] := by
        rw [List.take_add_one, List.getElem?_eq_getElem (by rw [HN.out]; exact hlt), sth_lt (by rw [HN.out]; exact hlt)]; rfl
      cases hM : M j with
      | none =>
        have HE : Hid (R = (3, none)) := by
          show R = (3, none)
          rw [← HFo.out, hdr, fo_file hM]
        rw [hM] at cB
        clear hM hdr htk
        go_wp2
        go_ret2
        exact ⟨by rw [HE.out]; rfl, HBw.out⟩
      | some m =>
        rw [hM] at cB
        have HSh : Hid _ := fun (w' : World) (hb : Below wr.heap.size wr w') => shown_any w' (.slice a (k + 1) c) _ ((HV.out.later (Nat.le_refl _) (HBw.out.trans (hb.mono HBw.out.size))).upto hlt) (wid_take HNm.out (by rw [HN.out]; exact hl) (k + 1))
        have HF : Hid _ := fun (w' : World) (hb : Below wr.heap.size wr w') => find_any w' vD (.slice (some ⟨b2, o2, none⟩) nB c2) D (HD.out.later (HBw.out.trans (hb.mono HBw.out.size))) (bs (shw (ns.take (k + 1))))
        rw [data_bs, HMt.out.find (by rw [List.length_take]; omega) fun x hx => HNm.out x (List.mem_of_mem_take hx)] at HF
        have HSz : (bs (shw (ns.take (k + 1)))).size ≤ 1000001 := by
          rw [Lib.size_eq, data_bs, shw_len]
          have := wid_take HNm.out (by rw [HN.out]; exact hl) (k + 1)
          split <;> omega
        have hq0 : (0 : Int) ≤ (k : Int) + 1 := by omega
        have hq1 : (k : Int) + 1 ≤ (c : Int) := by omega
        have hq2 : ((k : Int) + 1).toNat = k + 1 := by omega
        have hq3 : IntKind.i64.wrap ((k : Int) + 1) = (k : Int) + 1 := wrap_sm (by omega) (by omega)
        cases hlk : look L (ns.take (k + 1)) with
        | none =>
          have HE : Hid (R = (5, none)) := by
            show R = (5, none)
            rw [← HFo.out, hdr, fo_none hM (by rw [← htk]; exact hlk)]
          rw [hlk] at HF
          simp only [nO] at HF
          clear hM hdr htk hlk
          generalize bs (shw (ns.take (k + 1))) = sx at *
          go_wp2
          go_region_held3 (fun w' => w'.cell? ⟨w.heap.size, 0, none⟩ = some vD ∧ w'.cell? ⟨w.heap.size, 1, none⟩ = some (.slice (some ⟨b2, o2, none⟩) nB c2))
            (first | go_keep | (go_split_ands; exact HX.out _ (HBr.out.trans (HB2.out.mono HBr.out.size))))
            (first
              | (go_at_call 10; refine (HSh.out _ (below_draw _ _)).mono ?_; rintro e w2 ⟨rfl, rfl⟩)
              | (go_at_call 48; refine (HF.out _ (below_draw _ _)).mono ?_; rintro e w2 ⟨rfl, hb2⟩; have HB2 : Hid (Below wr.heap.size wr w2) := undrewB hb2))
          go_wp2
          go_ret2
          exact ⟨by rw [HE.out]; rfl, HBw.out.trans (HB2.out.mono HBw.out.size)⟩
        | some j' =>
          have HFo2 : Hid (fo L M (ns.take (k + 1)) j' (ns.drop (k + 1)) = R) := by
            show fo L M (ns.take (k + 1)) j' (ns.drop (k + 1)) = R
            rw [← HFo.out, hdr, fo_some hM (by rw [← htk]; exact hlk), htk]
          have HLk2 : Hid (look L (ns.take (k + 1)) = some j') := hlk
          rw [hlk] at HF
          simp only [nO] at HF
          obtain ⟨z2, hz2⟩ : ∃ z2, num j' = z2 := ⟨_, rfl⟩
          have HZ2 : Hid (num j' = z2) := hz2
          rw [hz2] at HF
          clear hM hdr htk hlk hz2
          generalize bs (shw (ns.take (k + 1))) = sx at *
          go_wp2
          go_region_held3 (fun w' => w'.cell? ⟨w.heap.size, 0, none⟩ = some vD ∧ w'.cell? ⟨w.heap.size, 1, none⟩ = some (.slice (some ⟨b2, o2, none⟩) nB c2))
            (first | go_keep | (go_split_ands; exact HX.out _ (HBr.out.trans (HB2.out.mono HBr.out.size))))
            (first
              | (go_at_call 10; refine (HSh.out _ (below_draw _ _)).mono ?_; rintro e w2 ⟨rfl, rfl⟩)
              | (go_at_call 48; refine (HF.out _ (below_draw _ _)).mono ?_; rintro e w2 ⟨rfl, hb2⟩; have HB2 : Hid (Below wr.heap.size wr w2) := undrewB hb2))
          go_wp2
          go_roundw
          case rel => exact ⟨k + 1, j', by go_num, by omega, by rw [HZ2.out], HLk2.out, HFo2.out, HBr.out.trans (HB2.out.mono HBr.out.size)⟩
          case measure => simp [intOf]; omega
    · have hkn : k = N := by omega
      have HE : Hid (R = (0, some j)) := by
        show R = (0, some j)
        rw [← HFo.out, List.drop_of_length_le (by rw [HN.out]; omega)]; rfl
      clear hkn
      go_wp2
      go_ret2
      exact ⟨by rw [HE.out]; show _ = Ending.returned (Value.tuple #[.int .i64 (num j : Nat), _]); rw [HZ.out]; rfl, HBw.out⟩

end Go.Proofs.YtdlmkienogimgaaGreatDoor

namespace Go.Proofs.YtdlmkienogimgaaGreatDoor
open Go.RowKit Go.Deep Go.Shelf


theorem rparts_any (w : World) (s : ByteArray) (hs : s.size ≤ maxLen) :
    Calls Tryz.prog 27 #[.string s] w fun e w' => ∃ v, e = .returned (.tuple #[v, .int .i64 (pE s.data.toList : Int)]) ∧ StrsIs w' v (nms s.data.toList) ∧ Below w.heap.size w w' := by
  unfold maxLen at hs
  have hsz : s.size = s.data.toList.length := Lib.size_eq s
  by_cases h1 : 60 < s.size
  · have he := pE_long (l := s.data.toList) (by omega)
    rw [nms_none (by rw [he]; decide), he]
    clear he hsz
    go_enter Tryz.func27, Tryz.ntmps27
    go_wp2
    go_ret2
    exact ⟨_, rfl, strs_nil _ _ _, Below.refl _ _⟩
  · by_cases h0 : 0 < s.size
    · cases hp : ((s[0].toNat : Int) == 47) with
      | true => exact rparts_loop w s (by omega) h0 hp
      | false =>
        have he := pE_bare (l := s.data.toList) (by omega) (by rw [pre_get s h0]; exact hp)
        rw [nms_none (by rw [he]; decide), he]
        have hz : ((s.size : Int) == 0) = false := by rw [beq_eq_false_iff_ne]; omega
        have hp2 : ((s[0].toNat : Int) != 47) = true := by rw [bne, hp]; rfl
        have hne : ¬ s = ByteArray.empty := fun e => by rw [e] at h0; simp at h0
        clear hp he hsz
        go_enter Tryz.func27, Tryz.ntmps27
        go_wp2
        go_ret2
        exact ⟨_, rfl, strs_nil _ _ _, Below.refl _ _⟩
    · have hsn : s = ⟨#[]⟩ := by
        rw [← bs_data s, show s.data.toList = [] from List.length_eq_zero_iff.1 (by omega)]; rfl
      subst hsn
      go_enter Tryz.func27, Tryz.ntmps27
      go_wp2
      go_ret2
      exact ⟨_, rfl, strs_nil _ _ _, Below.refl _ _⟩

theorem pN_right {l : List UInt8} (h : pE l = 0) : (pN l).length ≤ 8 ∧ ∀ k ∈ pN l, isN k = true := by
  obtain ⟨_, ⟨r, hr⟩, _, h6⟩ := pE_ok h
  exact ⟨by rw [hr] at h6 ⊢; simpa [pN] using h6, fun k hk => fol_names _ k hk⟩

set_option maxHeartbeats 4000000 in
set_option maxRecDepth 100000 in
theorem dthing_any (w : World) (vD vB : Value) (L : List Ent) (M : Nat → Option Nat) (num : Nat → Nat) (D : List Nm) (B : List Bool) (hD : NamedIs w vD D) (hB : BoolsIs w vB B) (hm : Mt L M num D B) (s : ByteArray) (hs : s.size ≤ maxLen) :
    Calls Tryz.prog 21 #[.agg #[vD, vB], .string s] w fun e w' => e = .returned (.tuple #[.int .i64 (nU num (atS L M s.data.toList).2), .int .i64 ((atS L M s.data.toList).1 : Nat)]) ∧ Below w.heap.size w w' := by
  have hb1 := below_alloc w (.cells #[vD, vB] 42)
  have HP : Hid _ := fun (_ : Nat) => rparts_any (w.alloc (.cells #[vD, vB] 42)) s hs
  by_cases he : pE s.data.toList = 0
  · have hA : atS L M s.data.toList = atF L M (pN s.data.toList) := if_pos he
    obtain ⟨g1, g2⟩ := pN_right he
    rw [hA]
    rw [he, nms_pN he] at HP
    have HF : Hid _ := fun (w' : World) (v : Value) (hb : Below (w.alloc (.cells #[vD, vB] 42)).heap.size (w.alloc (.cells #[vD, vB] 42)) w') (hv : StrsIs w' v (pN s.data.toList)) =>
      dat_any w' vD vB L M num D B ((hD.later hb1).later hb) ((hB.later hb1).later hb) hm v _ hv g1 g2
    have HX : Hid (∀ w', Below (w.alloc (.cells #[vD, vB] 42)).heap.size (w.alloc (.cells #[vD, vB] 42)) w' → w'.cell? ⟨w.heap.size, 0, none⟩ = some vD ∧ w'.cell? ⟨w.heap.size, 1, none⟩ = some vB) :=
      fun w' hb => ⟨keepU hb (cell_new w _ _ 0), keepU hb (cell_new w _ _ 1)⟩
    generalize nU num (atF L M (pN s.data.toList)).2 = n1 at *
    generalize ((atF L M (pN s.data.toList)).1 : Int) = n2 at *
    generalize pN s.data.toList = ns at *
    clear hA he g1 g2 hm hD hB
    have HB1 : Hid (Below w.heap.size w (w.alloc (.cells #[vD, vB] 42))) := hb1
    clear hb1
    go_enter Tryz.func21, Tryz.ntmps21
    go_wp2_with fail
    refine Calls.mono (HP.out 0) ?_
    rintro e w2 ⟨v2, rfl, hv2, hb2⟩
    obtain ⟨x0, x1⟩ := HX.out w2 hb2
    go_wp2_with fail
    refine Calls.mono (HF.out w2 v2 hb2 hv2) ?_
    rintro e w3 ⟨rfl, hb3⟩
    go_wp2_with fail
    go_ret2
    exact ⟨rfl, HB1.out.trans ((hb2.trans (hb3.mono hb2.size)).mono HB1.out.size)⟩
  · have hA : atS L M s.data.toList = (pE s.data.toList, none) := if_neg he
    rw [hA]
    rw [nms_none he] at HP
    simp only [nU]
    have hz : ¬ ((pE s.data.toList : Int) = 0) := by omega
    generalize (pE s.data.toList : Int) = n2 at *
    have HB1 : Hid (Below w.heap.size w (w.alloc (.cells #[vD, vB] 42))) := hb1
    clear hA he hb1 hD hB hm
    go_enter Tryz.func21, Tryz.ntmps21
    go_wp2_with fail
    refine Calls.mono (HP.out 0) ?_
    rintro e w2 ⟨v2, rfl, hv2, hb2⟩
    clear hv2
    go_wp2_with fail
    go_ret2
    exact ⟨rfl, HB1.out.trans (hb2.mono HB1.out.size)⟩

end Go.Proofs.YtdlmkienogimgaaGreatDoor

namespace Go.Proofs.YtdlmkienogimgaaGreatDoor
open Go.RowKit Go.Deep Go.Shelf

/-- The text of a spot. -/
def spT (L : List Ent) (M : Nat → Option Nat) (l : List UInt8) : List UInt8 := if spE L M l = 0 then shw (pN l) else []

set_option maxHeartbeats 8000000 in
set_option maxRecDepth 100000 in
theorem dspot_any (w : World) (vD vB : Value) (L : List Ent) (M : Nat → Option Nat) (num : Nat → Nat) (D : List Nm) (B : List Bool) (hD : NamedIs w vD D) (hB : BoolsIs w vB B) (hm : Mt L M num D B) (s : ByteArray) (hs : s.size ≤ maxLen) :
    Calls Tryz.prog 47 #[.agg #[vD, vB], .string s] w fun e w' => e = .returned (.tuple #[.string (bs (spT L M s.data.toList)), .int .i64 (spE L M s.data.toList : Nat)]) ∧ Below w.heap.size w w' := by
  have HB1 : Hid (Below w.heap.size w (w.alloc (.cells #[vD, vB] 42))) := below_alloc w _
  have HP : Hid _ := fun (_ : Nat) => rparts_any (w.alloc (.cells #[vD, vB] 42)) s hs
  obtain ⟨l, hl⟩ : ∃ l, s.data.toList = l := ⟨_, rfl⟩
  rw [hl] at HP ⊢
  clear hl
  by_cases he : pE l = 0
  · obtain ⟨g1, g2⟩ := pN_right he
    rw [he, nms_pN he] at HP
    by_cases h0 : pN l = []
    · have hE : spE L M l = 7 := by unfold spE; rw [if_neg (by simp [he]), if_pos h0]
      have hT : spT L M l = [] := by unfold spT; rw [hE]; rfl
      rw [hE, hT]
      rw [h0] at HP
      clear hE hT h0 g1 g2 he hm hD hB
      go_enter Tryz.func47, Tryz.ntmps47
      go_wp2_with fail
      refine Calls.mono (HP.out 0) ?_
      rintro e w2 ⟨v2, rfl, hv2, hb2⟩
      obtain ⟨a2, c2, rfl⟩ := strs_form hv2
      clear hv2
      go_wp2_with fail
      go_ret2
      exact ⟨rfl, HB1.out.trans (hb2.mono HB1.out.size)⟩
    · obtain ⟨q, k, hqk⟩ : ∃ q k, pN l = q ++ [k] := ⟨_, _, (List.dropLast_concat_getLast h0).symm⟩
      have hE : spE L M l = if (atF L M q).1 ≠ 0 then (atF L M q).1 else if M ((atF L M q).2.getD 0) = none then 3 else 0 := by
        unfold spE
        rw [if_neg (by simp [he]), if_neg h0, hqk, List.dropLast_concat]
      have hT : spT L M l = if spE L M l = 0 then shw (q ++ [k]) else [] := by unfold spT; rw [hqk]
      rw [hqk] at HP g1 g2
      obtain ⟨N, hN⟩ : ∃ N, (q ++ [k]).length = N + 1 := ⟨q.length, by simp⟩
      have HN : Hid ((q ++ [k]).length = N + 1) := hN
      have hN8 : N ≤ 7 := by omega
      have HF : Hid _ := fun (w1 w' : World) (a : Option Addr) (c : Nat) (hv : StrsIs w1 (.slice a (N + 1) c) (q ++ [k])) (hb : Below w1.heap.size w1 w') (hb0 : Below w.heap.size w w') =>
        dat_any w' vD vB L M num D B (hD.later hb0) (hB.later hb0) hm (.slice a N c) q (by have := (hv.later (Nat.le_refl _) hb).less; rw [List.dropLast_concat] at this; exact this) (by rw [List.length_append] at g1; omega) (fun x hx => g2 x (by simp [hx]))
      have HS : Hid _ := fun (w1 w' : World) (a : Option Addr) (c : Nat) (hv : StrsIs w1 (.slice a (N + 1) c) (q ++ [k])) (hb : Below w1.heap.size w1 w') => shown_any w' _ _ (hv.later (Nat.le_refl _) hb) (by have := wid_names g2; omega)
      have HX : Hid (∀ w', Below (w.alloc (.cells #[vD, vB] 42)).heap.size (w.alloc (.cells #[vD, vB] 42)) w' → w'.cell? ⟨w.heap.size, 0, none⟩ = some vD ∧ w'.cell? ⟨w.heap.size, 1, none⟩ = some vB) :=
        fun w' hb => ⟨keepU hb (cell_new w _ _ 0), keepU hb (cell_new w _ _ 1)⟩
      obtain ⟨a2, cc2, b2, o2, hvB, hlB, ha2, hc2⟩ := hB.where
      have HCB : Hid (∀ w', Below w.heap.size w w' → ∀ i, i < B.length → w'.cell? ⟨b2, o2 + i, none⟩ = some (.bool (B.getD i false))) := fun w' hb i hi => keepU hb (hc2 i hi)
      clear h0 he g1 g2 hD hqk
      rcases atF_cases hm.good q with ⟨j, hj, hlj⟩ | ⟨e, hee, hj, _⟩
      · obtain ⟨hj1, hj2⟩ := hm.dirs _ _ (look_mem hlj)
        rw [hj] at HF hE
        simp only [nU, Option.getD_some, ne_eq, not_true_eq_false, if_false] at HF hE
        obtain ⟨z, hz⟩ : ∃ z, num j = z := ⟨_, rfl⟩
        rw [hz] at HF hj1 hj2
        obtain ⟨nB, hnB⟩ : ∃ nB, B.length = nB := ⟨_, rfl⟩
        have haa := ha2 (by omega)
        subst haa
        rw [hnB] at hlB hj1 hvB HCB
        subst hvB
        unfold maxLen at hlB
        clear hB ha2 hc2 hj hlj hz hnB hN
        cases hM : M j with
        | none =>
          rw [hM] at hj2
          have hE3 : spE L M l = 3 := by rw [hE]; simp [hM]
          have hT3 : spT L M l = [] := by rw [hT, hE3]; rfl
          have HJ : Hid (B.getD z false = false) := hj2
          rw [hE3, hT3]
          clear hM hE hT hE3 hT3 hj2 hm
          go_enter Tryz.func47, Tryz.ntmps47
          go_wp2_with fail
          refine Calls.mono (HP.out 0) ?_
          rintro e w2 ⟨v2, rfl, hv2, hb2⟩
          obtain ⟨a1, c1, b1, o1, rfl, hcap, _, ha1, _⟩ := hv2.where
          obtain ⟨rfl, _⟩ := ha1 (by rw [HN.out]; omega)
          clear ha1
          have hHN := HN.out
          have HV2 : Hid (StrsIs w2 (.slice (some ⟨b1, o1, none⟩) (N + 1) c1) (q ++ [k])) := by rw [hHN] at hv2; exact hv2
          rw [hHN] at hcap ⊢
          have hq0 : (0 : Int) ≤ (N : Int) := by omega
          have hq1 : (N : Int) ≤ (c1 : Int) := by omega
          have hq3 : IntKind.i64.wrap (N : Int) = (N : Int) := wrap_sm (by omega) (by omega)
          have hq4 : ((N : Int) + 1 == 0) = false := by simp; omega
          have HB2 : Hid (Below (w.alloc (.cells #[vD, (Value.slice (some ⟨b2, o2, none⟩) nB cc2)] 42)).heap.size (w.alloc (.cells #[vD, (Value.slice (some ⟨b2, o2, none⟩) nB cc2)] 42)) w2) := hb2
          have HB02 : Hid (Below w.heap.size w w2) := HB1.out.trans (hb2.mono HB1.out.size)
          have HF2 : Hid _ := fun (w' : World) (hb : Below w2.heap.size w2 w') => HF.out w2 w' (some ⟨b1, o1, none⟩) c1 HV2.out hb (HB02.out.trans (hb.mono HB02.out.size))
          obtain ⟨x0, x1⟩ := HX.out w2 hb2
          clear hv2 hHN hb2
          go_wp2_with fail
          go_region_held3 (fun w' => w'.cell? ⟨w.heap.size, 0, none⟩ = some vD ∧ w'.cell? ⟨w.heap.size, 1, none⟩ = some ((Value.slice (some ⟨b2, o2, none⟩) nB cc2)))
            (first | go_keep | (go_split_ands; exact HX.out _ (HB2.out.trans (HB3.out.mono HB2.out.size))))
            (first
              | (go_at_call 50; refine (HF2.out _ (below_draw _ _)).mono ?_; rintro e w3 ⟨rfl, hb3⟩; have HB3 : Hid (Below w2.heap.size w2 w3) := undrewB hb3))
          have HB03 : Hid (Below w.heap.size w w3) := HB02.out.trans (HB3.out.mono HB02.out.size)
          obtain ⟨x0, x1⟩ := HX.out w3 (HB2.out.trans (HB3.out.mono HB2.out.size))
          have cB := HCB.out w3 HB03.out z hj1
          rw [HJ.out] at cB
          go_wp2_with fail
          go_ret2
          exact ⟨rfl, HB03.out⟩
        | some m =>
          rw [hM] at hj2
          have hE3 : spE L M l = 0 := by rw [hE]; simp [hM]
          have hT3 : spT L M l = shw (q ++ [k]) := by rw [hT, hE3]; rfl
          have HJ : Hid (B.getD z false = true) := hj2
          rw [hE3, hT3]
          clear hM hE hT hE3 hT3 hj2 hm
          go_enter Tryz.func47, Tryz.ntmps47
          go_wp2_with fail
          refine Calls.mono (HP.out 0) ?_
          rintro e w2 ⟨v2, rfl, hv2, hb2⟩
          obtain ⟨a1, c1, b1, o1, rfl, hcap, _, ha1, _⟩ := hv2.where
          obtain ⟨rfl, _⟩ := ha1 (by rw [HN.out]; omega)
          clear ha1
          have hHN := HN.out
          have HV2 : Hid (StrsIs w2 (.slice (some ⟨b1, o1, none⟩) (N + 1) c1) (q ++ [k])) := by rw [hHN] at hv2; exact hv2
          rw [hHN] at hcap ⊢
          have hq0 : (0 : Int) ≤ (N : Int) := by omega
          have hq1 : (N : Int) ≤ (c1 : Int) := by omega
          have hq3 : IntKind.i64.wrap (N : Int) = (N : Int) := wrap_sm (by omega) (by omega)
          have hq4 : ((N : Int) + 1 == 0) = false := by simp; omega
          have HB2 : Hid (Below (w.alloc (.cells #[vD, (Value.slice (some ⟨b2, o2, none⟩) nB cc2)] 42)).heap.size (w.alloc (.cells #[vD, (Value.slice (some ⟨b2, o2, none⟩) nB cc2)] 42)) w2) := hb2
          have HB02 : Hid (Below w.heap.size w w2) := HB1.out.trans (hb2.mono HB1.out.size)
          have HF2 : Hid _ := fun (w' : World) (hb : Below w2.heap.size w2 w') => HF.out w2 w' (some ⟨b1, o1, none⟩) c1 HV2.out hb (HB02.out.trans (hb.mono HB02.out.size))
          obtain ⟨x0, x1⟩ := HX.out w2 hb2
          clear hv2 hHN hb2
          go_wp2_with fail
          go_region_held3 (fun w' => w'.cell? ⟨w.heap.size, 0, none⟩ = some vD ∧ w'.cell? ⟨w.heap.size, 1, none⟩ = some ((Value.slice (some ⟨b2, o2, none⟩) nB cc2)))
            (first | go_keep | (go_split_ands; exact HX.out _ (HB2.out.trans (HB3.out.mono HB2.out.size))))
            (first
              | (go_at_call 50; refine (HF2.out _ (below_draw _ _)).mono ?_; rintro e w3 ⟨rfl, hb3⟩; have HB3 : Hid (Below w2.heap.size w2 w3) := undrewB hb3))
          have HB03 : Hid (Below w.heap.size w w3) := HB02.out.trans (HB3.out.mono HB02.out.size)
          obtain ⟨x0, x1⟩ := HX.out w3 (HB2.out.trans (HB3.out.mono HB2.out.size))
          have cB := HCB.out w3 HB03.out z hj1
          rw [HJ.out] at cB
          have HS3 : Hid _ := HS.out w2 w3 (some ⟨b1, o1, none⟩) c1 HV2.out HB3.out
          go_wp2_with fail
          refine Calls.mono HS3.out ?_
          rintro e w4 ⟨rfl, rfl⟩
          go_wp2_with fail
          go_ret2
          exact ⟨rfl, HB03.out⟩
      · rw [hj] at HF hE
        have he0 : e ≠ 0 := by rcases hee with rfl | rfl <;> decide
        have hE3 : spE L M l = e := by rw [hE, if_pos he0]
        have hT3 : spT L M l = [] := by rw [hT, hE3, if_neg he0]
        simp only [nU] at HF
        rw [hE3, hT3]
        have hz : ¬ ((e : Int) = 0) := by omega
        generalize (e : Int) = E at *
        clear hE hT hE3 hT3 he0 hm hB hj hee hN ha2 hc2 HCB hvB
        go_enter Tryz.func47, Tryz.ntmps47
        go_wp2_with fail
        refine Calls.mono (HP.out 0) ?_
        rintro e w2 ⟨v2, rfl, hv2, hb2⟩
        obtain ⟨a1, c1, b1, o1, rfl, hcap, _, ha1, _⟩ := hv2.where
        obtain ⟨rfl, _⟩ := ha1 (by rw [HN.out]; omega)
        clear ha1
        have hHN := HN.out
        have HV2 : Hid (StrsIs w2 (.slice (some ⟨b1, o1, none⟩) (N + 1) c1) (q ++ [k])) := by rw [hHN] at hv2; exact hv2
        rw [hHN] at hcap ⊢
        have hq0 : (0 : Int) ≤ (N : Int) := by omega
        have hq1 : (N : Int) ≤ (c1 : Int) := by omega
        have hq3 : IntKind.i64.wrap (N : Int) = (N : Int) := wrap_sm (by omega) (by omega)
        have hq4 : ((N : Int) + 1 == 0) = false := by simp; omega
        have HB2 : Hid (Below (w.alloc (.cells #[vD, vB] 42)).heap.size (w.alloc (.cells #[vD, vB] 42)) w2) := hb2
        have HB02 : Hid (Below w.heap.size w w2) := HB1.out.trans (hb2.mono HB1.out.size)
        have HF2 : Hid _ := fun (w' : World) (hb : Below w2.heap.size w2 w') => HF.out w2 w' (some ⟨b1, o1, none⟩) c1 HV2.out hb (HB02.out.trans (hb.mono HB02.out.size))
        obtain ⟨x0, x1⟩ := HX.out w2 hb2
        clear hv2 hHN hb2
        go_wp2_with fail
        go_region_held3 (fun w' => w'.cell? ⟨w.heap.size, 0, none⟩ = some vD ∧ w'.cell? ⟨w.heap.size, 1, none⟩ = some vB)
          (first | go_keep | (go_split_ands; exact HX.out _ (HB2.out.trans (HB3.out.mono HB2.out.size))))
          (first
            | (go_at_call 50; refine (HF2.out _ (below_draw _ _)).mono ?_; rintro e w3 ⟨rfl, hb3⟩; have HB3 : Hid (Below w2.heap.size w2 w3) := undrewB hb3))
        have HB03 : Hid (Below w.heap.size w w3) := HB02.out.trans (HB3.out.mono HB02.out.size)
        go_wp2_with fail
        go_ret2
        exact ⟨rfl, HB03.out⟩
  · have hE : spE L M l = pE l := by unfold spE; rw [if_pos he]
    have hT : spT L M l = [] := by unfold spT; rw [hE, if_neg he]
    rw [hT, hE]
    rw [nms_none he] at HP
    have hz : ¬ ((pE l : Int) = 0) := by omega
    generalize (pE l : Int) = n2 at *
    clear hE hT he hD hB hm
    go_enter Tryz.func47, Tryz.ntmps47
    go_wp2_with fail
    refine Calls.mono (HP.out 0) ?_
    rintro e w2 ⟨v2, rfl, hv2, hb2⟩
    clear hv2
    go_wp2_with fail
    go_ret2
    exact ⟨rfl, HB1.out.trans (hb2.mono HB1.out.size)⟩

end Go.Proofs.YtdlmkienogimgaaGreatDoor

namespace Go.Proofs.YtdlmkienogimgaaGreatDoor
open Go.RowKit Go.Deep Go.Shelf

/-- How many names have a number. -/
def mny (D : List Nm) (z : Nat) : Nat := D.countP fun x => decide (x.2 = z)
theorem mny_succ {D : List Nm} {z k : Nat} (h : k < D.length) : mny (D.take (k + 1)) z = mny (D.take k) z + if (nAt D k).2 = z then 1 else 0 := by
  unfold mny
  rw [List.take_add_one, List.getElem?_eq_getElem h, List.countP_append, nAt_lt h]
  by_cases e : (D[k]).2 = z <;> simp [e]
theorem mny_le (D : List Nm) (z k : Nat) : mny (D.take k) z ≤ k := by
  unfold mny
  have h1 := List.countP_le_length (p := fun x : Nm => decide (x.2 = z)) (l := D.take k)
  rw [List.length_take] at h1
  omega

set_option maxHeartbeats 2000000 in
theorem many_any (w : World) (vD vB : Value) (D : List Nm) (hD : NamedIs w vD D) (z : Nat) :
    Calls Tryz.prog 25 #[.agg #[vD, vB], .int .i64 (z : Nat)] w fun e w' => e = .returned (.int .i64 (mny D z : Nat)) ∧ Below w.heap.size w w' := by
  obtain ⟨a, c, b, o, rfl, hl, ha, _, hc⟩ := hD.where
  obtain ⟨n, hn⟩ : ∃ n, D.length = n := ⟨_, rfl⟩
  have HN : Hid (D.length = n) := hn
  have HA : Hid (0 < n → a = some ⟨b, o, none⟩) := by rw [← hn]; exact ha
  have HC : Hid (∀ w', Below w.heap.size w w' → ∀ i, i < n → w'.cell? ⟨b, o + i * 2, none⟩ = some (.string (bs (nAt D i).1)) ∧ w'.cell? ⟨b, o + i * 2 + 1, none⟩ = some (.int .i64 ((nAt D i).2 : Int))) :=
    fun w' hb i hi => ⟨keepU hb (hc i (by omega)).1, keepU hb (hc i (by omega)).2⟩
  have HT : Hid (mny (D.take n) z = mny D z) := by
    show mny (D.take n) z = mny D z
    rw [List.take_of_length_le (by omega)]
  rw [hn] at hl ⊢
  unfold maxLen at hl
  clear hD ha hc hn
  go_enter Tryz.func25, Tryz.ntmps25
  go_wp2
  have HC1 : Hid _ := HC.out _ (below_alloc w (.cells #[.slice a n c, vB] 42))
  go_loop [5, 6] (fun m i => ∃ k u : Nat, k ≤ n ∧ i = .int .i64 k ∧ m = .int .i64 (u : Nat) ∧ u ≤ k ∧ mny (D.take k) z = u) (fun _ i => n - (intOf i).toNat)
  case atStart => exact ⟨0, 0, Nat.zero_le _, rfl, rfl, Nat.le_refl _, by simp [mny]⟩
  case round =>
    obtain ⟨k, u, hk, rfl, rfl, hu, hm⟩ := hrel
    have HM : Hid (mny (D.take k) z = u) := hm
    clear hm
    by_cases hlt : k < n
    · have haa := HA.out (by omega)
      subst haa
      obtain ⟨h1, h2⟩ := HC1.out k hlt
      have HS : Hid (mny (D.take (k + 1)) z = u + if (nAt D k).2 = z then 1 else 0) := by
        show mny (D.take (k + 1)) z = _
        rw [mny_succ (by rw [HN.out]; exact hlt), HM.out]
      clear h1
      by_cases he : (nAt D k).2 = z
      · rw [if_pos he] at HS
        rw [he] at h2
        clear he
        go_wp2
        go_round
        case rel => exact ⟨k + 1, u + 1, by omega, by go_num, by go_num, by omega, HS.out⟩
        case measure => simp [intOf]; omega
      · rw [if_neg he] at HS
        have hq : (((nAt D k).2 : Int) == (z : Int)) = false := by simp; omega
        generalize (nAt D k).2 = y at *
        go_wp2
        go_round
        case rel => exact ⟨k + 1, u, by omega, by go_num, by go_num, by omega, HS.out⟩
        case measure => simp [intOf]; omega
    · have hkn : k = n := by omega
      have HE : Hid (mny D z = u) := by
        show mny D z = u
        rw [← HM.out, hkn, HT.out]
      clear hkn
      go_wp2
      go_ret
      exact ⟨(congrArg (fun y : Nat => Ending.returned (Value.int .i64 (y : Int))) HE.out).symm, below_alloc _ _⟩

/-- The document's count is the program's. -/
theorem Mt.many {L : List Ent} {M : Nat → Option Nat} {num : Nat → Nat} {D : List Nm} {B : List Bool} (h : Mt L M num D B) {p : List (List UInt8)} {j : Nat} (hj : (p, j) ∈ L) : mny D (num j) = (wka L).countP fun x => decide (x.2 = j) := by
  obtain ⟨r, t, hL, _⟩ := h.good.root
  rw [(wka_perm h.good).countP_eq]
  unfold mny
  rw [h.names, List.countP_map]
  refine List.countP_congr fun x hx => ?_
  have hx' : (x.1, x.2) ∈ L := by rw [hL] at hx ⊢; exact List.mem_cons_of_mem _ hx
  simp only [Function.comp, decide_eq_true_eq]
  exact ⟨fun e => h.inj _ _ _ _ hx' hj e, fun e => by rw [e]⟩

end Go.Proofs.YtdlmkienogimgaaGreatDoor

namespace Go.Proofs.YtdlmkienogimgaaGreatDoor
open Go.RowKit Go.Deep Go.Shelf

theorem isL_ne {c : UInt8} (h : isL c = true) : c ≠ 47 := by
  rintro rfl
  exact absurd h (by decide)
theorem sls_name {k : List UInt8} (h : k.all isL = true) : sls k = 0 := by
  unfold sls
  rw [List.countP_eq_zero]
  intro c hc
  have := List.all_eq_true.1 h c hc
  simpa using isL_ne this
theorem sls_sg : ∀ {p : List (List UInt8)}, (∀ k ∈ p, isN k = true) → sls (sg p) = p.length
  | [], _ => rfl
  | k :: p, h => by
    have h1 := sls_name (isN_all (h k (by simp)))
    have h2 := sls_sg (p := p) fun x hx => h x (by simp [hx])
    unfold sls at h1 h2 ⊢
    rw [sg_cons, List.countP_cons, List.countP_append, h1, h2, List.length_cons]
    simp
/-- Names begin names just where the texts do. -/
theorem sg_bgn {p x : List (List UInt8)} (hp : ∀ k ∈ p, isN k = true) (hx : ∀ k ∈ x, isN k = true) : bgn (sg x) (sg p) = true ↔ ∃ k u, x = p ++ k :: u := by
  unfold bgn
  rw [decide_eq_true_iff]
  constructor
  · intro h
    by_cases hl : (sg p ++ [47]).length < (sg x ++ []).length
    · exact sg_pre p x [] hp hx (.inl rfl) (by simpa using h) hl
    · exfalso
      obtain ⟨u, hu⟩ := h
      have hul : u = [] := by
        have := congrArg List.length hu
        simp at this hl
        exact List.length_eq_zero_iff.1 (by omega)
      rw [hul, List.append_nil] at hu
      by_cases h0 : x = []
      · subst h0
        have := congrArg List.length hu
        simp [sg] at this
      · obtain ⟨a, c, e, hc⟩ := sg_last h0 hx
        rw [e] at hu
        have := (List.append_inj' hu rfl).2
        simp at this
        exact isL_ne hc this.symm
  · rintro ⟨k, u, rfl⟩
    refine ⟨k ++ sg u, ?_⟩
    simp [sg]

end Go.Proofs.YtdlmkienogimgaaGreatDoor

namespace Go.Proofs.YtdlmkienogimgaaGreatDoor
open Go.RowKit Go.Deep Go.Shelf

theorem new_mt {r : Nat} {M : Nat → Option Nat} (h : (M r).isSome = true) : Mt [([], r)] M (fun _ => 0) [] [true] := by
  have hm : ∀ (p : List (List UInt8)) (i : Nat), (p, i) ∈ [(([] : List (List UInt8)), r)] → i = r := fun p i hi => by
    rw [List.mem_singleton] at hi
    cases hi; rfl
  refine ⟨root_good r M h, rfl, fun p i hi => ?_, fun p i q j hi hj _ => by rw [hm p i hi, hm q j hj], fun _ _ => rfl⟩
  rw [hm p i hi]
  exact ⟨by simp, by rw [h]; rfl⟩

theorem results_cell1 {fn : Func} {p : Tmp} {ty : TypeId} (h : fn.results = #[.cell p ty]) (tmps : Array Value) (P : Program) (w : World) :
    (results fn tmps).run P w = ((asAddr (tmps.getD p undef)).run P w).andThen fun a w₁ => (loadVar ty a).run P w₁ := by
  simp only [results, h]
  simp [Sem.run_bind, Result.andThen]

set_option maxHeartbeats 2000000 in
theorem newTree_any (w : World) : Calls Tryz.prog 18 #[] w fun e w' => ∃ vD vB, e = .returned (.agg #[vD, vB]) ∧ NamedIs w' vD [] ∧ BoolsIs w' vB [true] ∧ Below w.heap.size w w' := by
  go_enter Tryz.func18, Tryz.ntmps18
  go_wp2
  refine bodyPost_ret (v := .agg #[.slice none 0 0, .slice (some ⟨w.heap.size + 1, 0, none⟩) 1 1]) ?_ rfl ?_
  · rw [results_cell1 rfl]
    go_simp
  · refine ⟨_, _, rfl, ⟨none, 0, rfl, by simp, fun h => absurd rfl h⟩, ⟨_, 1, rfl, by simp [maxLen], fun _ => ⟨w.heap.size + 1, 0, rfl, by simp, fun i hi => ?_⟩⟩, ?_⟩
    · have : i = 0 := by simpa using hi
      subst this
      simp
    · exact (below_alloc w _).trans ((below_alloc _ _).mono (by simp))

end Go.Proofs.YtdlmkienogimgaaGreatDoor

namespace Go.Proofs.YtdlmkienogimgaaGreatDoor
open Go.RowKit Go.Deep Go.Shelf

def srt (l : List (List UInt8)) : List (List UInt8) := l.mergeSort fun x y => decide (x ≤ y)
theorem srt_perm (l : List (List UInt8)) : (srt l).Perm l := List.mergeSort_perm l _
theorem srt_len (l : List (List UInt8)) : (srt l).length = l.length := (srt_perm l).length_eq
theorem srt_lt {l : List (List UInt8)} (h : l.Nodup) : (srt l).Pairwise (· < ·) := sorted_lt h
/-- What is left when the first n were taken. -/
def lft (l : List (List UInt8)) (n : Nat) (x : List UInt8) : Prop := x ∈ l ∧ x ∉ (srt l).take n
theorem lft_at {l : List (List UInt8)} (h : l.Nodup) {n : Nat} (hn : n < l.length) : lft l n (sth (srt l) n) := by
  have hs : n < (srt l).length := by rw [srt_len]; exact hn
  refine ⟨(srt_perm l).mem_iff.1 (sth_mem hs), fun hm => ?_⟩
  obtain ⟨m, hm1, hm2⟩ := List.getElem_of_mem hm
  rw [List.length_take] at hm1
  rw [List.getElem_take, sth_lt hs] at hm2
  have := (List.pairwise_iff_getElem.1 (srt_lt h)) m n (by omega) hs (by omega)
  rw [hm2] at this
  exact List.lt_irrefl _ this
theorem lft_least {l : List (List UInt8)} (h : l.Nodup) {n : Nat} (hn : n < l.length) {x : List UInt8} (hx : lft l n x) (hl : ∀ y, lft l n y → ¬ y < x) : x = sth (srt l) n := by
  have hs : n < (srt l).length := by rw [srt_len]; exact hn
  obtain ⟨m, hm1, hm2⟩ := List.getElem_of_mem ((srt_perm l).mem_iff.2 hx.1)
  have hmn : n ≤ m := by
    rcases Nat.lt_or_ge m n with hlt | hge
    · exact absurd (by rw [← hm2, List.mem_take_iff_getElem]; exact ⟨m, by omega, rfl⟩) hx.2
    · exact hge
  rcases Nat.eq_or_lt_of_le hmn with e | hlt
  · subst e
    rw [sth_lt hs, ← hm2]
  · have := (List.pairwise_iff_getElem.1 (srt_lt h)) n m hs hm1 hlt
    rw [hm2, ← sth_lt hs] at this
    exact absurd this (hl _ (lft_at h hn))
theorem lft_next {l : List (List UInt8)} {n : Nat} (hn : n < l.length) (x : List UInt8) : lft l (n + 1) x ↔ lft l n x ∧ x ≠ sth (srt l) n := by
  have hs : n < (srt l).length := by rw [srt_len]; exact hn
  unfold lft
  rw [List.take_add_one, List.getElem?_eq_getElem hs, sth_lt hs, List.mem_append]
  simp
  constructor
  · rintro ⟨h1, h2, h3⟩; exact ⟨⟨h1, h2⟩, h3⟩
  · rintro ⟨⟨h1, h2⟩, h3⟩; exact ⟨h1, h2, h3⟩
theorem srt_same {l k : List (List UInt8)} (h : l.Nodup) (hk : k.Pairwise (· < ·)) (hm : ∀ x, x ∈ l ↔ x ∈ k) : srt l = k :=
  rise_one (R := fun a b : List UInt8 => a < b) (fun a => List.lt_irrefl _) (fun a b c => List.lt_trans) (srt_lt h) hk fun x => by rw [(srt_perm l).mem_iff, hm]

end Go.Proofs.YtdlmkienogimgaaGreatDoor

namespace Go.Proofs.YtdlmkienogimgaaGreatDoor
open Go.RowKit Go.Deep Go.Shelf

theorem tail_app {L X : List Ent} (h : L ≠ []) : (L ++ X).tail = L.tail ++ X := by
  cases L with
  | nil => exact absurd rfl h
  | cons y t => rfl
theorem Good.ne {L : List Ent} {M : Nat → Option Nat} (h : Good L M) : L ≠ [] := by
  obtain ⟨r, t, e, _⟩ := h.root
  rw [e]; simp
/-- One number more. -/
def numX (num : Nat → Nat) (i n x : Nat) : Nat := if x = i then n else num x
theorem numX_same (num : Nat → Nat) (i n : Nat) : numX num i n i = n := if_pos rfl
theorem numX_other {num : Nat → Nat} {i n x : Nat} (h : x ≠ i) : numX num i n x = num x := if_neg h

theorem Mt.put {L : List Ent} {M M' : Nat → Option Nat} {num : Nat → Nat} {D : List Nm} {B : List Bool} (h : Mt L M num D B) {p : List (List UInt8)} {i : Nat} {dir : Bool} (hG : Good (L ++ [(p, i)]) M') (hi : ∀ x, (x, i) ∉ L) (hM : ∀ q j, (q, j) ∈ L → M' j = M j) (hd : (M' i).isSome = dir) :
    Mt (L ++ [(p, i)]) M' (numX num i B.length) (D ++ [(shw p, B.length)]) (B ++ [dir]) := by
  have old : ∀ q j, (q, j) ∈ L → numX num i B.length j = num j := fun q j hj => numX_other fun e => hi q (by rw [← e]; exact hj)
  refine ⟨hG, ?_, fun q j hj => ?_, fun q j q2 j2 hj hj2 e => ?_, fun r hr => ?_⟩
  · rw [tail_app h.good.ne, List.map_append, h.names]
    congr 1
    · refine List.map_congr_left fun x hx => ?_
      rw [old x.1 x.2 (List.mem_of_mem_tail hx)]
    · simp [numX_same]
  · rcases List.mem_append.1 hj with hj | hj
    · obtain ⟨g1, g2⟩ := h.dirs q j hj
      rw [old q j hj, hM q j hj, ← g2]
      refine ⟨by rw [List.length_append]; omega, ?_⟩
      simp [List.getD, List.getElem?_append_left g1]
    · rw [List.mem_singleton] at hj
      cases hj
      rw [numX_same]
      exact ⟨by simp, by rw [hd]; simp⟩
  · rcases List.mem_append.1 hj with hj | hj <;> rcases List.mem_append.1 hj2 with hj2 | hj2
    · rw [old q j hj, old q2 j2 hj2] at e
      exact h.inj _ _ _ _ hj hj2 e
    · rw [List.mem_singleton] at hj2
      cases hj2
      rw [old q j hj, numX_same] at e
      have := (h.dirs q j hj).1
      omega
    · rw [List.mem_singleton] at hj
      cases hj
      rw [old q2 j2 hj2, numX_same] at e
      have := (h.dirs q2 j2 hj2).1
      omega
    · rw [List.mem_singleton] at hj hj2
      cases hj
      cases hj2
      rfl
  · obtain ⟨r0, hr0, _⟩ := h.good.start
    obtain rfl := hG.uni.same hr (List.mem_append_left _ hr0)
    rw [old _ _ hr0]
    exact h.root _ hr0

theorem Mt.more {L : List Ent} {M : Nat → Option Nat} {num : Nat → Nat} {D : List Nm} {B : List Bool} (h : Mt L M num D B) {p q : List (List UInt8)} {j : Nat} (hG : Good (L ++ [(p, j)]) M) (hj : (q, j) ∈ L) :
    Mt (L ++ [(p, j)]) M num (D ++ [(shw p, num j)]) B := by
  have all : ∀ x i, (x, i) ∈ L ++ [(p, j)] → ∃ y, (y, i) ∈ L := fun x i hx => by
    rcases List.mem_append.1 hx with hx | hx
    · exact ⟨x, hx⟩
    · rw [List.mem_singleton] at hx
      cases hx
      exact ⟨q, hj⟩
  refine ⟨hG, ?_, fun x i hx => ?_, fun x i y k hx hy e => ?_, fun r hr => ?_⟩
  · rw [tail_app h.good.ne, List.map_append, h.names]; rfl
  · obtain ⟨y, hy⟩ := all x i hx
    exact h.dirs y i hy
  · obtain ⟨a, ha⟩ := all x i hx
    obtain ⟨b, hb⟩ := all y k hy
    exact h.inj _ _ _ _ ha hb e
  · obtain ⟨r0, hr0, _⟩ := h.good.start
    obtain rfl := hG.uni.same hr (List.mem_append_left _ hr0)
    exact h.root _ hr0

theorem Mt.cut {L : List Ent} {M : Nat → Option Nat} {num : Nat → Nat} {D : List Nm} {B : List Bool} (h : Mt L M num D B) {p : List (List UInt8)} (hp : p ≠ []) (hp8 : p.length ≤ 8) (hpn : ∀ k ∈ p, isN k = true) (hG : Good (cutL L p) M) :
    Mt (cutL L p) M num (D.filter fun x => decide (x.1 ≠ shw p)) B := by
  obtain ⟨r, t, hL, _⟩ := h.good.root
  refine ⟨hG, ?_, fun x i hx => h.dirs x i (mem_cutL.1 hx).1, fun x i y k hx hy e => h.inj _ _ _ _ (mem_cutL.1 hx).1 (mem_cutL.1 hy).1 e, fun r hr => h.root r (mem_cutL.1 hr).1⟩
  have hc : (cutL L p).tail = t.filter fun x => decide (x.1 ≠ p) := by
    unfold cutL
    rw [hL, List.filter_cons_of_pos (by simpa using hp)]; rfl
  rw [hc, h.names, hL, List.tail_cons, List.filter_map]
  congr 1
  refine List.filter_congr fun x hx => ?_
  obtain ⟨g1, g2⟩ := h.good.nam x.1 x.2 (by rw [hL]; exact List.mem_cons_of_mem _ hx)
  simp only [Function.comp, decide_eq_decide]
  exact ⟨fun e he => e (by rw [he]), fun e he => e (shw_inj g1 g2 hp8 hpn he)⟩

end Go.Proofs.YtdlmkienogimgaaGreatDoor

namespace Go.Proofs.YtdlmkienogimgaaGreatDoor
open Go.RowKit Go.Deep Go.Shelf

theorem Good.tail_ne {L : List Ent} {M : Nat → Option Nat} (h : Good L M) {y : Ent} (hy : y ∈ L.tail) : y.1 ≠ [] := by
  obtain ⟨r, t, e, _⟩ := h.root
  have hu := h.uni
  rw [e] at hy hu
  exact fun e' => (List.pairwise_cons.1 hu).1 y hy e'.symm
theorem Good.in_tail {L : List Ent} {M : Nat → Option Nat} (h : Good L M) {y : Ent} (hy : y ∈ L) (hne : y.1 ≠ []) : y ∈ L.tail := by
  obtain ⟨r, t, e, _⟩ := h.root
  rw [e] at hy ⊢
  rcases List.mem_cons.1 hy with rfl | hy
  · exact absurd rfl hne
  · exact hy
/-- What a name of the document's is. -/
theorem Mt.name {L : List Ent} {M : Nat → Option Nat} {num : Nat → Nat} {D : List Nm} {B : List Bool} (h : Mt L M num D B) {x : Nm} (hx : x ∈ D) : ∃ y ∈ L, y.1 ≠ [] ∧ x.1 = sg y.1 ∧ x.2 = num y.2 ∧ y.1.length ≤ 8 ∧ ∀ k ∈ y.1, isN k = true := by
  rw [h.names] at hx
  obtain ⟨y, hy, rfl⟩ := List.mem_map.1 hx
  have hne := h.good.tail_ne hy
  have hyL := List.mem_of_mem_tail hy
  obtain ⟨g1, g2⟩ := h.good.nam y.1 y.2 hyL
  exact ⟨y, hyL, hne, shw_sg hne, rfl, g1, g2⟩
theorem Mt.has {L : List Ent} {M : Nat → Option Nat} {num : Nat → Nat} {D : List Nm} {B : List Bool} (h : Mt L M num D B) {p : List (List UInt8)} (hp : p ≠ []) (hpn : ∀ k ∈ p, isN k = true) : (∃ x ∈ D, bgn x.1 (shw p) = true) ↔ kids L p ≠ [] := by
  rw [shw_sg hp]
  constructor
  · rintro ⟨x, hx, hb⟩ e
    obtain ⟨y, hy, _, e1, _, _, g2⟩ := h.name hx
    rw [e1] at hb
    obtain ⟨k, u, hu⟩ := (sg_bgn hpn g2).1 hb
    obtain ⟨d, hd⟩ := h.good.upto u (p ++ [k]) y.2 (by
      have : (p ++ [k]) ++ u = y.1 := by rw [hu]; simp
      rw [this]; exact hy)
    have := mem_kids.2 ⟨d, hd⟩
    rw [e] at this
    cases this
  · intro hk
    obtain ⟨k, hk'⟩ := List.exists_mem_of_ne_nil _ hk
    obtain ⟨j, hj⟩ := mem_kids.1 hk'
    obtain ⟨_, g2⟩ := h.good.nam _ _ hj
    refine ⟨(shw (p ++ [k]), num j), ?_, ?_⟩
    · rw [h.names]
      exact List.mem_map.2 ⟨(p ++ [k], j), h.good.in_tail hj (by simp), rfl⟩
    · rw [shw_sg (by simp)]
      exact (sg_bgn hpn g2).2 ⟨k, [], rfl⟩

end Go.Proofs.YtdlmkienogimgaaGreatDoor

namespace Go.Proofs.YtdlmkienogimgaaGreatDoor
open Go.RowKit Go.Deep Go.Shelf

theorem Tryz.info90 : (Tryz.prog.info? 90).map (fun i => (i.zero, i.size, i.bytes)) = some (some (.agg #[.string ByteArray.empty, .int .i64 0]), 2, 24) := by kernel_rfl

theorem names_own {w : World} {base n : Nat} {v : Value} {l : List Nm} (h : w.ownsRow base 90 2 v n (ndc l)) (hm : n ≤ maxLen) : NamedIs w v l := by
  have hl : l.length = n := by have := h.1; rw [ndc_len] at this; omega
  rcases h.2 with ⟨h0, h1⟩ | ⟨g, cap, cur, h1, h2, h3, _⟩
  · subst h0
    obtain rfl : l = [] := List.length_eq_zero_iff.1 (by omega)
    exact ⟨none, 0, rfl, Nat.zero_le _, fun h => absurd rfl h⟩
  · subst h1
    refine ⟨_, cap, by rw [hl], by omega, fun _ => ⟨g, 0, rfl, (Array.getElem?_eq_some_iff.1 h3).1, fun i hi => ?_⟩⟩
    have k1 := ndc_even l i hi
    have k2 := h.cells (g := g) rfl (i * 2) _ k1.1
    have k3 := h.cells (g := g) rfl (i * 2 + 1) _ k1.2
    rw [addr_at] at k2 k3
    rw [Nat.zero_add]
    exact ⟨k2, k3⟩

theorem names_read {w : World} {b o : Nat} {xs : List Nm} (hc : ∀ i, i < xs.length → w.cell? ⟨b, o + i * 2, none⟩ = some (.string (bs (nAt xs i).1)) ∧ w.cell? ⟨b, o + i * 2 + 1, none⟩ = some (.int .i64 ((nAt xs i).2 : Int))) : ∀ j u, (ndc xs)[j]? = some u → w.cell? ((⟨b, o, none⟩ : Addr).add j) = some u := by
  intro j u hj
  have hl : j < xs.length * 2 := by have := (List.getElem?_eq_some_iff.1 hj).1; rwa [ndc_len] at this
  have hi : j / 2 < xs.length := by omega
  obtain ⟨e1, e2⟩ := ndc_even xs (j / 2) hi
  obtain ⟨c1, c2⟩ := hc (j / 2) hi
  rw [addr_off]
  rcases Nat.mod_two_eq_zero_or_one j with h | h
  · rw [show j / 2 * 2 = j by omega] at e1 c1
    rw [e1] at hj
    rw [c1, ← Option.some.inj hj]
  · rw [show j / 2 * 2 + 1 = j by omega] at e2
    rw [show o + j / 2 * 2 + 1 = o + j by omega] at c2
    rw [e2] at hj
    rw [c2, ← Option.some.inj hj]

/-- append of any slice of names onto a slice of the call's own. -/
theorem wpList_append_names {ops : Array Oper} {rest : List Oper} {o : Oper} {a : Act} {w : World} {Q : Exit → Act → World → Prop} (hgd : o.guard = none) (s x : Operand)
    (ho : o.op = .call { callee := .builtin .append, args := #[s, x], argTypes := #[39, 39] })
    (base : Nat) (v : Value) (n : Nat) (xs : List Nm) (hs : a.eval s = v) (hown : w.ownsRow base 90 2 v n (ndc xs)) (y : Value) (ys : List Nm) (hx : a.eval x = y) (hy : NamedIs w y ys)
    (h63 : n + ys.length ≤ 1000000) (hbase : base ≤ w.heap.size)
    (h : ∀ v' w', w'.ownsRow base 90 2 v' (n + ys.length) (ndc (xs ++ ys)) → Below base w w' → wpList Tryz.prog ops Q rest (a.put o.dst v') w') : wpList Tryz.prog ops Q (o :: rest) a w := by
  obtain ⟨ti, hti, hz0, hz1, hz2⟩ := info_parts Tryz.info90
  obtain ⟨ad, cap, rfl, hl, hi⟩ := hy
  by_cases h0 : ys = []
  · subst h0
    cases ad with
    | none =>
      refine wpList_plain hgd fun K hK => ?_
      have hrun := run_append_nil (P := Tryz.prog) (w := w) base 39 o.type 90 ti 2 cap Tryz.underlying39 hti v n _ hown
      unfold Oper.wp
      simp [execOp, ho, resolve, invoke, builtin, hs, hx, hrun, Result.andThen]
      refine hK _ _ (h v w ?_ (Below.refl _ _))
      simpa [ndc] using hown
    | some ad =>
      refine wpList_append_own w hgd s x 39 ho base 90 ti (.agg #[.string ByteArray.empty, .int .i64 0]) 2 24 Tryz.underlying39 hti hz0 hz1 hz2 rfl (by decide) v n (ndc xs) hs hown ad 0 cap [] hx rfl (fun j u hj => by cases hj) (fun u hu => by cases hu) (by unfold maxLen; simp at h63; omega) (by simp at h63; omega) hbase ?_
      intro v' w' h1 h2 _
      refine h v' w' ?_ ((Below.refl _ _).grown h2 hbase (fun k e => (hown.lt k e).1))
      simpa using h1
  · obtain ⟨b, off, rfl, _, hc⟩ := hi h0
    refine wpList_append_own w hgd s x 39 ho base 90 ti (.agg #[.string ByteArray.empty, .int .i64 0]) 2 24 Tryz.underlying39 hti hz0 hz1 hz2 rfl (by decide) v n (ndc xs) hs hown ⟨b, off, none⟩ ys.length cap (ndc ys) hx (by rw [ndc_len]) (names_read hc) (ndc_one ys) (by unfold maxLen; omega) (by omega) hbase ?_
    intro v' w' h1 h2 _
    refine h v' w' ?_ ((Below.refl _ _).grown h2 hbase (fun k e => (hown.lt k e).1))
    have e : ndc xs ++ ndc ys = ndc (xs ++ ys) := (ndc_append xs ys).symm
    rw [← e]
    exact h1

end Go.Proofs.YtdlmkienogimgaaGreatDoor

namespace Go.Proofs.YtdlmkienogimgaaGreatDoor
open Go.RowKit Go.Deep Go.Shelf

theorem Tryz.info4 : (Tryz.prog.info? 4).map (fun i => (i.zero, i.size, i.bytes)) = some (some (.bool false), 1, 1) := by kernel_rfl

/-- The cells of truth values. -/
def bcs (l : List Bool) : List Value := l.map Value.bool
theorem bcs_len (l : List Bool) : (bcs l).length = l.length := by simp [bcs]
theorem bcs_get {l : List Bool} {i : Nat} (h : i < l.length) : (bcs l)[i]? = some (.bool (l.getD i false)) := by simp [bcs, h]
theorem bcs_one (l : List Bool) : ∀ u ∈ bcs l, u.oneCell' = true := fun u hu => by
  obtain ⟨b, _, rfl⟩ := List.mem_map.1 hu
  rfl
theorem bools_own {w : World} {base n : Nat} {v : Value} {l : List Bool} (h : w.ownsRow base 4 1 v n (bcs l)) (hm : n ≤ maxLen) : BoolsIs w v l := by
  have hl : l.length = n := by have := h.1; rw [bcs_len] at this; omega
  rcases h.2 with ⟨h0, h1⟩ | ⟨g, cap, cur, h1, h2, h3, _⟩
  · subst h0
    obtain rfl : l = [] := List.length_eq_zero_iff.1 (by omega)
    exact ⟨none, 0, rfl, Nat.zero_le _, fun h => absurd rfl h⟩
  · subst h1
    refine ⟨_, cap, by rw [hl], by omega, fun _ => ⟨g, 0, rfl, (Array.getElem?_eq_some_iff.1 h3).1, fun i hi => ?_⟩⟩
    have k2 := h.cells (g := g) rfl i _ (bcs_get hi)
    rw [addr_at] at k2
    rw [Nat.zero_add]
    exact k2
theorem bools_read {w : World} {b o : Nat} {xs : List Bool} (hc : ∀ i, i < xs.length → w.cell? ⟨b, o + i, none⟩ = some (.bool (xs.getD i false))) : ∀ j u, (bcs xs)[j]? = some u → w.cell? ((⟨b, o, none⟩ : Addr).add j) = some u := by
  intro j u hj
  have hl : j < xs.length := by have := (List.getElem?_eq_some_iff.1 hj).1; rwa [bcs_len] at this
  rw [bcs_get hl] at hj
  rw [addr_off, hc j hl]
  exact hj

/-- append of any slice of truth values onto a slice of the call's own. -/
theorem wpList_append_bools {ops : Array Oper} {rest : List Oper} {o : Oper} {a : Act} {w : World} {Q : Exit → Act → World → Prop} (hgd : o.guard = none) (s x : Operand)
    (ho : o.op = .call { callee := .builtin .append, args := #[s, x], argTypes := #[40, 40] })
    (base : Nat) (v : Value) (n : Nat) (xs : List Bool) (hs : a.eval s = v) (hown : w.ownsRow base 4 1 v n (bcs xs)) (y : Value) (ys : List Bool) (hx : a.eval x = y) (hy : BoolsIs w y ys)
    (h63 : n + ys.length ≤ 1000000) (hbase : base ≤ w.heap.size)
    (h : ∀ v' w', w'.ownsRow base 4 1 v' (n + ys.length) (bcs (xs ++ ys)) → Below base w w' → wpList Tryz.prog ops Q rest (a.put o.dst v') w') : wpList Tryz.prog ops Q (o :: rest) a w := by
  obtain ⟨ti, hti, hz0, hz1, hz2⟩ := info_parts Tryz.info4
  obtain ⟨ad, cap, rfl, hl, hi⟩ := hy
  by_cases h0 : ys = []
  · subst h0
    cases ad with
    | none =>
      refine wpList_plain hgd fun K hK => ?_
      have hrun := run_append_nil (P := Tryz.prog) (w := w) base 40 o.type 4 ti 1 cap Tryz.underlying40 hti v n _ hown
      unfold Oper.wp
      simp [execOp, ho, resolve, invoke, builtin, hs, hx, hrun, Result.andThen]
      refine hK _ _ (h v w ?_ (Below.refl _ _))
      simpa [bcs] using hown
    | some ad =>
      refine wpList_append_own w hgd s x 40 ho base 4 ti (.bool false) 1 1 Tryz.underlying40 hti hz0 hz1 hz2 rfl (by decide) v n (bcs xs) hs hown ad 0 cap [] hx rfl (fun j u hj => by cases hj) (fun u hu => by cases hu) (by unfold maxLen; simp at h63; omega) (by simp at h63; omega) hbase ?_
      intro v' w' h1 h2 _
      refine h v' w' ?_ ((Below.refl _ _).grown h2 hbase (fun k e => (hown.lt k e).1))
      simpa using h1
  · obtain ⟨b, off, rfl, _, hc⟩ := hi h0
    refine wpList_append_own w hgd s x 40 ho base 4 ti (.bool false) 1 1 Tryz.underlying40 hti hz0 hz1 hz2 rfl (by decide) v n (bcs xs) hs hown ⟨b, off, none⟩ ys.length cap (bcs ys) hx (by rw [bcs_len, Nat.mul_one]) (bools_read hc) (bcs_one ys) (by unfold maxLen; omega) (by omega) hbase ?_
    intro v' w' h1 h2 _
    refine h v' w' ?_ ((Below.refl _ _).grown h2 hbase (fun k e => (hown.lt k e).1))
    have e : bcs xs ++ bcs ys = bcs (xs ++ ys) := by simp [bcs]
    rw [← e]
    exact h1

end Go.Proofs.YtdlmkienogimgaaGreatDoor
