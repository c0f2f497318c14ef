/- This text proves what the document's own platterholdref2.Parts answers: a path's names, and what is wrong; old memory is as it was; the only condition is that a text is no longer than texts can be. -/
import Derived.Test.YtdfobojkmilcbaaDoorR1
import Derived.Test.YtdfobojkmilcbaaDoorQ6
namespace Go.Proofs.YtdfobojkmilcbaaDoor
open Go.RowKit Go.Deep Go.Shelf

theorem u8_eq (c : UInt8) : (c = 47) ↔ ((c.toNat : Int) = 47) := by
  constructor
  · rintro rfl; rfl
  · intro h
    have h' : c.toNat = 47 := by omega
    exact UInt8.toNat_inj.1 h'
theorem pre_get (s : ByteArray) (h : 0 < s.size) : [47].isPrefixOf s.data.toList = ((s[0].toNat : Int) == 47) := by
  have h0 := get_data s 0 h
  cases e : s.data.toList with
  | nil => rw [e] at h0; simp at h0
  | cons c r =>
    rw [e] at h0
    have hc : c = s[0] := by simpa using h0
    rw [← hc]
    by_cases h47 : c = 47
    · subst h47; rfl
    · have : ¬ ((c.toNat : Int) = 47) := fun h => h47 ((u8_eq c).2 h)
      have e2 : ((c.toNat : Int) == 47) = false := by simpa using this
      rw [e2]
      simp [List.isPrefixOf, Ne.symm h47]
theorem at_get {s : ByteArray} {k : Nat} (h : k < s.size) (h' : k < s.data.toList.length) : s.data.toList[k] = s[k] := by
  have := get_data s k h
  rw [List.getElem?_eq_getElem h'] at this
  exact Option.some.inj this
theorem ext_seg (s : ByteArray) (f k : Nat) : s.extract f k = bs (seg s.data.toList f k) := by
  rw [← bs_data (s.extract f k), Lib.extract_data]; rfl

set_option maxRecDepth 100000 in
set_option maxHeartbeats 8000000 in
theorem rparts_loop (w : World) (s : ByteArray) (h60 : s.size ≤ 60) (h0 : 0 < s.size) (hp : ((s[0].toNat : Int) == 47) = true) :
    Calls Tryd.prog 7 #[.string s] w fun e w' => ∃ v, e = .returned (.tuple #[v, .int .i64 (pE s.data.toList : Int)]) ∧ StrsIs w' v (nms s.data.toList) ∧ Below w.heap.size w w' := by
  have hsz : s.size = s.data.toList.length := Lib.size_eq s
  have hpre : [47].isPrefixOf s.data.toList = true := by rw [pre_get s h0]; exact hp
  obtain ⟨r, hr⟩ := (pre_iff _).1 hpre
  obtain ⟨R, hR⟩ : ∃ R, R = rn [] [] r := ⟨_, rfl⟩
  have hdr : s.data.toList.drop 1 = r := by rw [hr]; rfl
  have HBad : Hid (R = none → pE s.data.toList = 2 ∧ nms s.data.toList = []) := by
    intro h
    have h2 : (spl (s.data.toList.drop 1)).any noP = true := by
      rw [hdr]
      rw [hR, rn_all] at h
      split at h
      · assumption
      · cases h
    have := pE_bad (by omega) hpre h2
    exact ⟨this, nms_none (by rw [this]; decide)⟩
  have HGood : Hid (∀ o, R = some o → (8 < o.length → pE s.data.toList = 4 ∧ nms s.data.toList = []) ∧ (¬ 8 < o.length → pE s.data.toList = 0 ∧ nms s.data.toList = o)) := by
    intro o h
    rw [hR, rn_all, ← hdr] at h
    split at h
    · cases h
    · rename_i h2
      have h2' : (spl (s.data.toList.drop 1)).any noP = false := by simpa using h2
      have ho := Option.some.inj h
      refine ⟨fun h8 => ?_, fun h8 => ?_⟩
      · have := pE_many (by omega) hpre h2' (by rw [ho]; exact h8)
        exact ⟨this, nms_none (by rw [this]; decide)⟩
      · have := pE_fine (by omega) hpre h2' (by rw [ho]; exact h8)
        exact ⟨this, by rw [nms_some this, ho]⟩
  have HS0 : Hid (St s.data.toList R 1 1 []) := by rw [hR, hr]; exact St.first r
  have HOn : Hid (∀ k f o, St s.data.toList R k f o → ∀ h : k < s.size, ((s[k].toNat : Int) == 47) = false → St s.data.toList R (k + 1) f o) := by
    intro k f o h hk hc
    refine h.on (by omega) ?_
    rw [at_get hk]
    exact fun e => by rw [(u8_eq _).1 e] at hc; cases hc
  have HCut : Hid (∀ k f o, St s.data.toList R k f o → k ≤ s.size → (∀ h : k < s.size, ((s[k].toNat : Int) == 47) = true) → (noP (seg s.data.toList f k) = true → R = none) ∧ (noP (seg s.data.toList f k) = false → St s.data.toList R (k + 1) (k + 1) (stp o (seg s.data.toList f k)))) := by
    intro k f o h hk hc
    refine h.cut (by omega) fun h' => ?_
    have hk' : k < s.size := by omega
    rw [at_get hk']
    exact (u8_eq _).2 (by simpa using hc hk')
  have HTop : Hid (∀ k f o, St s.data.toList R k f o → k ≤ s.size + 1 ∧ f ≤ k ∧ o.length ≤ k) := fun k f o h => by rw [hsz]; exact h.top
  have HLast : Hid (∀ k f o, St s.data.toList R k f o → ¬ k ≤ s.size → R = some o) := fun k f o h hk => h.last (by omega)
  have HSeg : Hid (∀ f k, (seg s.data.toList f k).length ≤ 60) := fun f k => Nat.le_trans (seg_len _ _ _) (by omega)
  have HExt : Hid (∀ f k, s.extract f k = bs (seg s.data.toList f k)) := ext_seg s
  generalize pE s.data.toList = E at *
  generalize nms s.data.toList = NS at *
  generalize s.data.toList = l at *
  clear hR hr hdr hpre hsz
  go_enter Tryd.func7, Tryd.ntmps7
  have hz : ((s.size : Int) == 0) = false := by rw [beq_eq_false_iff_ne]; omega
  have hp2 : ((s[0].toNat : Int) != 47) = false := by rw [bne, hp]; rfl
  have hne : ¬ s = ByteArray.empty := fun e => by rw [e] at h0; simp at h0
  clear hp
  go_wp2
  clear hz hp2 hne
  go_loopw [4, 5, 6] (fun out frm i wr => ∃ (k f : Nat) (o : List (List UInt8)), frm = .int .i64 f ∧ i = .int .i64 k ∧ StrsIs wr out o ∧ Below w.heap.size w wr ∧ St l R k f o) (fun _ _ i _ => s.size + 1 - (intOf i).toNat)
  case atStart => exact ⟨1, 1, [], rfl, rfl, strs_nil _ _ _, Below.refl _ _, HS0.out⟩
  case round =>
    obtain ⟨k, f, o, rfl, rfl, hout, hbw, hst⟩ := hrel
    obtain ⟨ht1, ht2, ht3⟩ := HTop.out k f o hst
    have HST : Hid (St l R k f o) := hst
    have HO : Hid (StrsIs wr _ o) := hout
    have HBW : Hid (Below w.heap.size w wr) := hbw
    clear hst hout hbw
    by_cases hkn : k ≤ s.size
    · by_cases hin : k < s.size
      · cases hc : ((s[k].toNat : Int) == 47) with
        | false =>
          have HS2 : Hid (St l R (k + 1) f o) := HOn.out k f o HST.out hin hc
          have hd : ((s[k].toNat : Int) != 47) = true := by rw [bne, hc]; rfl
          clear hc
          go_wp2
          go_roundw
          case rel => exact ⟨k + 1, f, o, by go_num, by go_num, HO.out, HBW.out, HS2.out⟩
          case measure => simp [intOf]; omega
        | true =>
          have hd : ((s[k].toNat : Int) != 47) = false := by rw [bne, hc]; rfl
          obtain ⟨hc1, hc2⟩ := HCut.out k f o HST.out hkn (fun _ => hc)
          have hP := HExt.out f k
          have hPl := HSeg.out f k
          generalize seg l f k = p at *
          have hT : (bs p).toList = p := by rw [ByteArray.toList_eq, data_bs]
          have HN : Hid _ := fun (w : World) => rname_any w (bs p) (small_data (by omega))
          rw [data_bs] at HN
          by_cases hp1 : p = []
          · subst hp1
            have hs2 := hc2 (by decide)
            rw [stp_nil] at hs2
            have HS2 : Hid (St l R (k + 1) (k + 1) o) := hs2
            clear hc1 hc2 hs2 HN
            go_wp2
            go_roundw
            case rel => exact ⟨k + 1, k + 1, o, by go_num, by go_num, HO.out, HBW.out, HS2.out⟩
            case measure => simp [intOf]; omega
          by_cases hp2 : p = [46]
          · subst hp2
            have hs2 := hc2 (by decide)
            rw [stp_dot] at hs2
            have HS2 : Hid (St l R (k + 1) (k + 1) o) := hs2
            clear hc1 hc2 hs2 HN
            go_wp2
            go_roundw
            case rel => exact ⟨k + 1, k + 1, o, by go_num, by go_num, HO.out, HBW.out, HS2.out⟩
            case measure => simp [intOf]; omega
          by_cases hp3 : p = [46, 46]
          · subst hp3
            have hs2 := hc2 (by decide)
            rw [stp_up] at hs2
            have HS2 : Hid (St l R (k + 1) (k + 1) o.dropLast) := hs2
            clear hc1 hc2 hs2 HN hp1 hp2
            obtain ⟨a1, c1, rfl, hq1, hq2, hq3⟩ := id HO.out
            by_cases ho : o = []
            · subst ho
              clear hq3
              go_wp2
              go_roundw
              case rel => exact ⟨k + 1, k + 1, [], by go_num, by go_num, HO.out, HBW.out, HS2.out⟩
              case measure => simp [intOf]; omega
            · have hol : 1 ≤ o.length := List.length_pos_iff.2 ho
              obtain ⟨b1, o1, rfl, _⟩ := hq3 ho
              have HL : Hid (StrsIs wr (.slice (some ⟨b1, o1, none⟩) (o.length - 1) c1) o.dropLast) := HO.out.less
              unfold maxLen at hq2
              clear hq3 ho HO
              go_wp2
              go_roundw
              case rel => exact ⟨k + 1, k + 1, o.dropLast, by go_num, by go_num, HL.out, HBW.out, HS2.out⟩
              case measure => simp [intOf]; omega
          have hb1 : ((bs p).toList == [46]) = false := by rw [hT]; simp [hp2]
          have hb2 : ((bs p).toList == [46, 46]) = false := by rw [hT]; simp [hp3]
          have hb3 : ((bs p).toList == []) = false := by rw [hT]; simp [hp1]
          have hb4 : (bs p).toList.isEmpty = false := by rw [hT]; simp [hp1]
          have hb5 : ¬ (bs p).toList = [] := by rw [hT]; exact hp1
          clear hT
          cases hn : isN p with
          | false =>
            have HR := HBad.out (hc1 (noP_yes hp1 hp2 hp3 hn))
            rw [hn] at HN
            obtain ⟨rfl, rfl⟩ := HR
            clear hc1 hc2 hp1 hp2 hp3 hn
            go_wp2_with (go_at_call 11; refine (HN.out wr).mono ?_; rintro e w' ⟨rfl, rfl⟩)
            go_ret2
            exact ⟨_, rfl, strs_nil _ _ _, HBW.out⟩
          | true =>
            have hs2 := hc2 (noP_name hn)
            rw [stp_name hn] at hs2
            have HS2 : Hid (St l R (k + 1) (k + 1) (o ++ [p])) := hs2
            rw [hn] at HN
            clear hc1 hc2 hp1 hp2 hp3 hn hs2
            go_wp2_with (first
              | (go_at_call 11; refine (HN.out wr).mono ?_; rintro e w' ⟨rfl, rfl⟩)
              | (at_builtin; refine wpList_append_strs rfl (.tmp 61) (.tmp 62) rfl wr.heap.size (.slice none 0 0) 0 [] rfl (World.ownsRow_nil _ _ _ _) _ o rfl HO.out ?q1 ?q2 ?q3))
            case q1 => omega
            case q2 => exact Nat.le_refl _
            case q3 =>
            intro v1 w1 ho1 hb6
            have HB6 : Hid (Below wr.heap.size wr w1) := hb6
            have HO1 : Hid (w1.ownsRow wr.heap.size 9 1 v1 o.length (cellsS o)) := ho1
            have HL2 : Hid (StrsIs (w1.alloc (.cells #[.string (bs p)] 9)) (.slice (some ⟨w1.heap.size, 0, none⟩) 1 1) [p]) := strs_one w1 p
            clear ho1 hb6
            go_wp2_with (at_builtin; refine wpList_append_strs rfl (.tmp 64) (.tmp 66) rfl wr.heap.size v1 _ _ rfl (HO1.out.alloc _) (.slice (some ⟨w1.heap.size, 0, none⟩) 1 1) [p] rfl HL2.out ?q1 ?q2 ?q3)
            case q1 => simp; omega
            case q2 => exact Nat.le_trans HB6.out.size (by simp)
            case q3 =>
            intro v2 w2 ho2 hb7
            have HO2 : Hid (StrsIs w2 v2 (o ++ [p])) := strs_own ho2
            have HB2 : Hid (Below w.heap.size w w2) := Below.next HBW.out ((HB6.out.alloc HB6.out.size _).trans hb7)
            clear ho2 hb7
            go_wp2
            go_roundw
            case rel => exact ⟨k + 1, k + 1, o ++ [p], by go_num, by go_num, HO2.out, HB2.out, HS2.out⟩
            case measure => simp [intOf]; omega
      · have hkl : s.size ≤ k := by omega
        obtain ⟨hc1, hc2⟩ := HCut.out k f o HST.out hkn (fun h => absurd h (by omega))
        have hP := HExt.out f k
        have hPl := HSeg.out f k
        generalize seg l f k = p at *
        have hT : (bs p).toList = p := by rw [ByteArray.toList_eq, data_bs]
        have HN : Hid _ := fun (w : World) => rname_any w (bs p) (small_data (by omega))
        rw [data_bs] at HN
        by_cases hp1 : p = []
        · subst hp1
          have hs2 := hc2 (by decide)
          rw [stp_nil] at hs2
          have HS2 : Hid (St l R (k + 1) (k + 1) o) := hs2
          clear hc1 hc2 hs2 HN
          go_wp2
          go_roundw
          case rel => exact ⟨k + 1, k + 1, o, by go_num, by go_num, HO.out, HBW.out, HS2.out⟩
          case measure => simp [intOf]; omega
        by_cases hp2 : p = [46]
        · subst hp2
          have hs2 := hc2 (by decide)
          rw [stp_dot] at hs2
          have HS2 : Hid (St l R (k + 1) (k + 1) o) := hs2
          clear hc1 hc2 hs2 HN
          go_wp2
          go_roundw
          case rel => exact ⟨k + 1, k + 1, o, by go_num, by go_num, HO.out, HBW.out, HS2.out⟩
          case measure => simp [intOf]; omega
        by_cases hp3 : p = [46, 46]
        · subst hp3
          have hs2 := hc2 (by decide)
          rw [stp_up] at hs2
          have HS2 : Hid (St l R (k + 1) (k + 1) o.dropLast) := hs2
          clear hc1 hc2 hs2 HN hp1 hp2
          obtain ⟨a1, c1, rfl, hq1, hq2, hq3⟩ := id HO.out
          by_cases ho : o = []
          · subst ho
            clear hq3
            go_wp2
            go_roundw
            case rel => exact ⟨k + 1, k + 1, [], by go_num, by go_num, HO.out, HBW.out, HS2.out⟩
            case measure => simp [intOf]; omega
          · have hol : 1 ≤ o.length := List.length_pos_iff.2 ho
            obtain ⟨b1, o1, rfl, _⟩ := hq3 ho
            have HL : Hid (StrsIs wr (.slice (some ⟨b1, o1, none⟩) (o.length - 1) c1) o.dropLast) := HO.out.less
            unfold maxLen at hq2
            clear hq3 ho HO
            go_wp2
            go_roundw
            case rel => exact ⟨k + 1, k + 1, o.dropLast, by go_num, by go_num, HL.out, HBW.out, HS2.out⟩
            case measure => simp [intOf]; omega
        have hb1 : ((bs p).toList == [46]) = false := by rw [hT]; simp [hp2]
        have hb2 : ((bs p).toList == [46, 46]) = false := by rw [hT]; simp [hp3]
        have hb3 : ((bs p).toList == []) = false := by rw [hT]; simp [hp1]
        have hb4 : (bs p).toList.isEmpty = false := by rw [hT]; simp [hp1]
        have hb5 : ¬ (bs p).toList = [] := by rw [hT]; exact hp1
        clear hT
        cases hn : isN p with
        | false =>
          have HR := HBad.out (hc1 (noP_yes hp1 hp2 hp3 hn))
          rw [hn] at HN
          obtain ⟨rfl, rfl⟩ := HR
          clear hc1 hc2 hp1 hp2 hp3 hn
          go_wp2_with (go_at_call 11; refine (HN.out wr).mono ?_; rintro e w' ⟨rfl, rfl⟩)
          go_ret2
          exact ⟨_, rfl, strs_nil _ _ _, HBW.out⟩
        | true =>
          have hs2 := hc2 (noP_name hn)
          rw [stp_name hn] at hs2
          have HS2 : Hid (St l R (k + 1) (k + 1) (o ++ [p])) := hs2
          rw [hn] at HN
          clear hc1 hc2 hp1 hp2 hp3 hn hs2
          go_wp2_with (first
            | (go_at_call 11; refine (HN.out wr).mono ?_; rintro e w' ⟨rfl, rfl⟩)
            | (at_builtin; refine wpList_append_strs rfl (.tmp 61) (.tmp 62) rfl wr.heap.size (.slice none 0 0) 0 [] rfl (World.ownsRow_nil _ _ _ _) _ o rfl HO.out ?q1 ?q2 ?q3))
          case q1 => omega
          case q2 => exact Nat.le_refl _
          case q3 =>
          intro v1 w1 ho1 hb6
          have HB6 : Hid (Below wr.heap.size wr w1) := hb6
          have HO1 : Hid (w1.ownsRow wr.heap.size 9 1 v1 o.length (cellsS o)) := ho1
          have HL2 : Hid (StrsIs (w1.alloc (.cells #[.string (bs p)] 9)) (.slice (some ⟨w1.heap.size, 0, none⟩) 1 1) [p]) := strs_one w1 p
          clear ho1 hb6
          go_wp2_with (at_builtin; refine wpList_append_strs rfl (.tmp 64) (.tmp 66) rfl wr.heap.size v1 _ _ rfl (HO1.out.alloc _) (.slice (some ⟨w1.heap.size, 0, none⟩) 1 1) [p] rfl HL2.out ?q1 ?q2 ?q3)
          case q1 => simp; omega
          case q2 => exact Nat.le_trans HB6.out.size (by simp)
          case q3 =>
          intro v2 w2 ho2 hb7
          have HO2 : Hid (StrsIs w2 v2 (o ++ [p])) := strs_own ho2
          have HB2 : Hid (Below w.heap.size w w2) := Below.next HBW.out ((HB6.out.alloc HB6.out.size _).trans hb7)
          clear ho2 hb7
          go_wp2
          go_roundw
          case rel => exact ⟨k + 1, k + 1, o ++ [p], by go_num, by go_num, HO2.out, HB2.out, HS2.out⟩
          case measure => simp [intOf]; omega
    · have HR := HLast.out k f o HST.out hkn
      obtain ⟨hg1, hg2⟩ := HGood.out o HR
      obtain ⟨a1, c1, rfl, hq1, hq2, hq3⟩ := id HO.out
      clear hq3
      by_cases h8 : 8 < o.length
      · obtain ⟨rfl, rfl⟩ := hg1 h8
        clear hg1 hg2
        go_wp2
        go_ret2
        exact ⟨_, rfl, strs_nil _ _ _, HBW.out⟩
      · obtain ⟨rfl, rfl⟩ := hg2 h8
        clear hg1 hg2
        go_wp2
        go_ret2
        exact ⟨_, rfl, HO.out, HBW.out⟩

end Go.Proofs.YtdfobojkmilcbaaDoor
