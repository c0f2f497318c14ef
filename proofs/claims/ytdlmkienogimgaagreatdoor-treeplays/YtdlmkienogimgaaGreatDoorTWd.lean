/- This text proves one way of a round of platterholdlaw2.TreePlays' loop: a directory is made; the conditions are that both trees lie there and are one another's. -/
import Derived.Test.YtdlmkienogimgaaGreatDoorMb5
namespace Go.Proofs.YtdlmkienogimgaaGreatDoor
open Go.RowKit Go.Deep Go.Shelf Go.Maps

set_option maxHeartbeats 16000000 in
set_option maxRecDepth 1000000 in
theorem way_d (w wr : World) (G t bx k N c b o cl : Nat) (al : Option Addr) (s : ByteArray) (c23 : Value) (L : List Ent) (M : Nat → Option Nat) (l : List (List UInt8)) (Kn Km : Act → World → Prop) (Pst : Ending → World → Prop)
    (HG : Hid (w.heap.size = G)) (hG : G ≤ bx) (HM : Hid (∀ w', Below G w w' → Mx w')) (HLd : Hid (∀ w', Below G w w' → Laid w')) (hlt : k < N) (h40 : k < 40)
    (HT : Hid (TreeAt wr G t L M)) (HDS : Hid (DSt wr bx (k + 1) L M)) (HBw : Hid (Below G w wr)) (hcu : wr.cell? ⟨b, o + k, none⟩ = some (.slice al l.length cl)) (hsu : StrsIs w (.slice al l.length cl) l) (hsm : ∀ x ∈ l, x.length ≤ maxLen) (h2 : l.length = 2) (e1 : sth l 0 = [100])
    (u8 u9 u10 u11 u24 u25 u26 u27 u28 u29 u30 u31 u32 u33 u34 u35 u36 u37 u38 u39 u40 u41 u42 u43 u44 u45 u46 u47 u48 u49 u50 u51 u52 u53 u54 u55 u56 u57 u58 u59 u60 u61 u62 u63 u64 u65 u66 u67 u68 u69 u70 u71 u72 u73 u74 u75 u76 u77 u78 u79 u80 u81 u82 u83 u84 u85 u86 u87 u88 u89 u90 u91 u92 u93 u94 u95 u96 u97 u98 u99 u100 u101 u102 u103 u104 u105 u106 u107 u108 u109 u110 u111 u112 u113 u114 u115 u116 u117 u118 u119 u120 u121 u122 u123 u124 u125 u126 u127 u128 u129 u130 u131 u132 u133 u134 u135 u136 u137 u138 u139 u140 u141 u142 u143 u144 u145 u146 u147 u148 u149 u150 u151 u152 u153 u154 u155 u156 u157 u158 : Value)
    (hK : ∀ (L' : List Ent) (M' : Nat → Option Nat) (w' : World) (x8 x9 x10 x11 x24 x25 x26 x27 x28 x29 x30 x31 x32 x33 x34 x35 x36 x37 x38 x39 x40 x41 x42 x43 x44 x45 x46 x47 x48 x49 x50 x51 x52 x53 x54 x55 x56 x57 x58 x59 x60 x61 x62 x63 x64 x65 x66 x67 x68 x69 x70 x71 x72 x73 x74 x75 x76 x77 x78 x79 x80 x81 x82 x83 x84 x85 x86 x87 x88 x89 x90 x91 x92 x93 x94 x95 x96 x97 x98 x99 x100 x101 x102 x103 x104 x105 x106 x107 x108 x109 x110 x111 x112 x113 x114 x115 x116 x117 x118 x119 x120 x121 x122 x123 x124 x125 x126 x127 x128 x129 x130 x131 x132 x133 x134 x135 x136 x137 x138 x139 x140 x141 x142 x143 x144 x145 x146 x147 x148 x149 x150 x151 x152 x153 x154 x155 x156 x157 x158 : Value), Hid (TreeAt w' G t L' M' ∧ DSt w' bx (k + 2) L' M' ∧ Below G w w') → Kn ⟨#[.slice (some ⟨b, o, none⟩) N c, .string s, undef, undef, .bool false, .pointer (some ⟨t, 0, none⟩), .pointer (some ⟨bx, 0, none⟩), .int .i64 (k + 1 : Nat), x8, x9, x10, x11, undef, undef, undef, undef, undef, undef, undef, undef, undef, undef, .pointer (some ⟨t, 0, none⟩), c23, x24, x25, x26, x27, x28, x29, x30, x31, x32, x33, x34, x35, x36, x37, x38, x39, x40, x41, x42, x43, x44, x45, x46, x47, x48, x49, x50, x51, x52, x53, x54, x55, x56, x57, x58, x59, x60, x61, x62, x63, x64, x65, x66, x67, x68, x69, x70, x71, x72, x73, x74, x75, x76, x77, x78, x79, x80, x81, x82, x83, x84, x85, x86, x87, x88, x89, x90, x91, x92, x93, x94, x95, x96, x97, x98, x99, x100, x101, x102, x103, x104, x105, x106, x107, x108, x109, x110, x111, x112, x113, x114, x115, x116, x117, x118, x119, x120, x121, x122, x123, x124, x125, x126, x127, x128, x129, x130, x131, x132, x133, x134, x135, x136, x137, x138, x139, x140, x141, x142, x143, x144, x145, x146, x147, x148, x149, x150, x151, x152, x153, x154, x155, x156, x157, x158, undef, undef, undef, undef, undef, undef, undef, undef, undef, undef, undef, undef, undef, undef, undef, undef, undef, undef, undef, undef, undef, undef, undef, undef, undef, undef, undef, undef, undef, undef, undef, undef, undef, undef, undef, undef, undef, undef, undef, undef, undef, undef, undef, undef, undef, undef, undef, undef, undef, undef, undef, undef, undef, undef, undef, undef, undef, undef, undef, undef, undef, undef, undef, undef, undef, undef, undef, undef, undef, undef, undef], []⟩ w') :
    Code.wp Tryz.prog ((Tryz.f5.body.bind firstLoop).getD .skip) (Exit.then Kn (Exit.inBlock 0 (Exit.then Km (bodyPost Tryz.prog Tryz.f5 Pst)))) ⟨#[.slice (some ⟨b, o, none⟩) N c, .string s, undef, undef, .bool false, .pointer (some ⟨t, 0, none⟩), .pointer (some ⟨bx, 0, none⟩), .int .i64 (k : Nat), u8, u9, u10, u11, undef, undef, undef, undef, undef, undef, undef, undef, undef, undef, .pointer (some ⟨t, 0, none⟩), c23, u24, u25, u26, u27, u28, u29, u30, u31, u32, u33, u34, u35, u36, u37, u38, u39, u40, u41, u42, u43, u44, u45, u46, u47, u48, u49, u50, u51, u52, u53, u54, u55, u56, u57, u58, u59, u60, u61, u62, u63, u64, u65, u66, u67, u68, u69, u70, u71, u72, u73, u74, u75, u76, u77, u78, u79, u80, u81, u82, u83, u84, u85, u86, u87, u88, u89, u90, u91, u92, u93, u94, u95, u96, u97, u98, u99, u100, u101, u102, u103, u104, u105, u106, u107, u108, u109, u110, u111, u112, u113, u114, u115, u116, u117, u118, u119, u120, u121, u122, u123, u124, u125, u126, u127, u128, u129, u130, u131, u132, u133, u134, u135, u136, u137, u138, u139, u140, u141, u142, u143, u144, u145, u146, u147, u148, u149, u150, u151, u152, u153, u154, u155, u156, u157, u158, undef, undef, undef, undef, undef, undef, undef, undef, undef, undef, undef, undef, undef, undef, undef, undef, undef, undef, undef, undef, undef, undef, undef, undef, undef, undef, undef, undef, undef, undef, undef, undef, undef, undef, undef, undef, undef, undef, undef, undef, undef, undef, undef, undef, undef, undef, undef, undef, undef, undef, undef, undef, undef, undef, undef, undef, undef, undef, undef, undef, undef, undef, undef, undef, undef, undef, undef, undef, undef, undef, undef], []⟩ wr := by
  conv => arg 2; whnf
  obtain ⟨al', cl', b', o', e', _, hll, hal, hcl⟩ := hsu.where
  cases e'
  have hgz : G ≤ wr.heap.size := by have h := HBw.out.size; have h2 := HG.out; omega
  have HDid : Hid _ := fun (w' : World) (hb : Below G w w') (hT : TreeAt w' G t L M) => did_any w' G t L M hT (.slice al l.length cl) l (hsu.later (Nat.le_of_eq HG.out) hb) hsm (HM.out w' hb) (Nat.le_trans (Nat.le_of_eq HG.out.symm) hb.size)
  obtain ⟨vD, vB, D, B, num, hbx, hD, hB, hBk, hmt⟩ := HDS.out
  obtain ⟨aD, cD, rfl⟩ := hD.form
  obtain ⟨aB, cB, rfl⟩ := hB.form
  have HX : Hid (∀ w', Below wr.heap.size wr w' → Box2 w' bx (.slice aD D.length cD) (.slice aB B.length cB)) := fun w' hb => hbx.later hb
  have HD : Hid (∀ w', Below wr.heap.size wr w' → NamedIs w' (.slice aD D.length cD) D) := fun w' hb => hD.later hb
  have HB : Hid (∀ w', Below wr.heap.size wr w' → BoolsIs w' (.slice aB B.length cB) B) := fun w' hb => hB.later hb
  have HMt : Hid (Mt L M num D B) := hmt
  have HBk : Hid (B.length ≤ k + 1) := hBk
  obtain ⟨x0, x1, f0, f1⟩ := hbx.facts
  have HCl : Hid (∀ i, i < l.length → ∀ w', Below G w w' → w'.cell? ⟨b', o' + i, none⟩ = some (.string (bs (sth l i)))) := fun i hi w' hb => keepU (by rw [HG.out]; exact hb) (hcl i hi)
  have hsz : ∀ i, i < l.length → (bs (sth l i)).size ≤ maxLen := fun i hi => bs_size (hsm _ (sth_mem hi))
  unfold maxLen at hll
  clear hbx hD hB hmt hsu hsm hcl HDS hBk
  have hlen := h2
  have HNn : Hid _ := nx_d HMt.out h2 e1

  obtain ⟨rfl, _⟩ := hal (by omega)
  have H0 : Hid (∀ w', Below G w w' → w'.cell? ⟨b', o', none⟩ = some (.string (bs (sth l 0)))) := fun w' hb => HCl.out 0 (by omega) w' hb
  have h0 := H0.out wr HBw.out
  have ed := bs_list (sth l 0)
  have h1 := HCl.out 1 (by omega) wr HBw.out
  have hs1 := hsz 1 (by omega)
  have q100 : ((bs (sth l 0)).toList == [100]) = true := by rw [ed, e1]; rfl
  have q102 : ((bs (sth l 0)).toList == [102]) = false := by rw [ed, e1]; rfl
  have q120 : ((bs (sth l 0)).toList == [120]) = false := by rw [ed, e1]; rfl
  have HCall : Hid _ := fun (w' : World) (hb : Below wr.heap.size wr w') => dadd_any w' (.slice aD D.length cD) (.slice aB B.length cB) L M num D B (HD.out w' hb) (HB.out w' hb) HMt.out (by have h := HBk.out; omega) (bs (sth l 1)) hs1 none true
  rw [show oI none = -1 from rfl] at HCall
  simp only [Option.getD_none] at HCall
  have HBl : Hid ((adB B none true (puE L M (sth l 1))).length ≤ k + 2) := by
    show _ ≤ k + 2
    have h := HBk.out
    have h2 : (adB B none true (puE L M (sth l 1))).length ≤ B.length + 1 := (by unfold adB; split <;> simp)
    omega
  rw [data_bs] at HCall

  rw [hlen] at hcu HDid
  generalize bs (sth l 0) = tx0 at *
  generalize bs (sth l 1) = tx1 at *
  clear hal HCl hsz hlen ed h2 e1

  go_upto_region 9 with fail
  go_cut [9] from 24 to 158 (fun s9 wx => ∃ e : Nat, s9 = .int .i64 (e : Int) ∧ Hid (NSt wx bx (k + 2) L M l e) ∧ Hid (TreeAt wx G t L M) ∧ Hid (Below G w wx))
  case first =>
    go_region_with (go_at_call 19; refine (HCall.out _ (below_draw _ _)).mono ?_; rintro ev w5 ⟨vD', vB', rfl, hD', hB', hb5⟩; have HB5 : Hid (Below wr.heap.size wr w5) := undrewB hb5; obtain ⟨aD', cD', rfl⟩ := hD'.form; obtain ⟨aB', cB', rfl⟩ := hB'.form; obtain ⟨z0, z1, e0, e1⟩ := (HX.out w5 HB5.out).facts; have HD5 : Hid (NamedIs w5 _ _) := hD'; have HB5' : Hid (BoolsIs w5 _ _) := hB'; clear hD' hB' hb5)
    all_goals
      go_wp2_with fail
      go_meet
      case rel =>
        obtain ⟨r1, r2, r3⟩ := NSt.put (HX.out w5 HB5.out) (HT.out.later HB5.out) (HBw.out.trans (HB5.out.mono hgz)) hG HD5.out HB5'.out HBl.out HNn.out
        exact ⟨_, rfl, r1, r2, r3⟩
  case rest =>
    rename World => wx
    obtain ⟨e, rfl, HNx, HTx, HBx⟩ := hcut
    clear HCall x0 x1 f0 f1 h0
    have h0 := H0.out wx HBx.out
    have hbel : Below G w wx := HBx.out
    have HDx : Hid _ := fun (_ : Nat) => HDid.out wx hbel HTx.out
    go_wp2_with fail
    refine Calls.mono (HDx.out 0) ?_
    rintro ev wy ⟨n, L', M', rfl, hstp, hT', hTu⟩
    obtain ⟨hne, hds⟩ := HNx.out.did hstp hT'.good hTu
    subst hne
    have HBy : Hid (Below G w wy) := hbel.trans hTu.below
    have HEr : Hid _ := fun (_ : Nat) => error_any n (n : Int) wy (HLd.out wy HBy.out)
    rw [show ((n : Int) == (n : Int)) = true by simp] at HEr
    have HTy : Hid (TreeAt wy G t L' M') := hT'
    have HDy : Hid (DSt wy bx (k + 2) L' M') := hds
    clear hstp hT' hTu hds hbel HDx HNx HTx HBx HDid
    go_wp2_with fail
    refine Calls.mono (HEr.out 0) ?_
    rintro ev wz ⟨rfl, hbz⟩
    have HTz : Hid (TreeAt wz G t L' M') := HTy.out.later hbz
    have HDz : Hid (DSt wz bx (k + 2) L' M') := HDy.out.later hbz
    have hgy : G ≤ wy.heap.size := by have h := HBy.out.size; have h2 := HG.out; omega
    have HBz : Hid (Below G w wz) := HBy.out.trans (hbz.mono hgy)
    have hgzz : G ≤ wz.heap.size := Nat.le_trans hgy hbz.size
    clear hbz HTy HDy HEr HBy
    obtain ⟨vD, vB, D, B, num, hbx, hD, hB, _, hmt⟩ := HDz.out
    obtain ⟨aD, cD, rfl⟩ := hD.form
    obtain ⟨aB, cB, rfl⟩ := hB.form
    obtain ⟨x0, x1, _, _⟩ := hbx.facts
    have HXz : Hid (∀ w', Below wz.heap.size wz w' → Box2 w' bx (.slice aD D.length cD) (.slice aB B.length cB)) := fun w' hb => hbx.later hb
    have HW1 : Hid _ := fun (w' : World) (hb : Below wz.heap.size wz w') => treeWalk_any w' G t L' M' (HTz.out.later hb)
    have HW2 : Hid _ := fun (w' : World) (hb : Below wz.heap.size wz w') => dwalk_any w' (.slice aD D.length cD) (.slice aB B.length cB) L' M' num D B (hD.later hb) (hB.later hb) hmt
    generalize D.length = nD at *
    generalize B.length = nB at *
    unfold ptr at HW1
    clear hbx hD hB hmt
    go_wp2_with fail
    go_region_with (first
      | (go_at_call 8; refine (HW1.out _ (below_draw _ _)).mono ?_; rintro ev w5 ⟨v5, rfl, ho5, hb5⟩; have HB5 : Hid (Below wz.heap.size wz w5) := undrewB hb5; have HS5 : Hid (StrsIs w5 v5 (txs L' M')) := strs_own ho5; obtain ⟨z0, z1, _, _⟩ := (HXz.out w5 HB5.out).facts; clear ho5 hb5)
      | (go_at_call 24; refine (HW2.out _ HB5.out).mono ?_; rintro ev w6 ⟨v6, rfl, hs6, hb6⟩; have HS6 : Hid (StrsIs w6 v6 (txs L' M') ∧ StrsIs w6 v5 (txs L' M')) := ⟨hs6, HS5.out.later (Nat.le_refl _) hb6⟩; have HB6 : Hid (Below wz.heap.size wz w6) := HB5.out.trans (hb6.mono HB5.out.size); clear hs6 hb6)
      | (go_at_call 15; refine (texts_any w6 v5 v6 _ _ HS6.out.2 HS6.out.1).mono ?_; rw [eqS_self]; rintro ev w7 ⟨rfl, hb7⟩; have HB7 : Hid (Below wz.heap.size wz w7) := HB6.out.trans (hb7.mono HB6.out.size); clear hb7))
    all_goals
      have HTe : Hid (TreeAt w7 G t L' M' ∧ DSt w7 bx (k + 2) L' M' ∧ Below G w w7) := ⟨HTz.out.later HB7.out, HDz.out.later HB7.out, HBz.out.trans (HB7.out.mono hgzz)⟩
      have hk1 : IntKind.i64.wrap ((k : Int) + 1) = ((k + 1 : Nat) : Int) := by rw [wrap_sm (by omega) (by omega)]; simp
      go_wp2_with fail
      exact hK _ _ w7 _ _ _ _ _ _ _ _ _ _ _ _ _ _ _ _ _ _ _ _ _ _ _ _ _ _ _ _ _ _ _ _ _ _ _ _ _ _ _ _ _ _ _ _ _ _ _ _ _ _ _ _ _ _ _ _ _ _ _ _ _ _ _ _ _ _ _ _ _ _ _ _ _ _ _ _ _ _ _ _ _ _ _ _ _ _ _ _ _ _ _ _ _ _ _ _ _ _ _ _ _ _ _ _ _ _ _ _ _ _ _ _ _ _ _ _ _ _ _ _ _ _ _ _ _ _ _ _ _ _ _ _ _ _ _ _ _ _ _ HTe

end Go.Proofs.YtdlmkienogimgaaGreatDoor
