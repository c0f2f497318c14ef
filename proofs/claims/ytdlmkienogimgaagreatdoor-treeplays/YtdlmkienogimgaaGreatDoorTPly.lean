/- This text proves that platterholdlaw2.TreePlays returns true: whatever is done with a tree, what is told, all paths, the names in a directory and how many names a file has are the document's; old memory is as it was; the conditions are that the steps' texts lie there, that a text is no longer than texts can be, that the library's variable internal/bytealg.MaxLen holds some number, and that what errors.As reads is laid. -/
import Derived.Test.YtdlmkienogimgaaGreatDoorTWd
import Derived.Test.YtdlmkienogimgaaGreatDoorTWf
import Derived.Test.YtdlmkienogimgaaGreatDoorTWx
import Derived.Test.YtdlmkienogimgaaGreatDoorTWm
import Derived.Test.YtdlmkienogimgaaGreatDoorTWn
import Derived.Test.YtdlmkienogimgaaGreatDoorTWo
import Derived.Test.YtdlmkienogimgaaGreatDoorTWp
import Derived.Test.YtdlmkienogimgaaGreatDoorTWq
import Derived.Test.YtdlmkienogimgaaGreatDoorTWr
import Derived.Test.YtdlmkienogimgaaGreatDoorTWs
namespace Go.Proofs.YtdlmkienogimgaaGreatDoor
open Go.RowKit Go.Deep Go.Shelf Go.Maps

set_option maxHeartbeats 16000000 in
set_option maxRecDepth 1000000 in
theorem treePlays_any (w : World) (v : Value) (ls : List (List (List UInt8))) (hv : TxtsIs w v ls) (s : ByteArray) (hs : s.size ≤ maxLen) (hm : Mx w) (hL : Laid w) :
    Calls Tryz.prog 5 #[v, .string s] w fun e w' => e = .returned (.bool true) ∧ Below w.heap.size w w' := by
  obtain ⟨a, c, b, o, rfl, hlm, ha, hc⟩ := hv.where
  have HC : Hid (∀ i, i < ls.length → ∃ u, w.cell? ⟨b, o + i, none⟩ = some u ∧ StrsIs w u (tat ls i) ∧ ∀ x ∈ tat ls i, x.length ≤ maxLen) := hc
  have HA : Hid (0 < ls.length → a = some ⟨b, o, none⟩ ∧ b < w.heap.size) := ha
  have HM : Hid (∀ w', Below w.heap.size w w' → Mx w') := fun w' hb => hm.later hb
  have HLd : Hid (∀ w', Below w.heap.size w w' → Laid w') := fun w' hb => hL.later hb
  obtain ⟨N, hN⟩ : ∃ N, ls.length = N := ⟨_, rfl⟩
  rw [hN] at hlm HC HA ⊢
  unfold maxLen at hlm
  have HSs : Hid (s.size ≤ maxLen) := hs
  clear ha hc hv hm hL hN hs
  go_enter Tryz.func5, Tryz.ntmps5
  go_wp2_with fail
  refine Calls.mono (new_any w w.heap.size (Nat.le_refl _)) ?_
  rintro e w1 ⟨t, r, M0, rfl, hr, hT1, hb1⟩
  have hz1 := hb1.size
  unfold ptr
  go_wp2_with fail
  refine Calls.mono (newTree_any w1) ?_
  rintro e w2 ⟨vD, vB, rfl, hD, hB, hb2⟩
  obtain ⟨aD, cD, rfl⟩ := hD.form
  obtain ⟨aB, cB, rfl⟩ := hB.form
  have hT2 := hT1.later hb2
  have HBx : Hid (∀ w', Below (w2.alloc (.cells #[.slice aD ([] : List Nm).length cD, .slice aB [true].length cB] 42)).heap.size (w2.alloc (.cells #[.slice aD ([] : List Nm).length cD, .slice aB [true].length cB] 42)) w' → TreeAt w' w.heap.size t [([], r)] M0 ∧ DSt w' w2.heap.size 1 [([], r)] M0 ∧ Below w.heap.size w w') := fun w' hb => by
    have hb3 := below_alloc w2 (.cells #[.slice aD ([] : List Nm).length cD, .slice aB [true].length cB] 42)
    have hb23 : Below w2.heap.size w2 w' := hb3.trans (hb.mono hb3.size)
    refine ⟨hT2.later hb23, ⟨_, _, [], [true], fun _ => 0, (box2_new w2 _ _).later hb, hD.later hb23, hB.later hb23, by simp, new_mt hr⟩, (hb1.trans (hb2.mono hz1)).trans (hb23.mono (Nat.le_trans hz1 hb2.size))⟩
  have hG : w.heap.size ≤ w2.heap.size := Nat.le_trans hz1 hb2.size
  clear hT1 hb1 hD hB hT2 hr hb2 hz1
  go_upto_region 4 with fail
  obtain ⟨w3, hw3⟩ : ∃ w3, (w2.alloc (.cells #[.slice aD 0 cD, .slice aB 1 cB] 42)) = w3 := ⟨_, rfl⟩
  have HI : Hid _ := HBx.out w3 (by rw [← hw3]; exact Below.refl _ _)
  rw [hw3]
  clear hw3 HBx
  generalize w2.heap.size = bx at *
  generalize hGG : w.heap.size = G at *
  have HG : Hid (w.heap.size = G) := hGG
  clear hGG
  go_loopw [4, 7] (fun vr vs wr => ∃ (k : Nat) (L : List Ent) (M : Nat → Option Nat), k ≤ 40 ∧ k ≤ N ∧ vr = .bool false ∧ vs = .int .i64 k ∧ Hid (TreeAt wr G t L M) ∧ Hid (DSt wr bx (k + 1) L M) ∧ Hid (Below G w wr)) (fun _ vs _ => 40 - (intOf vs).toNat)
  case atStart => exact ⟨0, _, _, by omega, by omega, rfl, rfl, HI.out.1, HI.out.2.1, HI.out.2.2⟩
  case round =>
    obtain ⟨k, L, M, hk, hkl, rfl, rfl, HT, HDS, HBw⟩ := hrel
    by_cases hin : k < N ∧ k < 40
    · obtain ⟨hlt, h40⟩ := hin
      obtain ⟨haa, hbl⟩ := HA.out (by omega)
      subst haa
      obtain ⟨u, hu, hsu, hsm⟩ := HC.out k hlt
      have hcu : wr.cell? ⟨b, o + k, none⟩ = some u := by
        rw [HBw.out.cell (p := ⟨b, o + k, none⟩) hbl]; exact hu
      obtain ⟨l, hl⟩ : ∃ l, tat ls k = l := ⟨_, rfl⟩
      rw [hl] at hsu hsm
      obtain ⟨al, cl, rfl⟩ := strs_form hsu
      by_cases h2 : l.length = 2
      · by_cases e1 : sth l 0 = [100]
        · (refine way_d w wr G t bx k N _ b o cl al s _ L M l _ _ _ HG hG HM HLd hlt h40 HT HDS HBw hcu hsu hsm h2 e1 _ _ _ _ _ _ _ _ _ _ _ _ _ _ _ _ _ _ _ _ _ _ _ _ _ _ _ _ _ _ _ _ _ _ _ _ _ _ _ _ _ _ _ _ _ _ _ _ _ _ _ _ _ _ _ _ _ _ _ _ _ _ _ _ _ _ _ _ _ _ _ _ _ _ _ _ _ _ _ _ _ _ _ _ _ _ _ _ _ _ _ _ _ _ _ _ _ _ _ _ _ _ _ _ _ _ _ _ _ _ _ _ _ _ _ _ _ _ _ _ _ _ _ _ _ _ _ _ _ _ _ _ _ _ _ _ _ _ _ ?_; intro L' M' w' x8 x9 x10 x11 x24 x25 x26 x27 x28 x29 x30 x31 x32 x33 x34 x35 x36 x37 x38 x39 x40 x41 x42 x43 x44 x45 x46 x47 x48 x49 x50 x51 x52 x53 x54 x55 x56 x57 x58 x59 x60 x61 x62 x63 x64 x65 x66 x67 x68 x69 x70 x71 x72 x73 x74 x75 x76 x77 x78 x79 x80 x81 x82 x83 x84 x85 x86 x87 x88 x89 x90 x91 x92 x93 x94 x95 x96 x97 x98 x99 x100 x101 x102 x103 x104 x105 x106 x107 x108 x109 x110 x111 x112 x113 x114 x115 x116 x117 x118 x119 x120 x121 x122 x123 x124 x125 x126 x127 x128 x129 x130 x131 x132 x133 x134 x135 x136 x137 x138 x139 x140 x141 x142 x143 x144 x145 x146 x147 x148 x149 x150 x151 x152 x153 x154 x155 x156 x157 x158 hr; refine ⟨⟨_, _, _, _, _, _, _, _, _, _, _, _, _, _, _, _, _, _, _, _, _, _, _, _, _, _, _, _, _, _, _, _, _, _, _, _, _, _, _, _, _, _, _, _, _, _, _, _, _, _, _, _, _, _, _, _, _, _, _, _, _, _, _, _, _, _, _, _, _, _, _, _, _, _, _, _, _, _, _, _, _, _, _, _, _, _, _, _, _, _, _, _, _, _, _, _, _, _, _, _, _, _, _, _, _, _, _, _, _, _, _, _, _, _, _, _, _, _, _, _, _, _, _, _, _, _, _, _, _, _, _, _, _, _, _, _, _, _, _, _, _, ⟨k + 1, L', M', by omega, by omega, rfl, rfl, hr.out.1, hr.out.2.1, hr.out.2.2⟩, rfl⟩, ?_⟩; simp [intOf]; omega)
        · by_cases e2 : sth l 0 = [102]
          · (refine way_f w wr G t bx k N _ b o cl al s _ L M l _ _ _ HG hG HM HLd hlt h40 HT HDS HBw hcu hsu hsm h2 e2 _ _ _ _ _ _ _ _ _ _ _ _ _ _ _ _ _ _ _ _ _ _ _ _ _ _ _ _ _ _ _ _ _ _ _ _ _ _ _ _ _ _ _ _ _ _ _ _ _ _ _ _ _ _ _ _ _ _ _ _ _ _ _ _ _ _ _ _ _ _ _ _ _ _ _ _ _ _ _ _ _ _ _ _ _ _ _ _ _ _ _ _ _ _ _ _ _ _ _ _ _ _ _ _ _ _ _ _ _ _ _ _ _ _ _ _ _ _ _ _ _ _ _ _ _ _ _ _ _ _ _ _ _ _ _ _ _ _ _ ?_; intro L' M' w' x8 x9 x10 x11 x24 x25 x26 x27 x28 x29 x30 x31 x32 x33 x34 x35 x36 x37 x38 x39 x40 x41 x42 x43 x44 x45 x46 x47 x48 x49 x50 x51 x52 x53 x54 x55 x56 x57 x58 x59 x60 x61 x62 x63 x64 x65 x66 x67 x68 x69 x70 x71 x72 x73 x74 x75 x76 x77 x78 x79 x80 x81 x82 x83 x84 x85 x86 x87 x88 x89 x90 x91 x92 x93 x94 x95 x96 x97 x98 x99 x100 x101 x102 x103 x104 x105 x106 x107 x108 x109 x110 x111 x112 x113 x114 x115 x116 x117 x118 x119 x120 x121 x122 x123 x124 x125 x126 x127 x128 x129 x130 x131 x132 x133 x134 x135 x136 x137 x138 x139 x140 x141 x142 x143 x144 x145 x146 x147 x148 x149 x150 x151 x152 x153 x154 x155 x156 x157 x158 hr; refine ⟨⟨_, _, _, _, _, _, _, _, _, _, _, _, _, _, _, _, _, _, _, _, _, _, _, _, _, _, _, _, _, _, _, _, _, _, _, _, _, _, _, _, _, _, _, _, _, _, _, _, _, _, _, _, _, _, _, _, _, _, _, _, _, _, _, _, _, _, _, _, _, _, _, _, _, _, _, _, _, _, _, _, _, _, _, _, _, _, _, _, _, _, _, _, _, _, _, _, _, _, _, _, _, _, _, _, _, _, _, _, _, _, _, _, _, _, _, _, _, _, _, _, _, _, _, _, _, _, _, _, _, _, _, _, _, _, _, _, _, _, _, _, _, ⟨k + 1, L', M', by omega, by omega, rfl, rfl, hr.out.1, hr.out.2.1, hr.out.2.2⟩, rfl⟩, ?_⟩; simp [intOf]; omega)
          · by_cases e3 : sth l 0 = [120]
            · (refine way_x w wr G t bx k N _ b o cl al s _ L M l _ _ _ HG hG HM HLd hlt h40 HT HDS HBw hcu hsu hsm h2 e3 _ _ _ _ _ _ _ _ _ _ _ _ _ _ _ _ _ _ _ _ _ _ _ _ _ _ _ _ _ _ _ _ _ _ _ _ _ _ _ _ _ _ _ _ _ _ _ _ _ _ _ _ _ _ _ _ _ _ _ _ _ _ _ _ _ _ _ _ _ _ _ _ _ _ _ _ _ _ _ _ _ _ _ _ _ _ _ _ _ _ _ _ _ _ _ _ _ _ _ _ _ _ _ _ _ _ _ _ _ _ _ _ _ _ _ _ _ _ _ _ _ _ _ _ _ _ _ _ _ _ _ _ _ _ _ _ _ _ _ ?_; intro L' M' w' x8 x9 x10 x11 x24 x25 x26 x27 x28 x29 x30 x31 x32 x33 x34 x35 x36 x37 x38 x39 x40 x41 x42 x43 x44 x45 x46 x47 x48 x49 x50 x51 x52 x53 x54 x55 x56 x57 x58 x59 x60 x61 x62 x63 x64 x65 x66 x67 x68 x69 x70 x71 x72 x73 x74 x75 x76 x77 x78 x79 x80 x81 x82 x83 x84 x85 x86 x87 x88 x89 x90 x91 x92 x93 x94 x95 x96 x97 x98 x99 x100 x101 x102 x103 x104 x105 x106 x107 x108 x109 x110 x111 x112 x113 x114 x115 x116 x117 x118 x119 x120 x121 x122 x123 x124 x125 x126 x127 x128 x129 x130 x131 x132 x133 x134 x135 x136 x137 x138 x139 x140 x141 x142 x143 x144 x145 x146 x147 x148 x149 x150 x151 x152 x153 x154 x155 x156 x157 x158 hr; refine ⟨⟨_, _, _, _, _, _, _, _, _, _, _, _, _, _, _, _, _, _, _, _, _, _, _, _, _, _, _, _, _, _, _, _, _, _, _, _, _, _, _, _, _, _, _, _, _, _, _, _, _, _, _, _, _, _, _, _, _, _, _, _, _, _, _, _, _, _, _, _, _, _, _, _, _, _, _, _, _, _, _, _, _, _, _, _, _, _, _, _, _, _, _, _, _, _, _, _, _, _, _, _, _, _, _, _, _, _, _, _, _, _, _, _, _, _, _, _, _, _, _, _, _, _, _, _, _, _, _, _, _, _, _, _, _, _, _, _, _, _, _, _, _, ⟨k + 1, L', M', by omega, by omega, rfl, rfl, hr.out.1, hr.out.2.1, hr.out.2.2⟩, rfl⟩, ?_⟩; simp [intOf]; omega)
            · (refine way_n2 w wr G t bx k N _ b o cl al s _ L M l _ _ _ HG hG HM HLd hlt h40 HT HDS HBw hcu hsu hsm h2 e1 e2 e3 _ _ _ _ _ _ _ _ _ _ _ _ _ _ _ _ _ _ _ _ _ _ _ _ _ _ _ _ _ _ _ _ _ _ _ _ _ _ _ _ _ _ _ _ _ _ _ _ _ _ _ _ _ _ _ _ _ _ _ _ _ _ _ _ _ _ _ _ _ _ _ _ _ _ _ _ _ _ _ _ _ _ _ _ _ _ _ _ _ _ _ _ _ _ _ _ _ _ _ _ _ _ _ _ _ _ _ _ _ _ _ _ _ _ _ _ _ _ _ _ _ _ _ _ _ _ _ _ _ _ _ _ _ _ _ _ _ _ _ ?_; intro L' M' w' x8 x9 x10 x11 x24 x25 x26 x27 x28 x29 x30 x31 x32 x33 x34 x35 x36 x37 x38 x39 x40 x41 x42 x43 x44 x45 x46 x47 x48 x49 x50 x51 x52 x53 x54 x55 x56 x57 x58 x59 x60 x61 x62 x63 x64 x65 x66 x67 x68 x69 x70 x71 x72 x73 x74 x75 x76 x77 x78 x79 x80 x81 x82 x83 x84 x85 x86 x87 x88 x89 x90 x91 x92 x93 x94 x95 x96 x97 x98 x99 x100 x101 x102 x103 x104 x105 x106 x107 x108 x109 x110 x111 x112 x113 x114 x115 x116 x117 x118 x119 x120 x121 x122 x123 x124 x125 x126 x127 x128 x129 x130 x131 x132 x133 x134 x135 x136 x137 x138 x139 x140 x141 x142 x143 x144 x145 x146 x147 x148 x149 x150 x151 x152 x153 x154 x155 x156 x157 x158 hr; refine ⟨⟨_, _, _, _, _, _, _, _, _, _, _, _, _, _, _, _, _, _, _, _, _, _, _, _, _, _, _, _, _, _, _, _, _, _, _, _, _, _, _, _, _, _, _, _, _, _, _, _, _, _, _, _, _, _, _, _, _, _, _, _, _, _, _, _, _, _, _, _, _, _, _, _, _, _, _, _, _, _, _, _, _, _, _, _, _, _, _, _, _, _, _, _, _, _, _, _, _, _, _, _, _, _, _, _, _, _, _, _, _, _, _, _, _, _, _, _, _, _, _, _, _, _, _, _, _, _, _, _, _, _, _, _, _, _, _, _, _, _, _, _, _, ⟨k + 1, L', M', by omega, by omega, rfl, rfl, hr.out.1, hr.out.2.1, hr.out.2.2⟩, rfl⟩, ?_⟩; simp [intOf]; omega)
      · by_cases h3 : l.length = 3
        · by_cases e1 : sth l 0 = [108]
          · rcases atS_cases HT.out.good (sth l 1) with ⟨j, ha, _, hj⟩ | ⟨e0, hne, ha⟩
            · cases hM : M j with
              | some m => (refine way_l2 w wr G t bx k N _ b o cl al s _ L M l _ _ _ HG hG HM HLd hlt h40 HT HDS HBw hcu hsu hsm h3 e1 j ha hj (by rw [hM]; rfl) _ _ _ _ _ _ _ _ _ _ _ _ _ _ _ _ _ _ _ _ _ _ _ _ _ _ _ _ _ _ _ _ _ _ _ _ _ _ _ _ _ _ _ _ _ _ _ _ _ _ _ _ _ _ _ _ _ _ _ _ _ _ _ _ _ _ _ _ _ _ _ _ _ _ _ _ _ _ _ _ _ _ _ _ _ _ _ _ _ _ _ _ _ _ _ _ _ _ _ _ _ _ _ _ _ _ _ _ _ _ _ _ _ _ _ _ _ _ _ _ _ _ _ _ _ _ _ _ _ _ _ _ _ _ _ _ _ _ _ ?_; intro L' M' w' x8 x9 x10 x11 x24 x25 x26 x27 x28 x29 x30 x31 x32 x33 x34 x35 x36 x37 x38 x39 x40 x41 x42 x43 x44 x45 x46 x47 x48 x49 x50 x51 x52 x53 x54 x55 x56 x57 x58 x59 x60 x61 x62 x63 x64 x65 x66 x67 x68 x69 x70 x71 x72 x73 x74 x75 x76 x77 x78 x79 x80 x81 x82 x83 x84 x85 x86 x87 x88 x89 x90 x91 x92 x93 x94 x95 x96 x97 x98 x99 x100 x101 x102 x103 x104 x105 x106 x107 x108 x109 x110 x111 x112 x113 x114 x115 x116 x117 x118 x119 x120 x121 x122 x123 x124 x125 x126 x127 x128 x129 x130 x131 x132 x133 x134 x135 x136 x137 x138 x139 x140 x141 x142 x143 x144 x145 x146 x147 x148 x149 x150 x151 x152 x153 x154 x155 x156 x157 x158 hr; refine ⟨⟨_, _, _, _, _, _, _, _, _, _, _, _, _, _, _, _, _, _, _, _, _, _, _, _, _, _, _, _, _, _, _, _, _, _, _, _, _, _, _, _, _, _, _, _, _, _, _, _, _, _, _, _, _, _, _, _, _, _, _, _, _, _, _, _, _, _, _, _, _, _, _, _, _, _, _, _, _, _, _, _, _, _, _, _, _, _, _, _, _, _, _, _, _, _, _, _, _, _, _, _, _, _, _, _, _, _, _, _, _, _, _, _, _, _, _, _, _, _, _, _, _, _, _, _, _, _, _, _, _, _, _, _, _, _, _, _, _, _, _, _, _, ⟨k + 1, L', M', by omega, by omega, rfl, rfl, hr.out.1, hr.out.2.1, hr.out.2.2⟩, rfl⟩, ?_⟩; simp [intOf]; omega)
              | none => (refine way_l3 w wr G t bx k N _ b o cl al s _ L M l _ _ _ HG hG HM HLd hlt h40 HT HDS HBw hcu hsu hsm h3 e1 j ha hj hM _ _ _ _ _ _ _ _ _ _ _ _ _ _ _ _ _ _ _ _ _ _ _ _ _ _ _ _ _ _ _ _ _ _ _ _ _ _ _ _ _ _ _ _ _ _ _ _ _ _ _ _ _ _ _ _ _ _ _ _ _ _ _ _ _ _ _ _ _ _ _ _ _ _ _ _ _ _ _ _ _ _ _ _ _ _ _ _ _ _ _ _ _ _ _ _ _ _ _ _ _ _ _ _ _ _ _ _ _ _ _ _ _ _ _ _ _ _ _ _ _ _ _ _ _ _ _ _ _ _ _ _ _ _ _ _ _ _ _ ?_; intro L' M' w' x8 x9 x10 x11 x24 x25 x26 x27 x28 x29 x30 x31 x32 x33 x34 x35 x36 x37 x38 x39 x40 x41 x42 x43 x44 x45 x46 x47 x48 x49 x50 x51 x52 x53 x54 x55 x56 x57 x58 x59 x60 x61 x62 x63 x64 x65 x66 x67 x68 x69 x70 x71 x72 x73 x74 x75 x76 x77 x78 x79 x80 x81 x82 x83 x84 x85 x86 x87 x88 x89 x90 x91 x92 x93 x94 x95 x96 x97 x98 x99 x100 x101 x102 x103 x104 x105 x106 x107 x108 x109 x110 x111 x112 x113 x114 x115 x116 x117 x118 x119 x120 x121 x122 x123 x124 x125 x126 x127 x128 x129 x130 x131 x132 x133 x134 x135 x136 x137 x138 x139 x140 x141 x142 x143 x144 x145 x146 x147 x148 x149 x150 x151 x152 x153 x154 x155 x156 x157 x158 hr; refine ⟨⟨_, _, _, _, _, _, _, _, _, _, _, _, _, _, _, _, _, _, _, _, _, _, _, _, _, _, _, _, _, _, _, _, _, _, _, _, _, _, _, _, _, _, _, _, _, _, _, _, _, _, _, _, _, _, _, _, _, _, _, _, _, _, _, _, _, _, _, _, _, _, _, _, _, _, _, _, _, _, _, _, _, _, _, _, _, _, _, _, _, _, _, _, _, _, _, _, _, _, _, _, _, _, _, _, _, _, _, _, _, _, _, _, _, _, _, _, _, _, _, _, _, _, _, _, _, _, _, _, _, _, _, _, _, _, _, _, _, _, _, _, _, ⟨k + 1, L', M', by omega, by omega, rfl, rfl, hr.out.1, hr.out.2.1, hr.out.2.2⟩, rfl⟩, ?_⟩; simp [intOf]; omega)
            · (refine way_l1 w wr G t bx k N _ b o cl al s _ L M l _ _ _ HG hG HM HLd hlt h40 HT HDS HBw hcu hsu hsm h3 e1 e0 hne ha _ _ _ _ _ _ _ _ _ _ _ _ _ _ _ _ _ _ _ _ _ _ _ _ _ _ _ _ _ _ _ _ _ _ _ _ _ _ _ _ _ _ _ _ _ _ _ _ _ _ _ _ _ _ _ _ _ _ _ _ _ _ _ _ _ _ _ _ _ _ _ _ _ _ _ _ _ _ _ _ _ _ _ _ _ _ _ _ _ _ _ _ _ _ _ _ _ _ _ _ _ _ _ _ _ _ _ _ _ _ _ _ _ _ _ _ _ _ _ _ _ _ _ _ _ _ _ _ _ _ _ _ _ _ _ _ _ _ _ ?_; intro L' M' w' x8 x9 x10 x11 x24 x25 x26 x27 x28 x29 x30 x31 x32 x33 x34 x35 x36 x37 x38 x39 x40 x41 x42 x43 x44 x45 x46 x47 x48 x49 x50 x51 x52 x53 x54 x55 x56 x57 x58 x59 x60 x61 x62 x63 x64 x65 x66 x67 x68 x69 x70 x71 x72 x73 x74 x75 x76 x77 x78 x79 x80 x81 x82 x83 x84 x85 x86 x87 x88 x89 x90 x91 x92 x93 x94 x95 x96 x97 x98 x99 x100 x101 x102 x103 x104 x105 x106 x107 x108 x109 x110 x111 x112 x113 x114 x115 x116 x117 x118 x119 x120 x121 x122 x123 x124 x125 x126 x127 x128 x129 x130 x131 x132 x133 x134 x135 x136 x137 x138 x139 x140 x141 x142 x143 x144 x145 x146 x147 x148 x149 x150 x151 x152 x153 x154 x155 x156 x157 x158 hr; refine ⟨⟨_, _, _, _, _, _, _, _, _, _, _, _, _, _, _, _, _, _, _, _, _, _, _, _, _, _, _, _, _, _, _, _, _, _, _, _, _, _, _, _, _, _, _, _, _, _, _, _, _, _, _, _, _, _, _, _, _, _, _, _, _, _, _, _, _, _, _, _, _, _, _, _, _, _, _, _, _, _, _, _, _, _, _, _, _, _, _, _, _, _, _, _, _, _, _, _, _, _, _, _, _, _, _, _, _, _, _, _, _, _, _, _, _, _, _, _, _, _, _, _, _, _, _, _, _, _, _, _, _, _, _, _, _, _, _, _, _, _, _, _, _, ⟨k + 1, L', M', by omega, by omega, rfl, rfl, hr.out.1, hr.out.2.1, hr.out.2.2⟩, rfl⟩, ?_⟩; simp [intOf]; omega)
          · by_cases e2 : sth l 0 = [109]
            · (refine way_m w wr G t bx k N _ b o cl al s _ L M l _ _ _ HG hG HM HLd hlt h40 HT HDS HBw hcu hsu hsm h3 e2 _ _ _ _ _ _ _ _ _ _ _ _ _ _ _ _ _ _ _ _ _ _ _ _ _ _ _ _ _ _ _ _ _ _ _ _ _ _ _ _ _ _ _ _ _ _ _ _ _ _ _ _ _ _ _ _ _ _ _ _ _ _ _ _ _ _ _ _ _ _ _ _ _ _ _ _ _ _ _ _ _ _ _ _ _ _ _ _ _ _ _ _ _ _ _ _ _ _ _ _ _ _ _ _ _ _ _ _ _ _ _ _ _ _ _ _ _ _ _ _ _ _ _ _ _ _ _ _ _ _ _ _ _ _ _ _ _ _ _ ?_; intro L' M' w' x8 x9 x10 x11 x24 x25 x26 x27 x28 x29 x30 x31 x32 x33 x34 x35 x36 x37 x38 x39 x40 x41 x42 x43 x44 x45 x46 x47 x48 x49 x50 x51 x52 x53 x54 x55 x56 x57 x58 x59 x60 x61 x62 x63 x64 x65 x66 x67 x68 x69 x70 x71 x72 x73 x74 x75 x76 x77 x78 x79 x80 x81 x82 x83 x84 x85 x86 x87 x88 x89 x90 x91 x92 x93 x94 x95 x96 x97 x98 x99 x100 x101 x102 x103 x104 x105 x106 x107 x108 x109 x110 x111 x112 x113 x114 x115 x116 x117 x118 x119 x120 x121 x122 x123 x124 x125 x126 x127 x128 x129 x130 x131 x132 x133 x134 x135 x136 x137 x138 x139 x140 x141 x142 x143 x144 x145 x146 x147 x148 x149 x150 x151 x152 x153 x154 x155 x156 x157 x158 hr; refine ⟨⟨_, _, _, _, _, _, _, _, _, _, _, _, _, _, _, _, _, _, _, _, _, _, _, _, _, _, _, _, _, _, _, _, _, _, _, _, _, _, _, _, _, _, _, _, _, _, _, _, _, _, _, _, _, _, _, _, _, _, _, _, _, _, _, _, _, _, _, _, _, _, _, _, _, _, _, _, _, _, _, _, _, _, _, _, _, _, _, _, _, _, _, _, _, _, _, _, _, _, _, _, _, _, _, _, _, _, _, _, _, _, _, _, _, _, _, _, _, _, _, _, _, _, _, _, _, _, _, _, _, _, _, _, _, _, _, _, _, _, _, _, _, ⟨k + 1, L', M', by omega, by omega, rfl, rfl, hr.out.1, hr.out.2.1, hr.out.2.2⟩, rfl⟩, ?_⟩; simp [intOf]; omega)
            · (refine way_n3 w wr G t bx k N _ b o cl al s _ L M l _ _ _ HG hG HM HLd hlt h40 HT HDS HBw hcu hsu hsm h3 e1 e2 _ _ _ _ _ _ _ _ _ _ _ _ _ _ _ _ _ _ _ _ _ _ _ _ _ _ _ _ _ _ _ _ _ _ _ _ _ _ _ _ _ _ _ _ _ _ _ _ _ _ _ _ _ _ _ _ _ _ _ _ _ _ _ _ _ _ _ _ _ _ _ _ _ _ _ _ _ _ _ _ _ _ _ _ _ _ _ _ _ _ _ _ _ _ _ _ _ _ _ _ _ _ _ _ _ _ _ _ _ _ _ _ _ _ _ _ _ _ _ _ _ _ _ _ _ _ _ _ _ _ _ _ _ _ _ _ _ _ _ ?_; intro L' M' w' x8 x9 x10 x11 x24 x25 x26 x27 x28 x29 x30 x31 x32 x33 x34 x35 x36 x37 x38 x39 x40 x41 x42 x43 x44 x45 x46 x47 x48 x49 x50 x51 x52 x53 x54 x55 x56 x57 x58 x59 x60 x61 x62 x63 x64 x65 x66 x67 x68 x69 x70 x71 x72 x73 x74 x75 x76 x77 x78 x79 x80 x81 x82 x83 x84 x85 x86 x87 x88 x89 x90 x91 x92 x93 x94 x95 x96 x97 x98 x99 x100 x101 x102 x103 x104 x105 x106 x107 x108 x109 x110 x111 x112 x113 x114 x115 x116 x117 x118 x119 x120 x121 x122 x123 x124 x125 x126 x127 x128 x129 x130 x131 x132 x133 x134 x135 x136 x137 x138 x139 x140 x141 x142 x143 x144 x145 x146 x147 x148 x149 x150 x151 x152 x153 x154 x155 x156 x157 x158 hr; refine ⟨⟨_, _, _, _, _, _, _, _, _, _, _, _, _, _, _, _, _, _, _, _, _, _, _, _, _, _, _, _, _, _, _, _, _, _, _, _, _, _, _, _, _, _, _, _, _, _, _, _, _, _, _, _, _, _, _, _, _, _, _, _, _, _, _, _, _, _, _, _, _, _, _, _, _, _, _, _, _, _, _, _, _, _, _, _, _, _, _, _, _, _, _, _, _, _, _, _, _, _, _, _, _, _, _, _, _, _, _, _, _, _, _, _, _, _, _, _, _, _, _, _, _, _, _, _, _, _, _, _, _, _, _, _, _, _, _, _, _, _, _, _, _, ⟨k + 1, L', M', by omega, by omega, rfl, rfl, hr.out.1, hr.out.2.1, hr.out.2.2⟩, rfl⟩, ?_⟩; simp [intOf]; omega)
        · (refine way_n0 w wr G t bx k N _ b o cl al s _ L M l _ _ _ HG hG HM HLd hlt h40 HT HDS HBw hcu hsu hsm h2 h3 _ _ _ _ _ _ _ _ _ _ _ _ _ _ _ _ _ _ _ _ _ _ _ _ _ _ _ _ _ _ _ _ _ _ _ _ _ _ _ _ _ _ _ _ _ _ _ _ _ _ _ _ _ _ _ _ _ _ _ _ _ _ _ _ _ _ _ _ _ _ _ _ _ _ _ _ _ _ _ _ _ _ _ _ _ _ _ _ _ _ _ _ _ _ _ _ _ _ _ _ _ _ _ _ _ _ _ _ _ _ _ _ _ _ _ _ _ _ _ _ _ _ _ _ _ _ _ _ _ _ _ _ _ _ _ _ _ _ _ ?_; intro L' M' w' x8 x9 x10 x11 x24 x25 x26 x27 x28 x29 x30 x31 x32 x33 x34 x35 x36 x37 x38 x39 x40 x41 x42 x43 x44 x45 x46 x47 x48 x49 x50 x51 x52 x53 x54 x55 x56 x57 x58 x59 x60 x61 x62 x63 x64 x65 x66 x67 x68 x69 x70 x71 x72 x73 x74 x75 x76 x77 x78 x79 x80 x81 x82 x83 x84 x85 x86 x87 x88 x89 x90 x91 x92 x93 x94 x95 x96 x97 x98 x99 x100 x101 x102 x103 x104 x105 x106 x107 x108 x109 x110 x111 x112 x113 x114 x115 x116 x117 x118 x119 x120 x121 x122 x123 x124 x125 x126 x127 x128 x129 x130 x131 x132 x133 x134 x135 x136 x137 x138 x139 x140 x141 x142 x143 x144 x145 x146 x147 x148 x149 x150 x151 x152 x153 x154 x155 x156 x157 x158 hr; refine ⟨⟨_, _, _, _, _, _, _, _, _, _, _, _, _, _, _, _, _, _, _, _, _, _, _, _, _, _, _, _, _, _, _, _, _, _, _, _, _, _, _, _, _, _, _, _, _, _, _, _, _, _, _, _, _, _, _, _, _, _, _, _, _, _, _, _, _, _, _, _, _, _, _, _, _, _, _, _, _, _, _, _, _, _, _, _, _, _, _, _, _, _, _, _, _, _, _, _, _, _, _, _, _, _, _, _, _, _, _, _, _, _, _, _, _, _, _, _, _, _, _, _, _, _, _, _, _, _, _, _, _, _, _, _, _, _, _, _, _, _, _, _, _, ⟨k + 1, L', M', by omega, by omega, rfl, rfl, hr.out.1, hr.out.2.1, hr.out.2.2⟩, rfl⟩, ?_⟩; simp [intOf]; omega)
    · obtain ⟨g, hg⟩ : ∃ g : Bool, g = false := ⟨_, rfl⟩
      clear hg g
      go_upto_region 4 with fail
      go_cut [31] (fun s31 wx => s31 = .bool false ∧ wr = wx)
      case first =>
        by_cases h1 : k < N
        · have h2 : ¬ k < 40 := fun h => hin ⟨h1, h⟩
          clear hin
          go_wp2_with fail
          go_meet
          case rel => exact ⟨by simp; omega, rfl⟩
        · clear hin
          go_wp2_with fail
          go_meet
          case rel => first | exact ⟨rfl, rfl⟩ | exact ⟨by simp; omega, rfl⟩
      case rest =>
        obtain ⟨rfl, hwc⟩ := hcut
        subst hwc
        have hgz : G ≤ wr.heap.size := by have h := HBw.out.size; have h2 := HG.out; omega
        obtain ⟨vD, vB, D, B, num, hbx, hD, hB, hBk, hmt⟩ := HDS.out
        obtain ⟨aD', cD', rfl⟩ := hD.form
        obtain ⟨aB', cB', rfl⟩ := hB.form
        have HX : Hid (∀ w', Below wr.heap.size wr w' → Box2 w' bx (.slice aD' D.length cD') (.slice aB' B.length cB')) := fun w' hb => hbx.later hb
        have HD : Hid (∀ w', Below wr.heap.size wr w' → NamedIs w' (.slice aD' D.length cD') D) := fun w' hb => hD.later hb
        have HB : Hid (∀ w', Below wr.heap.size wr w' → BoolsIs w' (.slice aB' B.length cB') B) := fun w' hb => hB.later hb
        have HMt : Hid (Mt L M num D B) := hmt
        obtain ⟨x0, x1, _, _⟩ := hbx.facts
        have HTh : Hid _ := fun (_ : Nat) => dthing_any wr (.slice aD' D.length cD') (.slice aB' B.length cB') L M num D B hD hB hmt s HSs.out
        have HNm : Hid _ := fun (w' : World) (hb : Below wr.heap.size wr w') => names_any w' G t L M (HT.out.later hb) s HSs.out (HM.out w' (HBw.out.trans (hb.mono hgz)))
        have HLs : Hid _ := fun (w' : World) (hb : Below wr.heap.size wr w') => list_any w' G t L M (HT.out.later hb) s HSs.out (HM.out w' (HBw.out.trans (hb.mono hgz)))
        have HEr : Hid (∀ (n : Nat) (w' : World), Below wr.heap.size wr w' → Calls Tryz.prog 16 #[errV n, .int .i64 (n : Int)] w' fun ev w2 => ev = .returned (.bool true) ∧ Below w'.heap.size w' w2) := fun n w' hb => by
          have h := error_any n (n : Int) w' (HLd.out w' (HBw.out.trans (hb.mono hgz)))
          rw [show ((n : Int) == (n : Int)) = true by simp] at h
          exact h
        have HFin : Hid (∀ w', Below wr.heap.size wr w' → Below w.heap.size w w') := fun w' hb => by rw [HG.out]; exact HBw.out.trans (hb.mono hgz)
        unfold ptr at HNm HLs
        clear hbx hD hB hmt hBk HDS HA HC hin
        rcases atS_cases HT.out.good s.data.toList with ⟨j, ha, hp, hj⟩ | ⟨e0, hne, ha⟩
        · obtain ⟨z1, z2⟩ := HMt.out.dirs _ _ (look_mem hj)
          obtain ⟨aa, cc, b2, o2, e2, hlB, ha2, hc2⟩ := (HB.out wr (Below.refl _ _)).where
          cases e2
          have haa := ha2 (by omega)
          subst haa
          have hth : thing L M s.data.toList = j := by unfold thing; rw [ha]; rfl
          have hzi : ((num j : Nat) : Int) < (B.length : Int) := by omega
          unfold maxLen at hlB
          rw [ha] at HTh HNm
          simp only [nU] at HTh
          cases hM : M j with
          | some m =>
            rw [hM] at z2
            have HCB : Hid (∀ w', Below wr.heap.size wr w' → w'.cell? ⟨b2, o2 + num j, none⟩ = some (.bool true)) := fun w' hb => by rw [show true = B.getD (num j) false from z2.symm]; exact keepU hb (hc2 _ z1)
            have hnm : nmN L M s.data.toList = 0 := by unfold nmN; rw [ha, hth, hM, if_neg (by simp)]
            have hle : lsE L M s.data.toList = 0 := by unfold lsE; rw [ha, hth, hM]; rfl
            have hll : lsL L M s.data.toList = kids L (pN s.data.toList) := by unfold lsL; rw [if_pos hle]
            obtain ⟨g1, g2⟩ := pN_right hp
            have HPt : Hid _ := fun (w' : World) => rparts_any w' s HSs.out
            rw [hp, show nms s.data.toList = pN s.data.toList by unfold nms; rw [if_pos hp]] at HPt
            have HSh : Hid _ := fun (w' : World) (v : Value) (hv : StrsIs w' v (pN s.data.toList)) => shown_any w' v _ hv (by have := wid_names g2; omega)
            have HIn : Hid _ := fun (w' : World) (hb : Below wr.heap.size wr w') => dinside_any w' (.slice aD' D.length cD') (.slice (some ⟨b2, o2, none⟩) B.length cB') L M num D B (HD.out w' hb) HMt.out (pN s.data.toList) g1 g2
            rw [hnm] at HNm
            rw [hle, hll] at HLs
            have HE0 : Hid (∀ w', Below wr.heap.size wr w' → Calls Tryz.prog 16 #[errV 0, .int .i64 0] w' fun ev w2 => ev = .returned (.bool true) ∧ Below w'.heap.size w' w2) := fun w' hb => HEr.out 0 w' hb
            generalize kids L (pN s.data.toList) = K at *
            generalize shw (pN s.data.toList) = PT at *
            generalize pN s.data.toList = PN at *
            generalize num j = z at *
            generalize D.length = nD at *
            generalize B.length = nB at *
            generalize errV 0 = E0 at *
            clear ha hp hj z1 z2 ha2 hc2 hth hM hnm hle hll g1 g2 HB HD HMt HEr
            go_wp2_with fail
            refine Calls.mono (HTh.out 0) ?_
            rintro ev w4 ⟨rfl, hb4⟩
            have HB4 : Hid (Below wr.heap.size wr w4) := hb4
            obtain ⟨x0, x1, _, _⟩ := (HX.out w4 HB4.out).facts
            have cz := HCB.out w4 HB4.out
            clear hb4

            go_wp2_with fail
            refine Calls.mono (HNm.out w4 HB4.out) ?_
            rintro ev w5 ⟨rfl, hb5⟩
            have HB5 : Hid (Below wr.heap.size wr w5) := HB4.out.trans (hb5.mono HB4.out.size)
            obtain ⟨x0, x1, _, _⟩ := (HX.out w5 HB5.out).facts
            have cz := HCB.out w5 HB5.out
            clear hb5

            go_wp2_with fail
            refine Calls.mono (HE0.out w5 HB5.out) ?_
            rintro ev w6 ⟨rfl, hb6⟩
            have HB6 : Hid (Below wr.heap.size wr w6) := HB5.out.trans (hb6.mono HB5.out.size)
            obtain ⟨x0, x1, _, _⟩ := (HX.out w6 HB6.out).facts
            have cz := HCB.out w6 HB6.out
            clear hb6

            go_wp2_with fail
            refine Calls.mono (HPt.out w6) ?_
            rintro ev w7 ⟨v7, rfl, hv7, hb7⟩
            have HB7 : Hid (Below wr.heap.size wr w7) := HB6.out.trans (hb7.mono HB6.out.size)
            obtain ⟨a7, c7, rfl⟩ := strs_form hv7
            have HV7 : Hid (∀ w', Below w7.heap.size w7 w' → StrsIs w' (.slice a7 PN.length c7) PN) := fun w' hb => hv7.later (Nat.le_refl _) hb
            obtain ⟨x0, x1, _, _⟩ := (HX.out w7 HB7.out).facts
            generalize PN.length = nP at *
            clear hb7 hv7
            go_wp2_with fail
            go_region_with (first
              | (go_at_call 10; refine (HSh.out _ _ (HV7.out _ (below_draw _ _))).mono ?_; rintro ev w' ⟨rfl, hw8⟩; obtain ⟨w8, hw8'⟩ : ∃ w8, w8 = w' := ⟨_, rfl⟩; rw [← hw8'] at hw8 ⊢; have HB8 : Hid (Below w7.heap.size w7 w8) := undrewB (by rw [← hw8]; exact Below.refl _ _); clear hw8 hw8'; obtain ⟨z0, z1, _, _⟩ := (HX.out w8 (HB7.out.trans (HB8.out.mono HB7.out.size))).facts)
              | (go_at_call 28; refine (HIn.out _ (HB7.out.trans (HB8.out.mono HB7.out.size))).mono ?_; rintro ev w9 ⟨v9, rfl, hv9, hb9⟩; have HB9 : Hid (Below wr.heap.size wr w9) := (HB7.out.trans (HB8.out.mono HB7.out.size)).trans (hb9.mono (HB7.out.trans (HB8.out.mono HB7.out.size)).size); have HV9 : Hid (∀ w', Below w9.heap.size w9 w' → StrsIs w' v9 K) := fun w' hb => hv9.later (Nat.le_refl _) hb; clear hb9 hv9))
            all_goals
              obtain ⟨x0, x1, _, _⟩ := (HX.out w9 HB9.out).facts
              go_wp2_with fail
              refine Calls.mono (HLs.out w9 HB9.out) ?_
              rintro ev wa ⟨va, rfl, hva, hba⟩
              have HBa : Hid (Below wr.heap.size wr wa) := HB9.out.trans (hba.mono HB9.out.size)
              have HVa : Hid (∀ w', Below wa.heap.size wa w' → StrsIs w' va K ∧ StrsIs w' v9 K) := fun w' hb => ⟨hva.later (Nat.le_refl _) hb, HV9.out w' (hba.trans (hb.mono hba.size))⟩
              clear hba hva
              go_wp2_with fail
              refine Calls.mono (HE0.out wa HBa.out) ?_
              rintro ev wb ⟨rfl, hbb⟩
              have HBb : Hid (Below wr.heap.size wr wb) := HBa.out.trans (hbb.mono HBa.out.size)
              have HT8 : Hid _ := fun (_ : Nat) => texts_any wb va v9 K K (HVa.out wb hbb).1 (HVa.out wb hbb).2
              rw [eqS_self] at HT8
              clear hbb
              go_wp2_with fail
              refine Calls.mono (HT8.out 0) ?_
              rintro ev wc ⟨rfl, hbc⟩
              have HBc : Hid (Below wr.heap.size wr wc) := HBb.out.trans (hbc.mono HBb.out.size)
              go_wp2_with fail
              go_ret
              exact ⟨rfl, HFin.out _ HBc.out⟩
          | none =>
            rw [hM] at z2
            have HCB : Hid (∀ w', Below wr.heap.size wr w' → w'.cell? ⟨b2, o2 + num j, none⟩ = some (.bool false)) := fun w' hb => by rw [show false = B.getD (num j) false from z2.symm]; exact keepU hb (hc2 _ z1)
            have hnm : nmN L M s.data.toList = mny D (num j) := by unfold nmN; rw [ha, hth, if_pos ⟨rfl, hM⟩, HMt.out.many (look_mem hj)]
            have hle : lsE L M s.data.toList = 3 := by unfold lsE; rw [ha, hth, hM]; rfl
            have hll : lsL L M s.data.toList = [] := by unfold lsL; rw [if_neg (by rw [hle]; decide)]
            have HMy : Hid _ := fun (w' : World) (hb : Below wr.heap.size wr w') => many_any w' (.slice aD' D.length cD') (.slice (some ⟨b2, o2, none⟩) B.length cB') D (HD.out w' hb) (num j)
            rw [hnm] at HNm
            rw [hle, hll] at HLs
            have HE0 : Hid (∀ w', Below wr.heap.size wr w' → Calls Tryz.prog 16 #[errV 0, .int .i64 0] w' fun ev w2 => ev = .returned (.bool true) ∧ Below w'.heap.size w' w2) := fun w' hb => HEr.out 0 w' hb
            have HE3 : Hid (∀ w', Below wr.heap.size wr w' → Calls Tryz.prog 16 #[errV 3, .int .i64 3] w' fun ev w2 => ev = .returned (.bool true) ∧ Below w'.heap.size w' w2) := fun w' hb => HEr.out 3 w' hb
            generalize mny D (num j) = my at *
            generalize num j = z at *
            generalize D.length = nD at *
            generalize B.length = nB at *
            generalize errV 0 = E0 at *
            generalize errV 3 = E3 at *
            clear ha hp hj z1 z2 ha2 hc2 hth hM hnm hle hll HB HD HMt HEr
            go_wp2_with fail
            refine Calls.mono (HTh.out 0) ?_
            rintro ev w4 ⟨rfl, hb4⟩
            have HB4 : Hid (Below wr.heap.size wr w4) := hb4
            obtain ⟨x0, x1, _, _⟩ := (HX.out w4 HB4.out).facts
            have cz := HCB.out w4 HB4.out
            clear hb4

            go_wp2_with fail
            refine Calls.mono (HMy.out w4 HB4.out) ?_
            rintro ev w4' ⟨rfl, hb4'⟩
            have HB4' : Hid (Below wr.heap.size wr w4') := HB4.out.trans (hb4'.mono HB4.out.size)
            obtain ⟨x0, x1, _, _⟩ := (HX.out w4' HB4'.out).facts
            have cz := HCB.out w4' HB4'.out
            clear hb4'

            go_wp2_with fail
            refine Calls.mono (HNm.out w4' HB4'.out) ?_
            rintro ev w5 ⟨rfl, hb5⟩
            have HB5 : Hid (Below wr.heap.size wr w5) := HB4'.out.trans (hb5.mono HB4'.out.size)
            obtain ⟨x0, x1, _, _⟩ := (HX.out w5 HB5.out).facts
            have cz := HCB.out w5 HB5.out
            clear hb5

            go_wp2_with fail
            refine Calls.mono (HE0.out w5 HB5.out) ?_
            rintro ev w6 ⟨rfl, hb6⟩
            have HB6 : Hid (Below wr.heap.size wr w6) := HB5.out.trans (hb6.mono HB5.out.size)
            obtain ⟨x0, x1, _, _⟩ := (HX.out w6 HB6.out).facts
            have cz := HCB.out w6 HB6.out
            clear hb6

            go_wp2_with fail
            refine Calls.mono (HLs.out w6 HB6.out) ?_
            rintro ev w7 ⟨v7, rfl, hv7, hb7⟩
            have HB7 : Hid (Below wr.heap.size wr w7) := HB6.out.trans (hb7.mono HB6.out.size)
            have HV7 : Hid (∀ w', Below w7.heap.size w7 w' → StrsIs w' v7 []) := fun w' hb => hv7.later (Nat.le_refl _) hb
            obtain ⟨x0, x1, _, _⟩ := (HX.out w7 HB7.out).facts
            clear hb7 hv7

            go_wp2_with fail
            refine Calls.mono (HE3.out w7 HB7.out) ?_
            rintro ev w8 ⟨rfl, hb8⟩
            have HB8 : Hid (Below wr.heap.size wr w8) := HB7.out.trans (hb8.mono HB7.out.size)
            have HT8 : Hid _ := fun (_ : Nat) => texts_any w8 v7 (.slice none 0 0) [] [] (HV7.out w8 hb8) (nil_strs w8)
            rw [eqS_self] at HT8
            clear hb8
            go_wp2_with fail
            refine Calls.mono (HT8.out 0) ?_
            rintro ev w9 ⟨rfl, hb9⟩
            have HB9 : Hid (Below wr.heap.size wr w9) := HB8.out.trans (hb9.mono HB8.out.size)
            go_wp2_with fail
            go_ret
            exact ⟨rfl, HFin.out _ HB9.out⟩
        · have hnm : nmN L M s.data.toList = 0 := by unfold nmN; rw [ha, if_neg (by simp [hne])]
          have hle : lsE L M s.data.toList = e0 := by unfold lsE; rw [ha, if_pos hne]
          have hll : lsL L M s.data.toList = [] := by unfold lsL; rw [if_neg (by rw [hle]; exact hne)]
          rw [ha] at HTh HNm
          simp only [nU] at HTh
          rw [hnm] at HNm
          rw [hle, hll] at HLs
          have HE0 : Hid _ := fun (w' : World) (hb : Below wr.heap.size wr w') => HEr.out e0 w' hb
          have hq : ((e0 : Int) == 0) = false := by simp; omega
          generalize D.length = nD at *
          generalize B.length = nB at *
          generalize errV e0 = E0 at *
          clear ha hne hnm hle hll HB HD HMt HEr
          go_wp2_with fail
          refine Calls.mono (HTh.out 0) ?_
          rintro ev w4 ⟨rfl, hb4⟩
          have HB4 : Hid (Below wr.heap.size wr w4) := hb4
          obtain ⟨x0, x1, _, _⟩ := (HX.out w4 HB4.out).facts

          clear hb4

          go_wp2_with fail
          refine Calls.mono (HNm.out w4 HB4.out) ?_
          rintro ev w5 ⟨rfl, hb5⟩
          have HB5 : Hid (Below wr.heap.size wr w5) := HB4.out.trans (hb5.mono HB4.out.size)
          obtain ⟨x0, x1, _, _⟩ := (HX.out w5 HB5.out).facts

          clear hb5

          go_wp2_with fail
          refine Calls.mono (HE0.out w5 HB5.out) ?_
          rintro ev w6 ⟨rfl, hb6⟩
          have HB6 : Hid (Below wr.heap.size wr w6) := HB5.out.trans (hb6.mono HB5.out.size)
          obtain ⟨x0, x1, _, _⟩ := (HX.out w6 HB6.out).facts

          clear hb6

          go_wp2_with fail
          refine Calls.mono (HLs.out w6 HB6.out) ?_
          rintro ev w7 ⟨v7, rfl, hv7, hb7⟩
          have HB7 : Hid (Below wr.heap.size wr w7) := HB6.out.trans (hb7.mono HB6.out.size)
          have HV7 : Hid (∀ w', Below w7.heap.size w7 w' → StrsIs w' v7 []) := fun w' hb => hv7.later (Nat.le_refl _) hb
          obtain ⟨x0, x1, _, _⟩ := (HX.out w7 HB7.out).facts
          clear hb7 hv7

          go_wp2_with fail
          refine Calls.mono (HE0.out w7 HB7.out) ?_
          rintro ev w8 ⟨rfl, hb8⟩
          have HB8 : Hid (Below wr.heap.size wr w8) := HB7.out.trans (hb8.mono HB7.out.size)
          have HT8 : Hid _ := fun (_ : Nat) => texts_any w8 v7 (.slice none 0 0) [] [] (HV7.out w8 hb8) (nil_strs w8)
          rw [eqS_self] at HT8
          clear hb8
          go_wp2_with fail
          refine Calls.mono (HT8.out 0) ?_
          rintro ev w9 ⟨rfl, hb9⟩
          have HB9 : Hid (Below wr.heap.size wr w9) := HB8.out.trans (hb9.mono HB8.out.size)
          go_wp2_with fail
          go_ret
          exact ⟨rfl, HFin.out _ HB9.out⟩

end Go.Proofs.YtdlmkienogimgaaGreatDoor
