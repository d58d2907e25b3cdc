/- SVc1, joined. -/
import Derived.Test.YtoibmjmajbkbcaaSG22
import Derived.Deep.CutBlock
import Derived.Deep.CutRange
import Derived.Deep.DeepCutAuto
/- SkipLives: case1 of the switch (written by mksv9.py). -/
namespace Go.Proofs.Ytoibmjmajbkbcaa
open Go.RowKit

set_option maxRecDepth 100000 in
set_option maxHeartbeats 40000000 in
theorem case1_walk (w : World) (L0 Y n B : Nat) (E : List En) (fr : Bool) (oh om : Int) (ak : Option Addr) (ck : Nat) (X : Ks) (A : Ag) (wo : World) (h60 : n < 60) (hXl : ¬ (1000 : Int) < (X.length : Int)) (hxm : X.length ≤ 9223372036854775807) (hBo : w.heap.size ≤ B) (HIo : Hid (LvI w w.heap.size L0 Y n E fr wo)) (HBX : Hid (wo.heap[B]? = some (.cells #[.int .i64 1, .int .i64 oh, .int .i64 om, .slice ak X.length ck, .int .u64 A.c, .bool A.o, .int .i64 (hi A.s), .int .u64 (lo A.s), .int .i64 A.mn, .int .i64 A.mx] 38))) (HRX : Hid (Reads w (.slice ak X.length ck) X)) (HOK : Hid (SpOk ⟨1, oh, om, (X, A)⟩))
    (x0 x1 x2 x5 x7 x8 x9 x10 x11 x12 x13 x14 x15 x16 x17 x18 x19 x20 x21 x22 x23 x24 x25 x26 x27 x28 x29 x30 x31 x32 x33 x34 x35 x36 x37 x38 x39 x40 x42 x43 x44 x45 x46 x47 x48 x49 x50 x51 x52 x53 x54 x55 x56 x57 x58 x59 x60 x61 x62 x63 x64 x65 x66 x67 x68 x69 x70 x71 x72 x73 x74 x75 x76 x77 x78 x79 x80 x81 x82 x83 x84 x85 x86 x87 x88 x89 x90 x91 x92 x93 x94 x95 x96 x97 x98 x99 x100 x101 x102 x103 x104 x105 x106 x107 x108 x109 x110 x111 x112 x113 x114 x115 x116 x117 x118 x119 x120 x121 x122 x123 x124 x125 x126 x127 x128 x129 x130 x131 x132 x133 x134 x135 x136 x137 x138 x139 x140 x141 x142 x143 x144 x145 x146 x147 x148 x149 x150 x151 x152 x153 x154 x155 x156 x157 x158 x159 x160 x161 x162 x163 x164 x165 x166 x167 x168 x169 x170 x171 x172 x173 x174 x175 x176 x177 x178 x179 x180 x181 x182 x183 x184 x185 x186 x187 x188 x189 x190 x191 x192 x193 x194 x195 x196 x197 x198 x199 x200 x201 x202 x203 x204 x205 x206 x207 x208 x209 x210 x211 x212 x213 x214 x215 x216 x217 x218 x219 x220 : Value) (K : Act → World → Prop) (Q : Exit → Act → World → Prop)
    (HK : Hid (∀ (y2 y7 y8 y9 y10 y20 y21 y22 y23 y24 y25 y26 y27 y28 y29 y30 y31 y32 y33 y34 y35 y36 y37 y38 y39 y40 y42 y43 y44 y45 y46 y47 y48 y49 y50 y51 y52 y53 y54 y55 y56 y57 y58 y59 y60 y61 y62 y63 y64 y65 y66 y67 y68 y69 y70 y71 y72 y73 y74 y75 y76 y77 y78 y79 y80 y81 y82 y83 y84 y85 y86 y87 y88 y89 y90 y91 y92 y93 y94 y95 y96 y97 y98 y99 y100 y101 y102 y103 y104 y105 y106 y107 y108 y109 y110 y111 y112 y113 y114 y115 y116 y117 y118 y119 y120 y121 y122 y123 y124 y125 y126 y127 y128 y129 y130 y131 y132 y133 y134 y135 y136 y137 y138 y139 y140 y141 y142 y143 y144 y145 y146 y147 y148 y149 y150 y151 y152 y153 y154 y155 y156 y157 y158 y159 y160 y161 y162 y163 y164 y165 y166 y167 y168 y169 y170 y171 y172 y173 y174 y175 y176 y177 y178 y179 y180 y181 y182 y183 y184 y185 y186 y187 y188 y189 y190 y191 y192 y193 y194 y195 y196 y197 y198 y199 y200 y201 y202 y203 y204 y205 y206 y207 y208 y209 y210 y211 y212 y213 y214 y215 y216 y217 y218 y219 : Value) (E : List En) (fr : Bool) (w' : World), Hid (LvI w w.heap.size L0 Y (n + 1) E fr w') → Hid (w'.heap[B]? = some (.cells #[.int .i64 1, .int .i64 oh, .int .i64 om, .slice ak X.length ck, .int .u64 A.c, .bool A.o, .int .i64 (hi A.s), .int .u64 (lo A.s), .int .i64 A.mn, .int .i64 A.mx] 38)) → K { tmps := #[x0, x1, y2, .pointer (some ⟨L0, 0, none⟩), .pointer (some ⟨Y, 0, none⟩), x5, .pointer (some ⟨B, 0, none⟩), y7, y8, y9, y10, x11, x12, x13, x14, x15, x16, x17, x18, x19, y20, y21, y22, y23, y24, y25, y26, y27, y28, y29, y30, y31, y32, y33, y34, y35, y36, y37, y38, y39, y40, .int .i64 1, y42, y43, y44, y45, y46, y47, y48, y49, y50, y51, y52, y53, y54, y55, y56, y57, y58, y59, y60, y61, y62, y63, y64, y65, y66, y67, y68, y69, y70, y71, y72, y73, y74, y75, y76, y77, y78, y79, y80, y81, y82, y83, y84, y85, y86, y87, y88, y89, y90, y91, y92, y93, y94, y95, y96, y97, y98, y99, y100, y101, y102, y103, y104, y105, y106, y107, y108, y109, y110, y111, y112, y113, y114, y115, y116, y117, y118, y119, y120, y121, y122, y123, y124, y125, y126, y127, y128, y129, y130, y131, y132, y133, y134, y135, y136, y137, y138, y139, y140, y141, y142, y143, y144, y145, y146, y147, y148, y149, y150, y151, y152, y153, y154, y155, y156, y157, y158, y159, y160, y161, y162, y163, y164, y165, y166, y167, y168, y169, y170, y171, y172, y173, y174, y175, y176, y177, y178, y179, y180, y181, y182, y183, y184, y185, y186, y187, y188, y189, y190, y191, y192, y193, y194, y195, y196, y197, y198, y199, y200, y201, y202, y203, y204, y205, y206, y207, y208, y209, y210, y211, y212, y213, y214, y215, y216, y217, y218, y219, x220], defers := [] } w')) :
    Code.wp Try.prog switchC (Exit.then K Q) { tmps := #[x0, x1, x2, .pointer (some ⟨L0, 0, none⟩), .pointer (some ⟨Y, 0, none⟩), x5, .pointer (some ⟨B, 0, none⟩), x7, x8, x9, x10, x11, x12, x13, x14, x15, x16, x17, x18, x19, x20, x21, x22, x23, x24, x25, x26, x27, x28, x29, x30, x31, x32, x33, x34, x35, x36, x37, x38, x39, x40, .int .i64 1, x42, x43, x44, x45, x46, x47, x48, x49, x50, x51, x52, x53, x54, x55, x56, x57, x58, x59, x60, x61, x62, x63, x64, x65, x66, x67, x68, x69, x70, x71, x72, x73, x74, x75, x76, x77, x78, x79, x80, x81, x82, x83, x84, x85, x86, x87, x88, x89, x90, x91, x92, x93, x94, x95, x96, x97, x98, x99, x100, x101, x102, x103, x104, x105, x106, x107, x108, x109, x110, x111, x112, x113, x114, x115, x116, x117, x118, x119, x120, x121, x122, x123, x124, x125, x126, x127, x128, x129, x130, x131, x132, x133, x134, x135, x136, x137, x138, x139, x140, x141, x142, x143, x144, x145, x146, x147, x148, x149, x150, x151, x152, x153, x154, x155, x156, x157, x158, x159, x160, x161, x162, x163, x164, x165, x166, x167, x168, x169, x170, x171, x172, x173, x174, x175, x176, x177, x178, x179, x180, x181, x182, x183, x184, x185, x186, x187, x188, x189, x190, x191, x192, x193, x194, x195, x196, x197, x198, x199, x200, x201, x202, x203, x204, x205, x206, x207, x208, x209, x210, x211, x212, x213, x214, x215, x216, x217, x218, x219, x220], defers := [] } wo := by
  have hu1 := h60
  have hu2 := hXl
  have hu3 := hxm
  have hu4 := hBo
  have hu5 := HRX
  have hu6 := HOK
  have hu7 := HIo
  have hu8 := HBX
  clear hu1 hu2 hu3 hu4 hu5 hu6 hu7 hu8
  unfold switchC
  simp only [Try.f3, Option.getD_some, cS, cF, cB, cL]
  let Qd : Exit → Act → World → Prop := bodyPost Try.prog Try.f3 (fun _ _ => True)
  go_cut [7, 8, 9, 10] (fun _ _ _ _ wc => ∃ (E : List En) (fr : Bool), Hid (LvI w w.heap.size L0 Y (n + 1) E fr wc) ∧ Hid (wc.heap[B]? = some (.cells #[.int .i64 1, .int .i64 oh, .int .i64 om, .slice ak X.length ck, .int .u64 A.c, .bool A.o, .int .i64 (hi A.s), .int .u64 (lo A.s), .int .i64 A.mn, .int .i64 A.mx] 38)))
  case first =>
    have hBl : B < wo.heap.size := (Array.getElem?_eq_some_iff.1 HBX.out).1
    obtain ⟨yv, yxs, hY, hyO, hyE, hyb, _⟩ := HIo.out.r
    have HYY : Hid (wo.heap[Y]? = some (.cells #[yv, .bool fr] 28)) := hY
    have HYO : Hid (EOwn wo w.heap.size yv yxs) := hyO
    have HYE : Hid (yxs.map evE = E) := hyE
    have hYl : Y < wo.heap.size := (Array.getElem?_eq_some_iff.1 hY).1
    clear hY hyO hyE
    have HGOOD : Hid _ := HIo.out.s.good
    have HRo : Hid (Reads wo (.slice ak X.length ck) X) := HRX.out.below HIo.out.b
    obtain ⟨x0, x1, x2, x3, -⟩ := opbox HBX.out
    go_wp2_with fail
    refine (seek_any L0 E fr _ X om _ w.heap.size HIo.out.s HRo.out).mono ?_
    rintro e w5 ⟨v5, xs, rfl, ho5, hxs, hb5⟩
    have HXS : Hid (xs.map evE = skF E X om) := hxs
    have HB5 : Hid (Below wo.heap.size wo w5) := hb5
    obtain ⟨a5, c5, hv5, -⟩ := ho5.row.rc.form
    subst hv5
    have HO5 : Hid (EOwn w5 wo.heap.size (.slice a5 xs.length c5) xs) := ho5
    clear ho5 hb5 hxs x0 x1 x2 x3
    obtain ⟨x0, x1, x2, x3, -⟩ := opbox ((HB5.out.block _ hBl).trans HBX.out)
    go_wp2_with fail
    refine (refSeek8 Y E fr _ X om _ yv yxs w.heap.size ((HB5.out.block _ hYl).trans HYY.out) (HYO.out.below HB5.out) HYE.out HGOOD.out.1 (by have := HGOOD.out.2.2; omega) (HRo.out.below HB5.out)).mono ?_
    rintro e w6 ⟨v6, ys, rfl, ho6, hev6, hys, hb6⟩
    obtain ⟨a6, c6, hv6, -⟩ := ho6.rc.form
    subst hv6
    have HD6 : Hid (ERd w6 (.slice a6 ys.length c6) (skF E X om)) := by have h9 := ho6.rc.rd hev6; rw [hys] at h9; exact h9
    have HO6 : Hid (EOwn w6 wo.heap.size (.slice a5 xs.length c5) xs) := HO5.out.below hb6
    have HB6 : Hid (Below wo.heap.size wo w6) := HB5.out.trans (hb6.mono HB5.out.size)
    have HC6 : Hid (ERd w6 (.slice a5 xs.length c5) (skF E X om)) := by have h9 := HO6.out.rd; rw [HXS.out] at h9; exact h9
    clear ho6 hev6 hys hb6 x0 x1 x2 x3 HO5
    go_wp2_with fail
    refine (same_true _ _ _ _ HC6.out HD6.out).mono ?_
    rintro e w7 ⟨rfl, hb7⟩
    have HO7 : Hid (OwnE w7 wo.heap.size (.slice a5 xs.length c5) xs) := (HO6.out.below hb7).row
    have HK7 : Hid (Kys w7 wo.heap.size xs) := fun x hx => ⟨x.k, rfl, (HO6.out.below hb7).2 x hx⟩
    have HB7 : Hid (Below wo.heap.size wo w7) := HB6.out.trans (hb7.mono HB6.out.size)
    have HKL : Hid (∀ x ∈ xs, 1 ≤ x.k.length) := fun x hx => by
      have h1 : evE x ∈ skF E X om := by rw [← HXS.out]; exact List.mem_map_of_mem hx
      have h2 : evE x ∈ E := List.mem_of_mem_drop (List.mem_of_mem_take h1)
      exact (HGOOD.out.2.1 _ h2).1
    have hxl : xs.length ≤ 5000 := by
      have h1 : xs.length = (skF E X om).length := by rw [← HXS.out, List.length_map]
      have h2 := HGOOD.out.2.2
      have h3 : (skF E X om).length ≤ E.length := by unfold skF; rw [List.length_take, List.length_drop]; omega
      omega
    clear hb7 HO6 HD6 HC6
    go_wp2_with fail
    go_loopw [10] (fun k wz => ∃ j : Nat, j ≤ xs.length ∧ k = .int .i64 (j : Int) ∧ Hid (OwnE wz wo.heap.size (.slice a5 xs.length c5) xs) ∧ Hid (Kys wz wo.heap.size xs) ∧ Hid (Below wo.heap.size wo wz)) (fun k _ => xs.length - (intOf k).toNat)
    case atStart => exact ⟨0, by omega, rfl, HO7.out, HK7.out, HB7.out⟩
    case round =>
      clear HO7 HK7 HB7
      obtain ⟨j, hj, rfl, HO, HK, HBz⟩ := hrel
      by_cases hlt2 : j < xs.length
      · obtain ⟨g, off, cap, HOFF, hv, hgb, hgl, -, hcs, -⟩ := HO.out.at (by omega)
        have ho := HOFF.out
        subst ho
        simp only [Value.slice.injEq, true_and] at hv
        obtain ⟨rfl, rfl⟩ := hv
        have q0 := hcs j hlt2 0 (by decide)
        simp only [c7, List.getElem_cons_zero] at q0
        rw [show 0 + (7 * j + 0) = j * 7 by omega] at q0
        obtain ⟨l', hl', hown⟩ := HK.out _ (List.getElem_mem hlt2)
        have hkl := HKL.out _ (List.getElem_mem hlt2)
        obtain ⟨x, Hx⟩ := hid_ex xs[j]
        rw [← Hx.out] at q0 hl' hown hkl
        obtain ⟨xkv, xk, xa⟩ := x
        simp only at q0 hl' hown hkl
        clear hcs Hx
        have h0 : 0 < l'.length := by omega
        obtain ⟨kg, kc, rfl, hk1, hk2, _, _⟩ := hown.some h0
        obtain ⟨x, y, i1, f1, y1⟩ := turn_at hown h0
        obtain ⟨cs, hcs⟩ := own_cells hown
        have HOS : Hid (OwnE (wr.setCell ⟨kg, 0, none⟩ (.int .u8 (y.toNat : Int))) wo.heap.size (.slice (some ⟨g, 0, none⟩) xs.length c5) xs) := oe_set _ HO.out hcs
        have HKS : Hid (Kys (wr.setCell ⟨kg, 0, none⟩ (.int .u8 (y.toNat : Int))) wo.heap.size xs) := HK.out.turn y
        have HBS : Hid (Below wo.heap.size wo (wr.setCell ⟨kg, 0, none⟩ (.int .u8 (y.toNat : Int)))) := HBz.out.setCell hk1 _
        have hn0 : (l'.length : Int) > 0 := by omega
        obtain ⟨n', Hn'⟩ := hid_ex l'.length
        rw [← Hn'.out] at q0 hn0 h0
        clear hown hl' hcs hk1 hk2 hkl
        go_wp2_with fail
        go_region
        go_wp2_with fail
        go_roundw
        case rel => exact ⟨j + 1, by omega, by go_num, HOS.out, HKS.out, ⟨HBS.out.os, HBS.out.tape, HBS.out.output, HBS.out.size, HBS.out.block⟩⟩
        case measure => simp [intOf]; omega
      · have hj2 : decide ((j : Int) < (xs.length : Int)) = false := by simp; omega
        go_wp2_with fail
        go_meet
        have h9 := HIo.out.below HBz.out HIo.out.b.size
        exact ⟨E, fr, ⟨h9.s, h9.r, Nat.le_succ_of_le h9.l, h9.b⟩, (HBz.out.block _ hBl).trans HBX.out⟩
  case rest =>
    obtain ⟨E', fr', h1, h2⟩ := hcut
    exact HK.out _ _ _ _ _ _ _ _ _ _ _ _ _ _ _ _ _ _ _ _ _ _ _ _ _ _ _ _ _ _ _ _ _ _ _ _ _ _ _ _ _ _ _ _ _ _ _ _ _ _ _ _ _ _ _ _ _ _ _ _ _ _ _ _ _ _ _ _ _ _ _ _ _ _ _ _ _ _ _ _ _ _ _ _ _ _ _ _ _ _ _ _ _ _ _ _ _ _ _ _ _ _ _ _ _ _ _ _ _ _ _ _ _ _ _ _ _ _ _ _ _ _ _ _ _ _ _ _ _ _ _ _ _ _ _ _ _ _ _ _ _ _ _ _ _ _ _ _ _ _ _ _ _ _ _ _ _ _ _ _ _ _ _ _ _ _ _ _ _ _ _ _ _ _ _ _ _ _ _ _ _ _ _ _ _ _ _ _ _ _ _ _ _ _ _ _ _ _ _ _ _ _ _ _ E' fr' _ h1 h2
end Go.Proofs.Ytoibmjmajbkbcaa
