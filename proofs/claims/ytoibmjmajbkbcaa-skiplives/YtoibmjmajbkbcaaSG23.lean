/- SV9, joined. -/
import Derived.Test.YtoibmjmajbkbcaaSG22
/- SkipLives: the last test of a round (written by mksv9.py). -/
namespace Go.Proofs.Ytoibmjmajbkbcaa
open Go.RowKit

set_option maxRecDepth 100000 in
set_option maxHeartbeats 40000000 in
theorem tail_walk (w : World) (L0 Y n B : Nat) (F : List En) (f2 : Bool) (ok oh om : Int) (ak : Option Addr) (ck : Nat) (X : Ks) (A : Ag) (wc : World) (hn60 : n < 60) (HI : Hid (LvI w w.heap.size L0 Y (n + 1) F f2 wc)) (HBX2 : Hid (wc.heap[B]? = some (.cells #[.int .i64 ok, .int .i64 oh, .int .i64 om, .slice ak X.length ck, .int .u64 A.c, .bool A.o, .int .i64 (hi A.s), .int .u64 (lo A.s), .int .i64 A.mn, .int .i64 A.mx] 38))) (HRX : Hid (Reads w (.slice ak X.length ck) X)) (hxm : X.length ≤ 1000)
    (x0 x1 x2 x5 x7 x8 x9 x10 x11 x12 x13 x14 x15 x16 x17 x18 x19 x20 x21 x22 x23 x24 x25 x26 x27 x28 x29 x30 x31 x32 x33 x34 x35 x36 x37 x38 x39 x40 x41 x42 x43 x44 x45 x46 x47 x48 x49 x50 x51 x52 x53 x54 x55 x56 x57 x58 x59 x60 x61 x62 x63 x64 x65 x66 x67 x68 x69 x70 x71 x72 x73 x74 x75 x76 x77 x78 x79 x80 x81 x82 x83 x84 x85 x86 x87 x88 x89 x90 x91 x92 x93 x94 x95 x96 x97 x98 x99 x100 x101 x102 x103 x104 x105 x106 x107 x108 x109 x110 x111 x112 x113 x114 x115 x116 x117 x118 x119 x120 x121 x122 x123 x124 x125 x126 x127 x128 x129 x130 x131 x132 x133 x134 x135 x136 x137 x138 x139 x140 x141 x142 x143 x144 x145 x146 x147 x148 x149 x150 x151 x152 x153 x154 x155 x156 x157 x158 x159 x160 x161 x162 x163 x164 x165 x166 x167 x168 x169 x170 x171 x172 x173 x174 x175 x176 x177 x178 x179 x180 x181 x182 x183 x184 x185 x186 x187 x188 x189 x190 x191 x192 x193 x194 x195 x196 x197 x198 x199 x200 x201 x202 x203 x204 x205 x206 x207 x208 x209 x210 x211 x212 x213 x214 x215 x216 x217 x218 x219 x220 : Value) (Q : Exit → Act → World → Prop)
    (HQ : Hid (∀ (y11 y12 y13 y14 y20 y21 y22 y23 y24 y25 y26 y27 y28 y29 y30 y31 y32 y33 y34 y35 y36 y37 y38 y39 y40 y41 y42 y43 y44 y45 y46 y47 y48 y49 y50 y51 y52 y53 y54 y55 y56 y57 y58 y59 y60 y61 y62 y63 y64 y65 y66 y67 y68 y69 y70 y71 y72 y73 y74 y75 y76 y77 y78 y79 y80 y81 y82 y83 y84 y85 y86 y87 y88 y89 y90 y91 y92 y93 y94 y95 y96 y97 y98 y99 y100 y101 y102 y103 y104 y105 y106 y107 y108 y109 y110 y111 y112 y113 y114 y115 y116 y117 y118 y119 y120 y121 y122 y123 y124 y125 y126 y127 y128 y129 y130 y131 y132 y133 y134 y135 y136 y137 y138 y139 y140 y141 y142 y143 y144 y145 y146 y147 y148 y149 y150 y151 y152 y153 y154 y155 y156 y157 y158 y159 y160 y161 y162 y163 y164 y165 y166 y167 y168 y169 y170 y171 y172 y173 y174 y175 y176 y177 y178 y179 y180 y181 y182 y183 y184 y185 y186 y187 y188 y189 y190 y191 y192 y193 y194 y195 y196 y197 y198 y199 y200 y201 y202 y203 y204 y205 y206 y207 y208 y209 y210 y211 y212 y213 y214 y215 y216 y217 y218 y219 : Value) (F : List En) (f2 : Bool) (w' : World), Hid (LvI w w.heap.size L0 Y (n + 1) F f2 w') → Q .normal { tmps := #[x0, x1, x2, .pointer (some ⟨L0, 0, none⟩), .pointer (some ⟨Y, 0, none⟩), x5, .pointer (some ⟨B, 0, none⟩), x7, x8, x9, x10, y11, y12, y13, y14, x15, x16, x17, x18, x19, y20, y21, y22, y23, y24, y25, y26, y27, y28, y29, y30, y31, y32, y33, y34, y35, y36, y37, y38, y39, y40, y41, y42, y43, y44, y45, y46, y47, y48, y49, y50, y51, y52, y53, y54, y55, y56, y57, y58, y59, y60, y61, y62, y63, y64, y65, y66, y67, y68, y69, y70, y71, y72, y73, y74, y75, y76, y77, y78, y79, y80, y81, y82, y83, y84, y85, y86, y87, y88, y89, y90, y91, y92, y93, y94, y95, y96, y97, y98, y99, y100, y101, y102, y103, y104, y105, y106, y107, y108, y109, y110, y111, y112, y113, y114, y115, y116, y117, y118, y119, y120, y121, y122, y123, y124, y125, y126, y127, y128, y129, y130, y131, y132, y133, y134, y135, y136, y137, y138, y139, y140, y141, y142, y143, y144, y145, y146, y147, y148, y149, y150, y151, y152, y153, y154, y155, y156, y157, y158, y159, y160, y161, y162, y163, y164, y165, y166, y167, y168, y169, y170, y171, y172, y173, y174, y175, y176, y177, y178, y179, y180, y181, y182, y183, y184, y185, y186, y187, y188, y189, y190, y191, y192, y193, y194, y195, y196, y197, y198, y199, y200, y201, y202, y203, y204, y205, y206, y207, y208, y209, y210, y211, y212, y213, y214, y215, y216, y217, y218, y219, x220], defers := [] } w')) :
    Code.wp Try.prog tailC Q { tmps := #[x0, x1, x2, .pointer (some ⟨L0, 0, none⟩), .pointer (some ⟨Y, 0, none⟩), x5, .pointer (some ⟨B, 0, none⟩), x7, x8, x9, x10, x11, x12, x13, x14, x15, x16, x17, x18, x19, x20, x21, x22, x23, x24, x25, x26, x27, x28, x29, x30, x31, x32, x33, x34, x35, x36, x37, x38, x39, x40, x41, x42, x43, x44, x45, x46, x47, x48, x49, x50, x51, x52, x53, x54, x55, x56, x57, x58, x59, x60, x61, x62, x63, x64, x65, x66, x67, x68, x69, x70, x71, x72, x73, x74, x75, x76, x77, x78, x79, x80, x81, x82, x83, x84, x85, x86, x87, x88, x89, x90, x91, x92, x93, x94, x95, x96, x97, x98, x99, x100, x101, x102, x103, x104, x105, x106, x107, x108, x109, x110, x111, x112, x113, x114, x115, x116, x117, x118, x119, x120, x121, x122, x123, x124, x125, x126, x127, x128, x129, x130, x131, x132, x133, x134, x135, x136, x137, x138, x139, x140, x141, x142, x143, x144, x145, x146, x147, x148, x149, x150, x151, x152, x153, x154, x155, x156, x157, x158, x159, x160, x161, x162, x163, x164, x165, x166, x167, x168, x169, x170, x171, x172, x173, x174, x175, x176, x177, x178, x179, x180, x181, x182, x183, x184, x185, x186, x187, x188, x189, x190, x191, x192, x193, x194, x195, x196, x197, x198, x199, x200, x201, x202, x203, x204, x205, x206, x207, x208, x209, x210, x211, x212, x213, x214, x215, x216, x217, x218, x219, x220], defers := [] } wc := by
  unfold tailC
  simp only [Try.f3, Option.getD_some, cS, cF, cB, cL]
  have HGOOD : Hid _ := HI.out.s.good
  have hFl : F.length ≤ 61 := by have := HI.out.l; omega
  have hBl : B < wc.heap.size := (Array.getElem?_eq_some_iff.1 HBX2.out).1
  obtain ⟨yv, yxs, hY, hyO, hyE, hyb, _⟩ := HI.out.r
  have HYE : Hid (yxs.map evE = F) := hyE
  have hyl : yxs.length = F.length := by rw [← hyE, List.length_map]
  obtain ⟨ya, yc, hyv, -, -⟩ := hyO.row.rc.form
  subst hyv
  rw [hyl] at hY hyO
  have HYY : Hid (wc.heap[Y]? = some (.cells #[.slice ya F.length yc, .bool f2] 28)) := hY
  have HYO : Hid (EOwn wc w.heap.size (.slice ya F.length yc) yxs) := hyO
  have hYl : Y < wc.heap.size := (Array.getElem?_eq_some_iff.1 hY).1
  clear hY hyO hyE
  have HRc : Hid (Reads wc (.slice ak X.length ck) X) := HRX.out.below HI.out.b
  obtain ⟨G, HG⟩ := hid_ex ((lkE F X).getD agZ)
  obtain ⟨T, HT⟩ := hid_ex (lkE F X).isSome
  have HGET : Hid (Calls Try.prog 13 #[.pointer (some ⟨L0, 0, none⟩), .slice ak X.length ck] wc fun e w' => e = .returned (.tuple #[.agg #[.int .u64 G.c, .bool G.o, .int .i64 (hi G.s), .int .u64 (lo G.s), .int .i64 G.mn, .int .i64 G.mx], .bool T]) ∧ Below wc.heap.size wc w') := by
    rw [HG.out, HT.out]
    exact get_E HI.out.s HGOOD.out.1 _ X HRc.out
  obtain ⟨-, -, -, x3, -⟩ := opbox HBX2.out
  go_wp2_with fail
  refine Calls.mono HGET.out ?_
  rintro e w5 ⟨rfl, hb5⟩
  obtain ⟨D, HD⟩ := hid_ex w5.heap.size
  obtain ⟨w6, HW6⟩ := hid_ex (w5.alloc (.cells #[.int .u64 G.c, .bool G.o, .int .i64 (hi G.s), .int .u64 (lo G.s), .int .i64 G.mn, .int .i64 G.mx] 34))
  have HDX : Hid (w6.heap[D]? = some (.cells #[.int .u64 G.c, .bool G.o, .int .i64 (hi G.s), .int .u64 (lo G.s), .int .i64 G.mn, .int .i64 G.mx] 34)) := by rw [HW6.out, HD.out]; exact World.alloc_heap_new _ _
  have HB6 : Hid (Below wc.heap.size wc w6) := by rw [HW6.out]; exact hb5.alloc hb5.size _
  clear hb5 x3 HGET
  obtain ⟨-, -, -, x3, -⟩ := opbox ((HB6.out.block _ hBl).trans HBX2.out)
  rw [HW6.out] at x3
  go_wp2_with fail
  rw [← HW6.out, ← HD.out]
  rw [← HW6.out] at x3
  clear HW6 HD
  refine (refSeek8 Y F f2 _ X 1 _ (.slice ya F.length yc) yxs w.heap.size ((HB6.out.block _ hYl).trans HYY.out) (HYO.out.below HB6.out) HYE.out HGOOD.out.1 (by omega) (HRc.out.below HB6.out)).mono ?_
  rintro e w7 ⟨v7, ys, rfl, ho7, hev7, hys, hb7⟩
  have HDX7 : Hid (w7.heap[D]? = some (.cells #[.int .u64 G.c, .bool G.o, .int .i64 (hi G.s), .int .u64 (lo G.s), .int .i64 G.mn, .int .i64 G.mx] 34)) := (hb7.block _ (Array.getElem?_eq_some_iff.1 HDX.out).1).trans HDX.out
  have HB7 : Hid (Below wc.heap.size wc w7) := HB6.out.trans (hb7.mono HB6.out.size)
  have HR7 : Hid (Reads w7 (.slice ak X.length ck) X) := HRc.out.below HB7.out
  have hq2 : ∀ n, (convert 29 9 (.slice ak X.length ck)).run Try.prog (w7.drewN n) = .ok (.string ⟨X.toArray⟩) (w7.drewN n) := fun n => reads_text (HR7.out.below (below_drewS (Below.refl _ _) n))
  obtain ⟨a7, p7, hv7, -, -⟩ := ho7.rc.form
  subst hv7
  clear hb7 HDX HB6 x3
  obtain ⟨-, -, -, x3, -⟩ := opbox ((HB7.out.block _ hBl).trans HBX2.out)
  go_wp2_with fail
  go_cut [14] from 20 to 219 (fun o wx => o = .bool T ∧ Hid (Below w7.heap.size w7 wx))
  case first =>
    rcases seek1 HGOOD.out.1 X with ⟨x, hx1, hx2⟩ | ⟨hx1, hx2⟩
    · obtain ⟨y, rfl⟩ : ∃ y, ys = [y] := by
        rw [hx1] at hys
        match ys, hys with
        | [y], _ => exact ⟨y, rfl⟩
        | [], h => simp at h
        | _ :: _ :: _, h => simp at h
      have hyx : evE y = x := by rw [hx1] at hys; simpa using hys
      obtain ⟨g7, o7, hv7', hg7, hc7⟩ := ho7.rc.ptr (by simp)
      simp only [List.length_singleton] at hv7' hc7
      subst hv7'
      have hc := hc7 0 (by simp)
      have HRy : Hid (Reads w7 y.kv y.k) := hev7 y (List.mem_singleton.2 rfl)
      obtain ⟨yk, yK, yA⟩ := y
      obtain ⟨ay, cy, ey, -⟩ := HRy.out.form
      simp only at ey
      subst ey
      have hq1 : ∀ n, (convert 29 9 (.slice ay yK.length cy)).run Try.prog (w7.drewN n) = .ok (.string ⟨yK.toArray⟩) (w7.drewN n) := fun n => reads_text (HRy.out.below (below_drewS (Below.refl _ _) n))
      have i0 := hc 0 (by decide)
      simp only [c7, List.getElem_cons_zero] at i0
      rw [show o7 + (7 * 0 + 0) = o7 by omega] at i0
      clear hc hc7 ho7 hev7 hys
      simp only [List.length_singleton]
      rcases hx2 with ⟨hx2, hx3⟩ | ⟨hx2, hx3⟩
      · have e1 : yK = X := by rw [← hyx] at hx2; exact hx2
        have e2 : T = true := by rw [HT.out, hx3]; rfl
        subst e1 e2
        have heq : (yK == yK) = true := by simp
        clear hx2 hx3 hyx hx1 HG HT
        go_quiet (fail)
        go_wp2_with fail
        go_meet
        exact ⟨rfl, below_drewS (Below.refl _ _) nq⟩
      · have e1 : ¬ yK = X := by rw [← hyx] at hx2; exact hx2
        have e2 : T = false := by rw [HT.out, hx3]; rfl
        subst e2
        have hne : (yK == X) = false := beq_eq_false_iff_ne.2 e1
        clear hx2 hx3 hyx hx1 HG HT e1
        go_quiet (fail)
        go_wp2_with fail
        go_meet
        exact ⟨rfl, below_drewS (Below.refl _ _) nq⟩
    · have hy0 : ys = [] := by rw [hx1] at hys; simpa using hys
      subst hy0
      have e2 : T = false := by rw [HT.out, hx2]; rfl
      subst e2
      clear hx2 hx1 HG HT ho7 hev7 hys
      simp only [List.length_nil]
      go_quiet (fail)
      go_wp2_with fail
      go_meet
      exact ⟨rfl, below_drewS (Below.refl _ _) nq⟩
  case rest =>
    obtain ⟨rfl, HBx⟩ := hcut
    clear hq2 x3
    cases hT : T with
    | true =>
      have hT2 : (lkE F X).isSome = true := by rw [← HT.out]; exact hT
      obtain ⟨x, hx1, hx2, hx3⟩ : ∃ x, skF F X 1 = [x] ∧ x.1 = X ∧ lkE F X = some x.2 := by
        rcases seek1 HGOOD.out.1 X with ⟨x, h1, (⟨h2, h3⟩ | ⟨h2, h3⟩)⟩ | ⟨h1, h2⟩
        · exact ⟨x, h1, h2, h3⟩
        · rw [h3] at hT2; cases hT2
        · rw [h2] at hT2; cases hT2
      obtain ⟨y, rfl⟩ : ∃ y, ys = [y] := by
        rw [hx1] at hys
        match ys, hys with
        | [y], _ => exact ⟨y, rfl⟩
        | [], h => simp at h
        | _ :: _ :: _, h => simp at h
      have hyx : evE y = x := by rw [hx1] at hys; simpa using hys
      obtain ⟨g7, o7, hv7', hg7, hc7⟩ := ho7.rc.ptr (by simp)
      simp only [List.length_singleton] at hv7' hc7
      subst hv7'
      have hc := hc7 0 (by simp)
      have HRy : Hid (Reads w7 y.kv y.k) := hev7 y (List.mem_singleton.2 rfl)
      obtain ⟨yk, yK, yA⟩ := y
      obtain ⟨ay, cy, ey, -⟩ := HRy.out.form
      simp only at ey
      subst ey
      have e3 : yA = G := by rw [HG.out, hx3, ← hyx]; rfl
      subst e3
      have HCC : Hid (∀ i (hi : i < 7), w7.cell? ⟨g7, o7 + (7 * 0 + i), none⟩ = some ((c7 ⟨.slice ay yK.length cy, yK, yA⟩)[i]'hi)) := fun i hi => hc i hi
      clear hc hc7 ho7 hev7 hys hx1 hx2 hx3 hyx hT2 HG HT hT
      simp only [List.length_singleton]
      have HB8 : Hid (Below _ _ wc) := HB7.out.trans (HBx.out.mono HB7.out.size)
      have HI8 : Hid (LvI w w.heap.size L0 Y (n + 1) F f2 wc) := HI.out.below HB8.out HI.out.b.size
      have HS8 : Hid (SK wc w.heap.size L0 F f2) := HI8.out.s
      have HYY8 : Hid (wc.heap[Y]? = some (.cells #[.slice ya F.length yc, .bool f2] 28)) := (HB8.out.block _ hYl).trans HYY.out
      have hY8l := (Array.getElem?_eq_some_iff.1 HYY8.out).1
      have HYC : Hid (wc.cell? ⟨Y, 0, none⟩ = some (.slice ya F.length yc) ∧ wc.cell? ⟨Y, 1, none⟩ = some (.bool f2)) := ⟨(cell_row HYY8.out 0 (by simp)).1, (cell_row HYY8.out 1 (by simp)).1⟩
      have HYO8 : Hid (EOwn wc w.heap.size (.slice ya F.length yc) yxs) := HYO.out.below HB8.out
      have HDX8 : Hid (wc.heap[D]? = some (.cells #[.int .u64 yA.c, .bool yA.o, .int .i64 (hi yA.s), .int .u64 (lo yA.s), .int .i64 yA.mn, .int .i64 yA.mx] 34)) := (HBx.out.block _ (Array.getElem?_eq_some_iff.1 HDX7.out).1).trans HDX7.out
      have hDl := (Array.getElem?_eq_some_iff.1 HDX8.out).1
      have HKL : Hid (∀ x ∈ F, x.1.length ≤ 1000) := fun x hx => by have := (HGOOD.out.2.1 x hx).2.1; omega
      clear HI HYY HYO HB7 HDX7 HR7 HRc
      have hg8 : g7 < wc.heap.size := Nat.lt_of_lt_of_le hg7 HBx.out.size
      have HYCE : Hid (∀ w', Below wc.heap.size wc w' → w'.cell? ⟨g7, o7 + 1, none⟩ = some (.int .u64 yA.c) ∧ w'.cell? ⟨g7, o7 + 1 + 1, none⟩ = some (.bool yA.o) ∧ w'.cell? ⟨g7, o7 + 1 + 2, none⟩ = some (.int .i64 (hi yA.s)) ∧ w'.cell? ⟨g7, o7 + 1 + 3, none⟩ = some (.int .u64 (lo yA.s)) ∧ w'.cell? ⟨g7, o7 + 1 + 4, none⟩ = some (.int .i64 yA.mn) ∧ w'.cell? ⟨g7, o7 + 1 + 5, none⟩ = some (.int .i64 yA.mx)) := fun w' hb => by
        have hall : ∀ i (h : i < 6), w'.cell? ⟨g7, o7 + 1 + i, none⟩ = some ((c7 ⟨.slice ay yK.length cy, yK, yA⟩)[i + 1]'(by rw [c7_len]; omega)) := fun i h => by
          have h7 := HCC.out (i + 1) (by omega)
          rw [show o7 + (7 * 0 + (i + 1)) = o7 + 1 + i by omega] at h7
          rw [hb.cell (p := ⟨g7, o7 + 1 + i, none⟩) hg8, HBx.out.cell (p := ⟨g7, o7 + 1 + i, none⟩) hg7]
          exact h7
        exact ⟨hall 0 (by decide), hall 1 (by decide), hall 2 (by decide), hall 3 (by decide), hall 4 (by decide), hall 5 (by decide)⟩
      go_wp2_with fail
      as_aux_lemma =>
        refine wp_region_noPanic ?_
        refine wp_region_held_drew (S := (fun w' => Below wc.heap.size wc w')) (by kernel_rfl) ?_ (fun hHeld => ?_)
        · exact (Below.refl _ _).drew
        refine wpAnyH_take (i := 0) (v := .bool true) rfl (by as_aux_lemma => kernel_rfl) (by as_aux_lemma => kernel_rfl) (by as_aux_lemma => kernel_rfl) (fun _ _ _ h => h) (Or.inl ⟨by rfl, ?_⟩) (by assumption) ?_
        · (intro w1 hSw; (try dsimp only at hSw); go_simp)
        simp only [List.getElem_toArray, List.getElem_cons_zero, Act.put, List.setIfInBounds_toArray, List.set_cons_zero, List.set_cons_succ]
        refine wpAnyH_take (i := 1) (v := .bool true) rfl (by as_aux_lemma => kernel_rfl) (by as_aux_lemma => kernel_rfl) (by as_aux_lemma => kernel_rfl) (fun _ _ _ h => h) (Or.inl ⟨by rfl, ?_⟩) (by assumption) ?_
        · (intro w1 hSw; (try dsimp only at hSw); go_simp)
        simp only [List.getElem_toArray, List.getElem_cons_succ, List.getElem_cons_zero, Act.put, List.setIfInBounds_toArray, List.set_cons_zero, List.set_cons_succ]
        refine wpAnyH_take (i := 2) (v := .bool false) rfl (by as_aux_lemma => kernel_rfl) (by as_aux_lemma => kernel_rfl) (by as_aux_lemma => kernel_rfl) (fun _ _ _ h => h) (Or.inl ⟨by rfl, ?_⟩) (by assumption) ?_
        · (intro w1 hSw; (try dsimp only at hSw); go_simp)
        simp only [List.getElem_toArray, List.getElem_cons_succ, List.getElem_cons_zero, Act.put, List.setIfInBounds_toArray, List.set_cons_zero, List.set_cons_succ]
        refine wpAnyH_take (i := 3) (v := .bool false) rfl (by as_aux_lemma => kernel_rfl) (by as_aux_lemma => kernel_rfl) (by as_aux_lemma => kernel_rfl) (fun _ _ _ h => h) (Or.inl ⟨by rfl, ?_⟩) (by assumption) ?_
        · (intro w1 hSw; (try dsimp only at hSw); go_simp)
        simp only [List.getElem_toArray, List.getElem_cons_succ, List.getElem_cons_zero, Act.put, List.setIfInBounds_toArray, List.set_cons_zero, List.set_cons_succ]
        refine wpAnyH_take (i := 4) (v := .bool true) rfl (by as_aux_lemma => kernel_rfl) (by as_aux_lemma => kernel_rfl) (by as_aux_lemma => kernel_rfl) (fun _ _ _ h => h) (Or.inl ⟨by rfl, ?_⟩) (by assumption) ?_
        · (intro w1 hSw; (try dsimp only at hSw); go_simp)
        simp only [List.getElem_toArray, List.getElem_cons_succ, List.getElem_cons_zero, Act.put, List.setIfInBounds_toArray, List.set_cons_zero, List.set_cons_succ]
        refine wpAnyH_take (i := 5) (v := .bool true) rfl (by as_aux_lemma => kernel_rfl) (by as_aux_lemma => kernel_rfl) (by as_aux_lemma => kernel_rfl) (fun _ _ _ h => h) (Or.inl ⟨by rfl, ?_⟩) (by assumption) ?_
        · (intro w1 hSw; (try dsimp only at hSw); go_simp)
        simp only [List.getElem_toArray, List.getElem_cons_succ, List.getElem_cons_zero, Act.put, List.setIfInBounds_toArray, List.set_cons_zero, List.set_cons_succ]
        refine wpAnyH_take (i := 6) (v := .agg #[.int .u64 yA.c, .bool yA.o, .int .i64 (hi yA.s), .int .u64 (lo yA.s), .int .i64 yA.mn, .int .i64 yA.mx]) rfl (by as_aux_lemma => kernel_rfl) (by as_aux_lemma => kernel_rfl) (by as_aux_lemma => kernel_rfl) (fun _ _ _ h => h) (Or.inl ⟨by rfl, ?_⟩) (by assumption) ?_
        · (intro w1 hSw; (try dsimp only at hSw); have hxx := six ((hSw.block _ hDl).trans HDX8.out); obtain ⟨d0, d1, d2, d3, d4, d5⟩ := hxx; go_simp)
        simp only [List.getElem_toArray, List.getElem_cons_succ, List.getElem_cons_zero, Act.put, List.setIfInBounds_toArray, List.set_cons_zero, List.set_cons_succ]
        refine wpAnyH_take (i := 7) (v := .slice (some ⟨g7, o7, none⟩) 1 p7) rfl (by as_aux_lemma => kernel_rfl) (by as_aux_lemma => kernel_rfl) (by as_aux_lemma => kernel_rfl) (fun _ _ _ h => h) (Or.inl ⟨by rfl, ?_⟩) (by assumption) ?_
        · (intro w1 hSw; (try dsimp only at hSw); go_simp)
        simp only [List.getElem_toArray, List.getElem_cons_succ, List.getElem_cons_zero, Act.put, List.setIfInBounds_toArray, List.set_cons_zero, List.set_cons_succ]
        refine wpAnyH_take (i := 8) (v := .pointer (some ⟨g7, o7, none⟩)) rfl (by as_aux_lemma => kernel_rfl) (by as_aux_lemma => kernel_rfl) (by as_aux_lemma => kernel_rfl) (fun _ _ _ h => h) (Or.inl ⟨by rfl, ?_⟩) (by assumption) ?_
        · (intro w1 hSw; (try dsimp only at hSw); go_simp)
        simp only [List.getElem_toArray, List.getElem_cons_succ, List.getElem_cons_zero, Act.put, List.setIfInBounds_toArray, List.set_cons_zero, List.set_cons_succ]
        refine wpAnyH_take (i := 9) (v := .pointer (some ⟨g7, o7 + 1, none⟩)) rfl (by as_aux_lemma => kernel_rfl) (by as_aux_lemma => kernel_rfl) (by as_aux_lemma => kernel_rfl) (fun _ _ _ h => h) (Or.inl ⟨by rfl, ?_⟩) (by assumption) ?_
        · (intro w1 hSw; (try dsimp only at hSw); go_simp)
        simp only [List.getElem_toArray, List.getElem_cons_succ, List.getElem_cons_zero, Act.put, List.setIfInBounds_toArray, List.set_cons_zero, List.set_cons_succ]
        refine wpAnyH_take (i := 10) (v := .agg #[.int .u64 yA.c, .bool yA.o, .int .i64 (hi yA.s), .int .u64 (lo yA.s), .int .i64 yA.mn, .int .i64 yA.mx]) rfl (by as_aux_lemma => kernel_rfl) (by as_aux_lemma => kernel_rfl) (by as_aux_lemma => kernel_rfl) (fun _ _ _ h => h) (Or.inl ⟨by rfl, ?_⟩) (by assumption) ?_
        · (intro w1 hSw; (try dsimp only at hSw); obtain ⟨e1, e2, e3, e4, e5, e6⟩ := HYCE.out w1 hSw; go_simp)
        simp only [List.getElem_toArray, List.getElem_cons_succ, List.getElem_cons_zero, Act.put, List.setIfInBounds_toArray, List.set_cons_zero, List.set_cons_succ]
        refine wpAnyH_take (i := 11) (v := .bool false) rfl (by as_aux_lemma => kernel_rfl) (by as_aux_lemma => kernel_rfl) (by as_aux_lemma => kernel_rfl) (fun _ _ _ h => h) (Or.inl ⟨by rfl, ?_⟩) (by assumption) ?_
        · (intro w1 hSw; (try dsimp only at hSw); go_simp)
        simp only [List.getElem_toArray, List.getElem_cons_succ, List.getElem_cons_zero, Act.put, List.setIfInBounds_toArray, List.set_cons_zero, List.set_cons_succ]
        refine wpAnyH_take (i := 12) (v := .bool false) rfl (by as_aux_lemma => kernel_rfl) (by as_aux_lemma => kernel_rfl) (by as_aux_lemma => kernel_rfl) (fun _ _ _ h => h) (Or.inl ⟨by rfl, ?_⟩) (by assumption) ?_
        · (intro w1 hSw; (try dsimp only at hSw); go_simp)
        simp only [List.getElem_toArray, List.getElem_cons_succ, List.getElem_cons_zero, Act.put, List.setIfInBounds_toArray, List.set_cons_zero, List.set_cons_succ]
        refine wpAnyH_take (i := 13) (v := .bool false) rfl (by as_aux_lemma => kernel_rfl) (by as_aux_lemma => kernel_rfl) (by as_aux_lemma => kernel_rfl) (fun _ _ _ h => h) (Or.inl ⟨by rfl, ?_⟩) (by assumption) ?_
        · (intro w1 hSw; (try dsimp only at hSw); go_simp)
        simp only [List.getElem_toArray, List.getElem_cons_succ, List.getElem_cons_zero, Act.put, List.setIfInBounds_toArray, List.set_cons_zero, List.set_cons_succ]
        refine wpAnyH_take (i := 14) (v := .bool false) rfl (by as_aux_lemma => kernel_rfl) (by as_aux_lemma => kernel_rfl) (by as_aux_lemma => kernel_rfl) (fun _ _ _ h => h) (Or.inl ⟨by rfl, ?_⟩) (by assumption) ?_
        · (intro w1 hSw; (try dsimp only at hSw); go_simp)
        simp only [List.getElem_toArray, List.getElem_cons_succ, List.getElem_cons_zero, Act.put, List.setIfInBounds_toArray, List.set_cons_zero, List.set_cons_succ]
        refine wpAnyH_take (i := 15) (v := .bool true) rfl (by as_aux_lemma => kernel_rfl) (by as_aux_lemma => kernel_rfl) (by as_aux_lemma => kernel_rfl) (fun _ _ _ h => h) (Or.inl ⟨by rfl, ?_⟩) (by assumption) ?_
        · (intro w1 hSw; (try dsimp only at hSw); go_simp)
        simp only [List.getElem_toArray, List.getElem_cons_succ, List.getElem_cons_zero, Act.put, List.setIfInBounds_toArray, List.set_cons_zero, List.set_cons_succ]
        refine wpAnyH_take (i := 16) (v := .bool false) rfl (by as_aux_lemma => kernel_rfl) (by as_aux_lemma => kernel_rfl) (by as_aux_lemma => kernel_rfl) (fun _ _ _ h => h) (Or.inl ⟨by rfl, ?_⟩) (by assumption) ?_
        · (intro w1 hSw; (try dsimp only at hSw); go_simp)
        simp only [List.getElem_toArray, List.getElem_cons_succ, List.getElem_cons_zero, Act.put, List.setIfInBounds_toArray, List.set_cons_zero, List.set_cons_succ]
        refine wpAnyH_take (i := 17) (v := .bool false) rfl (by as_aux_lemma => kernel_rfl) (by as_aux_lemma => kernel_rfl) (by as_aux_lemma => kernel_rfl) (fun _ _ _ h => h) (Or.inl ⟨by rfl, ?_⟩) (by assumption) ?_
        · (intro w1 hSw; (try dsimp only at hSw); go_simp)
        simp only [List.getElem_toArray, List.getElem_cons_succ, List.getElem_cons_zero, Act.put, List.setIfInBounds_toArray, List.set_cons_zero, List.set_cons_succ]
        refine wpAnyH_take (i := 18) (v := undef) rfl (by as_aux_lemma => kernel_rfl) (by as_aux_lemma => kernel_rfl) (by as_aux_lemma => kernel_rfl) (fun _ _ _ h => h) (Or.inr ⟨by rfl, rfl⟩) (by assumption) ?_
        simp only [List.getElem_toArray, List.getElem_cons_succ, List.getElem_cons_zero, Act.put, List.setIfInBounds_toArray, List.set_cons_zero, List.set_cons_succ]
        refine wpAnyH_take (i := 19) (v := undef) rfl (by as_aux_lemma => kernel_rfl) (by as_aux_lemma => kernel_rfl) (by as_aux_lemma => kernel_rfl) (fun _ _ _ h => h) (Or.inr ⟨by rfl, rfl⟩) (by assumption) ?_
        simp only [List.getElem_toArray, List.getElem_cons_succ, List.getElem_cons_zero, Act.put, List.setIfInBounds_toArray, List.set_cons_zero, List.set_cons_succ]
        refine wpAnyH_take (i := 20) (v := undef) rfl (by as_aux_lemma => kernel_rfl) (by as_aux_lemma => kernel_rfl) (by as_aux_lemma => kernel_rfl) (fun _ _ _ h => h) (Or.inr ⟨by rfl, rfl⟩) (by assumption) ?_
        simp only [List.getElem_toArray, List.getElem_cons_succ, List.getElem_cons_zero, Act.put, List.setIfInBounds_toArray, List.set_cons_zero, List.set_cons_succ]
        refine wpAnyH_take (i := 21) (v := .bool false) rfl (by as_aux_lemma => kernel_rfl) (by as_aux_lemma => kernel_rfl) (by as_aux_lemma => kernel_rfl) (fun _ _ _ h => h) (Or.inl ⟨by rfl, ?_⟩) (by assumption) ?_
        · (intro w1 hSw; (try dsimp only at hSw); go_simp)
        simp only [List.getElem_toArray, List.getElem_cons_succ, List.getElem_cons_zero, Act.put, List.setIfInBounds_toArray, List.set_cons_zero, List.set_cons_succ]
        refine wpAnyH_take (i := 22) (v := .bool false) rfl (by as_aux_lemma => kernel_rfl) (by as_aux_lemma => kernel_rfl) (by as_aux_lemma => kernel_rfl) (fun _ _ _ h => h) (Or.inl ⟨by rfl, ?_⟩) (by assumption) ?_
        · (intro w1 hSw; (try dsimp only at hSw); go_simp)
        simp only [List.getElem_toArray, List.getElem_cons_succ, List.getElem_cons_zero, Act.put, List.setIfInBounds_toArray, List.set_cons_zero, List.set_cons_succ]
        refine wpAnyH_take (i := 23) (v := .bool false) rfl (by as_aux_lemma => kernel_rfl) (by as_aux_lemma => kernel_rfl) (by as_aux_lemma => kernel_rfl) (fun _ _ _ h => h) (Or.inl ⟨by rfl, ?_⟩) (by assumption) ?_
        · (intro w1 hSw; (try dsimp only at hSw); go_simp)
        simp only [List.getElem_toArray, List.getElem_cons_succ, List.getElem_cons_zero, Act.put, List.setIfInBounds_toArray, List.set_cons_zero, List.set_cons_succ]
        refine wpAnyH_take (i := 24) (v := .pointer (some ⟨L0, 0, none⟩)) rfl (by as_aux_lemma => kernel_rfl) (by as_aux_lemma => kernel_rfl) (by as_aux_lemma => kernel_rfl) (fun _ _ _ h => h) (Or.inl ⟨by rfl, ?_⟩) (by assumption) ?_
        · (intro w1 hSw; (try dsimp only at hSw); go_simp)
        simp only [List.getElem_toArray, List.getElem_cons_succ, List.getElem_cons_zero, Act.put, List.setIfInBounds_toArray, List.set_cons_zero, List.set_cons_succ]
        refine wpAnyH_take (i := 26) (v := .pointer (some ⟨Y, 0, none⟩)) rfl (by as_aux_lemma => kernel_rfl) (by as_aux_lemma => kernel_rfl) (by as_aux_lemma => kernel_rfl) (fun _ _ _ h => h) (Or.inl ⟨by rfl, ?_⟩) (by assumption) ?_
        · (intro w1 hSw; (try dsimp only at hSw); go_simp)
        simp only [List.getElem_toArray, List.getElem_cons_succ, List.getElem_cons_zero, Act.put, List.setIfInBounds_toArray, List.set_cons_zero, List.set_cons_succ]
        refine wpAnyH_take (i := 27) (v := .pointer (some ⟨Y, 0, none⟩)) rfl (by as_aux_lemma => kernel_rfl) (by as_aux_lemma => kernel_rfl) (by as_aux_lemma => kernel_rfl) (fun _ _ _ h => h) (Or.inl ⟨by rfl, ?_⟩) (by assumption) ?_
        · (intro w1 hSw; (try dsimp only at hSw); go_simp)
        simp only [List.getElem_toArray, List.getElem_cons_succ, List.getElem_cons_zero, Act.put, List.setIfInBounds_toArray, List.set_cons_zero, List.set_cons_succ]
        refine wpAnyH_take (i := 28) (v := .pointer (some ⟨Y, 0, none⟩)) rfl (by as_aux_lemma => kernel_rfl) (by as_aux_lemma => kernel_rfl) (by as_aux_lemma => kernel_rfl) (fun _ _ _ h => h) (Or.inl ⟨by rfl, ?_⟩) (by assumption) ?_
        · (intro w1 hSw; (try dsimp only at hSw); go_simp)
        simp only [List.getElem_toArray, List.getElem_cons_succ, List.getElem_cons_zero, Act.put, List.setIfInBounds_toArray, List.set_cons_zero, List.set_cons_succ]
        refine wpAnyH_take (i := 29) (v := .slice ya F.length yc) rfl (by as_aux_lemma => kernel_rfl) (by as_aux_lemma => kernel_rfl) (by as_aux_lemma => kernel_rfl) (fun _ _ _ h => h) (Or.inl ⟨by rfl, ?_⟩) (by assumption) ?_
        · (intro w1 hSw; (try dsimp only at hSw); have cy := (hSw.cell (p := ⟨Y, 0, none⟩) hY8l).trans HYC.out.1; go_simp)
        simp only [List.getElem_toArray, List.getElem_cons_succ, List.getElem_cons_zero, Act.put, List.setIfInBounds_toArray, List.set_cons_zero, List.set_cons_succ]
        refine wpAnyH_ready (rs := [25]) (by as_aux_lemma => kernel_rfl) (by simp) ?_
        refine AllReadyH.cons (o := _) rfl (fun K hK => ?_) AllReadyH.nil
        go_simp
        refine (all_any L0 F f2 _ w.heap.size (HS8.out.below (Below.refl _ _).drew)).mono ?_
        rintro e w9 ⟨v9, zs, rfl, ho9, hzs, hb9'⟩
        have HB89 : Hid (Below wc.heap.size wc w9) := (Below.refl _ _).drew.trans hb9'
        obtain ⟨a9, p9, hv9, -, -⟩ := ho9.row.rc.form
        subst hv9
        have HE9 : Hid (ERd w9 (.slice a9 zs.length p9) F) := by have h9 := ho9.rd; rw [hzs] at h9; exact h9
        have HF9 : Hid (ERd w9 (.slice ya F.length yc) F) := by have h9 := (HYO8.out.below HB89.out).rd; rw [HYE.out] at h9; exact h9
        clear ho9 hzs hb9'
        refine hK.out _ _ ?_ (fun hHeld => ?_)
        · exact HB89.out
        clear hK K
        refine wpAnyH_ready (rs := [30]) (by as_aux_lemma => kernel_rfl) (by simp) ?_
        refine AllReadyH.cons (o := _) rfl (fun K hK => ?_) AllReadyH.nil
        go_simp
        refine (same_true _ _ F _ HE9.out HF9.out).mono ?_
        rintro e w10 ⟨rfl, hb10⟩
        have HB810 : Hid (Below wc.heap.size wc w10) := HB89.out.trans (hb10.mono HB89.out.size)
        have HS10 : Hid (SK w10 w.heap.size L0 F f2) := HS8.out.below HB810.out
        have HY10 : Hid (w10.heap[Y]? = some (.cells #[.slice ya F.length yc, .bool f2] 28)) := (HB810.out.block _ hY8l).trans HYY8.out
        have HF10 : Hid (ERd w10 (.slice ya F.length yc) F) := HF9.out.below hb10
        clear hb10
        refine hK.out _ _ ?_ (fun hHeld => ?_)
        · exact HB810.out
        clear hK K
        refine wpAnyH_take (i := 31) (v := .bool false) rfl (by as_aux_lemma => kernel_rfl) (by as_aux_lemma => kernel_rfl) (by as_aux_lemma => kernel_rfl) (fun _ _ _ h => h) (Or.inl ⟨by rfl, ?_⟩) (by assumption) ?_
        · (intro w1 hSw; (try dsimp only at hSw); go_simp)
        simp only [List.getElem_toArray, List.getElem_cons_succ, List.getElem_cons_zero, Act.put, List.setIfInBounds_toArray, List.set_cons_zero, List.set_cons_succ]
        refine wpAnyH_take (i := 32) (v := .bool false) rfl (by as_aux_lemma => kernel_rfl) (by as_aux_lemma => kernel_rfl) (by as_aux_lemma => kernel_rfl) (fun _ _ _ h => h) (Or.inl ⟨by rfl, ?_⟩) (by assumption) ?_
        · (intro w1 hSw; (try dsimp only at hSw); go_simp)
        simp only [List.getElem_toArray, List.getElem_cons_succ, List.getElem_cons_zero, Act.put, List.setIfInBounds_toArray, List.set_cons_zero, List.set_cons_succ]
        refine wpAnyH_take (i := 33) (v := .bool false) rfl (by as_aux_lemma => kernel_rfl) (by as_aux_lemma => kernel_rfl) (by as_aux_lemma => kernel_rfl) (fun _ _ _ h => h) (Or.inl ⟨by rfl, ?_⟩) (by assumption) ?_
        · (intro w1 hSw; (try dsimp only at hSw); go_simp)
        simp only [List.getElem_toArray, List.getElem_cons_succ, List.getElem_cons_zero, Act.put, List.setIfInBounds_toArray, List.set_cons_zero, List.set_cons_succ]
        refine wpAnyH_take (i := 34) (v := .pointer (some ⟨L0, 0, none⟩)) rfl (by as_aux_lemma => kernel_rfl) (by as_aux_lemma => kernel_rfl) (by as_aux_lemma => kernel_rfl) (fun _ _ _ h => h) (Or.inl ⟨by rfl, ?_⟩) (by assumption) ?_
        · (intro w1 hSw; (try dsimp only at hSw); go_simp)
        simp only [List.getElem_toArray, List.getElem_cons_succ, List.getElem_cons_zero, Act.put, List.setIfInBounds_toArray, List.set_cons_zero, List.set_cons_succ]
        refine wpAnyH_take (i := 36) (v := .pointer (some ⟨Y, 0, none⟩)) rfl (by as_aux_lemma => kernel_rfl) (by as_aux_lemma => kernel_rfl) (by as_aux_lemma => kernel_rfl) (fun _ _ _ h => h) (Or.inl ⟨by rfl, ?_⟩) (by assumption) ?_
        · (intro w1 hSw; (try dsimp only at hSw); go_simp)
        simp only [List.getElem_toArray, List.getElem_cons_succ, List.getElem_cons_zero, Act.put, List.setIfInBounds_toArray, List.set_cons_zero, List.set_cons_succ]
        refine wpAnyH_take (i := 37) (v := .pointer (some ⟨Y, 0, none⟩)) rfl (by as_aux_lemma => kernel_rfl) (by as_aux_lemma => kernel_rfl) (by as_aux_lemma => kernel_rfl) (fun _ _ _ h => h) (Or.inl ⟨by rfl, ?_⟩) (by assumption) ?_
        · (intro w1 hSw; (try dsimp only at hSw); go_simp)
        simp only [List.getElem_toArray, List.getElem_cons_succ, List.getElem_cons_zero, Act.put, List.setIfInBounds_toArray, List.set_cons_zero, List.set_cons_succ]
        refine wpAnyH_take (i := 38) (v := .pointer (some ⟨Y, 0, none⟩)) rfl (by as_aux_lemma => kernel_rfl) (by as_aux_lemma => kernel_rfl) (by as_aux_lemma => kernel_rfl) (fun _ _ _ h => h) (Or.inl ⟨by rfl, ?_⟩) (by assumption) ?_
        · (intro w1 hSw; (try dsimp only at hSw); go_simp)
        simp only [List.getElem_toArray, List.getElem_cons_succ, List.getElem_cons_zero, Act.put, List.setIfInBounds_toArray, List.set_cons_zero, List.set_cons_succ]
        refine wpAnyH_take (i := 39) (v := .slice ya F.length yc) rfl (by as_aux_lemma => kernel_rfl) (by as_aux_lemma => kernel_rfl) (by as_aux_lemma => kernel_rfl) (fun _ _ _ h => h) (Or.inl ⟨by rfl, ?_⟩) (by assumption) ?_
        · (intro w1 hSw; (try dsimp only at hSw); have cy := (hSw.cell (p := ⟨Y, 0, none⟩) hY8l).trans HYC.out.1; go_simp)
        simp only [List.getElem_toArray, List.getElem_cons_succ, List.getElem_cons_zero, Act.put, List.setIfInBounds_toArray, List.set_cons_zero, List.set_cons_succ]
        refine wpAnyH_take (i := 40) (v := .int .i64 (F.length : Int)) rfl (by as_aux_lemma => kernel_rfl) (by as_aux_lemma => kernel_rfl) (by as_aux_lemma => kernel_rfl) (fun _ _ _ h => h) (Or.inl ⟨by rfl, ?_⟩) (by assumption) ?_
        · (intro w1 hSw; (try dsimp only at hSw); go_simp)
        simp only [List.getElem_toArray, List.getElem_cons_succ, List.getElem_cons_zero, Act.put, List.setIfInBounds_toArray, List.set_cons_zero, List.set_cons_succ]
        refine wpAnyH_ready (rs := [35]) (by as_aux_lemma => kernel_rfl) (by simp) ?_
        refine AllReadyH.cons (o := _) rfl (fun K hK => ?_) AllReadyH.nil
        go_simp
        refine (len_any L0 F f2 _ w.heap.size HS10.out).mono ?_
        rintro e w11 ⟨rfl, hw11⟩
        subst hw11
        refine hK.out _ _ ?_ (fun hHeld => ?_)
        · exact HB810.out
        clear hK K
        refine wpAnyH_take (i := 41) (v := .bool false) rfl (by as_aux_lemma => kernel_rfl) (by as_aux_lemma => kernel_rfl) (by as_aux_lemma => kernel_rfl) (fun _ _ _ h => h) (Or.inl ⟨by rfl, ?_⟩) (by assumption) ?_
        · (intro w1 hSw; (try dsimp only at hSw); go_simp)
        simp only [List.getElem_toArray, List.getElem_cons_succ, List.getElem_cons_zero, Act.put, List.setIfInBounds_toArray, List.set_cons_zero, List.set_cons_succ]
        refine wpAnyH_take (i := 42) (v := .bool false) rfl (by as_aux_lemma => kernel_rfl) (by as_aux_lemma => kernel_rfl) (by as_aux_lemma => kernel_rfl) (fun _ _ _ h => h) (Or.inl ⟨by rfl, ?_⟩) (by assumption) ?_
        · (intro w1 hSw; (try dsimp only at hSw); go_simp)
        simp only [List.getElem_toArray, List.getElem_cons_succ, List.getElem_cons_zero, Act.put, List.setIfInBounds_toArray, List.set_cons_zero, List.set_cons_succ]
        refine wpAnyH_take (i := 43) (v := .bool false) rfl (by as_aux_lemma => kernel_rfl) (by as_aux_lemma => kernel_rfl) (by as_aux_lemma => kernel_rfl) (fun _ _ _ h => h) (Or.inl ⟨by rfl, ?_⟩) (by assumption) ?_
        · (intro w1 hSw; (try dsimp only at hSw); go_simp)
        simp only [List.getElem_toArray, List.getElem_cons_succ, List.getElem_cons_zero, Act.put, List.setIfInBounds_toArray, List.set_cons_zero, List.set_cons_succ]
        refine wpAnyH_take (i := 44) (v := .pointer (some ⟨L0, 0, none⟩)) rfl (by as_aux_lemma => kernel_rfl) (by as_aux_lemma => kernel_rfl) (by as_aux_lemma => kernel_rfl) (fun _ _ _ h => h) (Or.inl ⟨by rfl, ?_⟩) (by assumption) ?_
        · (intro w1 hSw; (try dsimp only at hSw); go_simp)
        simp only [List.getElem_toArray, List.getElem_cons_succ, List.getElem_cons_zero, Act.put, List.setIfInBounds_toArray, List.set_cons_zero, List.set_cons_succ]
        refine wpAnyH_take (i := 46) (v := .pointer (some ⟨Y, 0, none⟩)) rfl (by as_aux_lemma => kernel_rfl) (by as_aux_lemma => kernel_rfl) (by as_aux_lemma => kernel_rfl) (fun _ _ _ h => h) (Or.inl ⟨by rfl, ?_⟩) (by assumption) ?_
        · (intro w1 hSw; (try dsimp only at hSw); go_simp)
        simp only [List.getElem_toArray, List.getElem_cons_succ, List.getElem_cons_zero, Act.put, List.setIfInBounds_toArray, List.set_cons_zero, List.set_cons_succ]
        refine wpAnyH_ready (rs := [45]) (by as_aux_lemma => kernel_rfl) (by simp) ?_
        refine AllReadyH.cons (o := _) rfl (fun K hK => ?_) AllReadyH.nil
        go_simp
        refine (size_any L0 F f2 _ w.heap.size HS10.out).mono ?_
        rintro e w11 ⟨rfl, hw11⟩
        subst hw11
        obtain ⟨sz, Hsz⟩ := hid_ex (sizE F)
        rw [← Hsz.out]
        refine hK.out _ _ ?_ (fun hHeld => ?_)
        · exact HB810.out
        clear hK K
        refine wpAnyH_ready (rs := [47]) (by as_aux_lemma => kernel_rfl) (by simp) ?_
        refine AllReadyH.cons (o := _) rfl (fun K hK => ?_) AllReadyH.nil
        go_simp
        refine (refSize_any Y f2 _ F _ HY10.out HF10.out (by omega) HKL.out).mono ?_
        rintro e w11 ⟨rfl, hw11⟩
        subst hw11
        rw [← Hsz.out]
        refine hK.out _ _ ?_ (fun hHeld => ?_)
        · exact HB810.out
        clear hK K
        refine wpAnyH_take (i := 48) (v := .bool false) rfl (by as_aux_lemma => kernel_rfl) (by as_aux_lemma => kernel_rfl) (by as_aux_lemma => kernel_rfl) (fun _ _ _ h => h) (Or.inl ⟨by rfl, ?_⟩) (by assumption) ?_
        · (intro w1 hSw; (try dsimp only at hSw); go_simp)
        simp only [List.getElem_toArray, List.getElem_cons_succ, List.getElem_cons_zero, Act.put, List.setIfInBounds_toArray, List.set_cons_zero, List.set_cons_succ]
        refine wpAnyH_take (i := 49) (v := .bool false) rfl (by as_aux_lemma => kernel_rfl) (by as_aux_lemma => kernel_rfl) (by as_aux_lemma => kernel_rfl) (fun _ _ _ h => h) (Or.inl ⟨by rfl, ?_⟩) (by assumption) ?_
        · (intro w1 hSw; (try dsimp only at hSw); go_simp)
        simp only [List.getElem_toArray, List.getElem_cons_succ, List.getElem_cons_zero, Act.put, List.setIfInBounds_toArray, List.set_cons_zero, List.set_cons_succ]
        refine wpAnyH_take (i := 50) (v := .bool false) rfl (by as_aux_lemma => kernel_rfl) (by as_aux_lemma => kernel_rfl) (by as_aux_lemma => kernel_rfl) (fun _ _ _ h => h) (Or.inl ⟨by rfl, ?_⟩) (by assumption) ?_
        · (intro w1 hSw; (try dsimp only at hSw); go_simp)
        simp only [List.getElem_toArray, List.getElem_cons_succ, List.getElem_cons_zero, Act.put, List.setIfInBounds_toArray, List.set_cons_zero, List.set_cons_succ]
        refine wpAnyH_take (i := 51) (v := .pointer (some ⟨L0, 0, none⟩)) rfl (by as_aux_lemma => kernel_rfl) (by as_aux_lemma => kernel_rfl) (by as_aux_lemma => kernel_rfl) (fun _ _ _ h => h) (Or.inl ⟨by rfl, ?_⟩) (by assumption) ?_
        · (intro w1 hSw; (try dsimp only at hSw); go_simp)
        simp only [List.getElem_toArray, List.getElem_cons_succ, List.getElem_cons_zero, Act.put, List.setIfInBounds_toArray, List.set_cons_zero, List.set_cons_succ]
        refine wpAnyH_take (i := 53) (v := .pointer (some ⟨Y, 0, none⟩)) rfl (by as_aux_lemma => kernel_rfl) (by as_aux_lemma => kernel_rfl) (by as_aux_lemma => kernel_rfl) (fun _ _ _ h => h) (Or.inl ⟨by rfl, ?_⟩) (by assumption) ?_
        · (intro w1 hSw; (try dsimp only at hSw); go_simp)
        simp only [List.getElem_toArray, List.getElem_cons_succ, List.getElem_cons_zero, Act.put, List.setIfInBounds_toArray, List.set_cons_zero, List.set_cons_succ]
        refine wpAnyH_take (i := 54) (v := .pointer (some ⟨Y, 0, none⟩)) rfl (by as_aux_lemma => kernel_rfl) (by as_aux_lemma => kernel_rfl) (by as_aux_lemma => kernel_rfl) (fun _ _ _ h => h) (Or.inl ⟨by rfl, ?_⟩) (by assumption) ?_
        · (intro w1 hSw; (try dsimp only at hSw); go_simp)
        simp only [List.getElem_toArray, List.getElem_cons_succ, List.getElem_cons_zero, Act.put, List.setIfInBounds_toArray, List.set_cons_zero, List.set_cons_succ]
        refine wpAnyH_take (i := 55) (v := .pointer (some ⟨Y, 1, none⟩)) rfl (by as_aux_lemma => kernel_rfl) (by as_aux_lemma => kernel_rfl) (by as_aux_lemma => kernel_rfl) (fun _ _ _ h => h) (Or.inl ⟨by rfl, ?_⟩) (by assumption) ?_
        · (intro w1 hSw; (try dsimp only at hSw); go_simp)
        simp only [List.getElem_toArray, List.getElem_cons_succ, List.getElem_cons_zero, Act.put, List.setIfInBounds_toArray, List.set_cons_zero, List.set_cons_succ]
        refine wpAnyH_take (i := 56) (v := .bool f2) rfl (by as_aux_lemma => kernel_rfl) (by as_aux_lemma => kernel_rfl) (by as_aux_lemma => kernel_rfl) (fun _ _ _ h => h) (Or.inl ⟨by rfl, ?_⟩) (by assumption) ?_
        · (intro w1 hSw; (try dsimp only at hSw); have cy := (hSw.cell (p := ⟨Y, 1, none⟩) hY8l).trans HYC.out.2; go_simp)
        simp only [List.getElem_toArray, List.getElem_cons_succ, List.getElem_cons_zero, Act.put, List.setIfInBounds_toArray, List.set_cons_zero, List.set_cons_succ]
        refine wpAnyH_ready (rs := [52]) (by as_aux_lemma => kernel_rfl) (by simp) ?_
        refine AllReadyH.cons (o := _) rfl (fun K hK => ?_) AllReadyH.nil
        go_simp
        refine (frozen_any L0 F f2 _ w.heap.size HS10.out).mono ?_
        rintro e w11 ⟨rfl, hw11⟩
        subst hw11
        refine hK.out _ _ ?_ (fun hHeld => ?_)
        · exact HB810.out
        clear hK K
        refine wpAnyH_take (i := 57) (v := .bool false) rfl (by as_aux_lemma => kernel_rfl) (by as_aux_lemma => kernel_rfl) (by as_aux_lemma => kernel_rfl) (fun _ _ _ h => h) (Or.inl ⟨by rfl, ?_⟩) (by assumption) ?_
        · (intro w1 hSw; (try dsimp only at hSw); go_simp)
        simp only [List.getElem_toArray, List.getElem_cons_succ, List.getElem_cons_zero, Act.put, List.setIfInBounds_toArray, List.set_cons_zero, List.set_cons_succ]
        refine wpAnyH_take (i := 58) (v := .bool false) rfl (by as_aux_lemma => kernel_rfl) (by as_aux_lemma => kernel_rfl) (by as_aux_lemma => kernel_rfl) (fun _ _ _ h => h) (Or.inl ⟨by rfl, ?_⟩) (by assumption) ?_
        · (intro w1 hSw; (try dsimp only at hSw); go_simp)
        simp only [List.getElem_toArray, List.getElem_cons_succ, List.getElem_cons_zero, Act.put, List.setIfInBounds_toArray, List.set_cons_zero, List.set_cons_succ]
        refine wpAnyH_done (by as_aux_lemma => kernel_rfl) ?_ _
        refine NoPanic.normal ?_
        clear hHeld
        have HFI : Hid (LvI w w.heap.size L0 Y (n + 1) F f2 _) := HI8.out.below HB810.out HI8.out.b.size
        go_wp2_with fail
        exact HQ.out _ _ _ _ _ _ _ _ _ _ _ _ _ _ _ _ _ _ _ _ _ _ _ _ _ _ _ _ _ _ _ _ _ _ _ _ _ _ _ _ _ _ _ _ _ _ _ _ _ _ _ _ _ _ _ _ _ _ _ _ _ _ _ _ _ _ _ _ _ _ _ _ _ _ _ _ _ _ _ _ _ _ _ _ _ _ _ _ _ _ _ _ _ _ _ _ _ _ _ _ _ _ _ _ _ _ _ _ _ _ _ _ _ _ _ _ _ _ _ _ _ _ _ _ _ _ _ _ _ _ _ _ _ _ _ _ _ _ _ _ _ _ _ _ _ _ _ _ _ _ _ _ _ _ _ _ _ _ _ _ _ _ _ _ _ _ _ _ _ _ _ _ _ _ _ _ _ _ _ _ _ _ _ _ _ _ _ _ _ _ _ _ _ _ _ _ _ _ _ _ _ _ _ _ F f2 _ HFI
    | false =>
      have hT2 : lkE F X = none := by
        have h9 : (lkE F X).isSome = false := by rw [← HT.out]; exact hT
        cases hl : lkE F X with
        | none => rfl
        | some a => rw [hl] at h9; cases h9
      have e3 : G = agZ := by rw [HG.out, hT2]; rfl
      rw [e3] at HDX7
      clear ho7 hev7 hys hT2 HG HT hT e3
      have HB8 : Hid (Below _ _ wc) := HB7.out.trans (HBx.out.mono HB7.out.size)
      have HI8 : Hid (LvI w w.heap.size L0 Y (n + 1) F f2 wc) := HI.out.below HB8.out HI.out.b.size
      have HS8 : Hid (SK wc w.heap.size L0 F f2) := HI8.out.s
      have HYY8 : Hid (wc.heap[Y]? = some (.cells #[.slice ya F.length yc, .bool f2] 28)) := (HB8.out.block _ hYl).trans HYY.out
      have hY8l := (Array.getElem?_eq_some_iff.1 HYY8.out).1
      have HYC : Hid (wc.cell? ⟨Y, 0, none⟩ = some (.slice ya F.length yc) ∧ wc.cell? ⟨Y, 1, none⟩ = some (.bool f2)) := ⟨(cell_row HYY8.out 0 (by simp)).1, (cell_row HYY8.out 1 (by simp)).1⟩
      have HYO8 : Hid (EOwn wc w.heap.size (.slice ya F.length yc) yxs) := HYO.out.below HB8.out
      have HDX8 : Hid (wc.heap[D]? = some (.cells #[.int .u64 0, .bool false, .int .i64 0, .int .u64 0, .int .i64 0, .int .i64 0] 34)) := (HBx.out.block _ (Array.getElem?_eq_some_iff.1 HDX7.out).1).trans HDX7.out
      have hDl := (Array.getElem?_eq_some_iff.1 HDX8.out).1
      have HKL : Hid (∀ x ∈ F, x.1.length ≤ 1000) := fun x hx => by have := (HGOOD.out.2.1 x hx).2.1; omega
      clear HI HYY HYO HB7 HDX7 HR7 HRc
      go_wp2_with fail
      as_aux_lemma =>
        refine wp_region_noPanic ?_
        refine wp_region_held_drew (S := (fun w' => Below wc.heap.size wc w')) (by kernel_rfl) ?_ (fun hHeld => ?_)
        · exact (Below.refl _ _).drew
        refine wpAnyH_take (i := 0) (v := .bool false) rfl (by as_aux_lemma => kernel_rfl) (by as_aux_lemma => kernel_rfl) (by as_aux_lemma => kernel_rfl) (fun _ _ _ h => h) (Or.inl ⟨by rfl, ?_⟩) (by assumption) ?_
        · (intro w1 hSw; (try dsimp only at hSw); go_simp)
        simp only [List.getElem_toArray, List.getElem_cons_zero, Act.put, List.setIfInBounds_toArray, List.set_cons_zero, List.set_cons_succ]
        refine wpAnyH_take (i := 1) (v := .bool false) rfl (by as_aux_lemma => kernel_rfl) (by as_aux_lemma => kernel_rfl) (by as_aux_lemma => kernel_rfl) (fun _ _ _ h => h) (Or.inl ⟨by rfl, ?_⟩) (by assumption) ?_
        · (intro w1 hSw; (try dsimp only at hSw); go_simp)
        simp only [List.getElem_toArray, List.getElem_cons_succ, List.getElem_cons_zero, Act.put, List.setIfInBounds_toArray, List.set_cons_zero, List.set_cons_succ]
        refine wpAnyH_take (i := 2) (v := .bool false) rfl (by as_aux_lemma => kernel_rfl) (by as_aux_lemma => kernel_rfl) (by as_aux_lemma => kernel_rfl) (fun _ _ _ h => h) (Or.inl ⟨by rfl, ?_⟩) (by assumption) ?_
        · (intro w1 hSw; (try dsimp only at hSw); go_simp)
        simp only [List.getElem_toArray, List.getElem_cons_succ, List.getElem_cons_zero, Act.put, List.setIfInBounds_toArray, List.set_cons_zero, List.set_cons_succ]
        refine wpAnyH_take (i := 3) (v := .bool false) rfl (by as_aux_lemma => kernel_rfl) (by as_aux_lemma => kernel_rfl) (by as_aux_lemma => kernel_rfl) (fun _ _ _ h => h) (Or.inl ⟨by rfl, ?_⟩) (by assumption) ?_
        · (intro w1 hSw; (try dsimp only at hSw); go_simp)
        simp only [List.getElem_toArray, List.getElem_cons_succ, List.getElem_cons_zero, Act.put, List.setIfInBounds_toArray, List.set_cons_zero, List.set_cons_succ]
        refine wpAnyH_take (i := 4) (v := .bool false) rfl (by as_aux_lemma => kernel_rfl) (by as_aux_lemma => kernel_rfl) (by as_aux_lemma => kernel_rfl) (fun _ _ _ h => h) (Or.inl ⟨by rfl, ?_⟩) (by assumption) ?_
        · (intro w1 hSw; (try dsimp only at hSw); go_simp)
        simp only [List.getElem_toArray, List.getElem_cons_succ, List.getElem_cons_zero, Act.put, List.setIfInBounds_toArray, List.set_cons_zero, List.set_cons_succ]
        refine wpAnyH_take (i := 5) (v := .bool false) rfl (by as_aux_lemma => kernel_rfl) (by as_aux_lemma => kernel_rfl) (by as_aux_lemma => kernel_rfl) (fun _ _ _ h => h) (Or.inl ⟨by rfl, ?_⟩) (by assumption) ?_
        · (intro w1 hSw; (try dsimp only at hSw); go_simp)
        simp only [List.getElem_toArray, List.getElem_cons_succ, List.getElem_cons_zero, Act.put, List.setIfInBounds_toArray, List.set_cons_zero, List.set_cons_succ]
        refine wpAnyH_take (i := 6) (v := undef) rfl (by as_aux_lemma => kernel_rfl) (by as_aux_lemma => kernel_rfl) (by as_aux_lemma => kernel_rfl) (fun _ _ _ h => h) (Or.inr ⟨by rfl, rfl⟩) (by assumption) ?_
        simp only [List.getElem_toArray, List.getElem_cons_succ, List.getElem_cons_zero, Act.put, List.setIfInBounds_toArray, List.set_cons_zero, List.set_cons_succ]
        refine wpAnyH_take (i := 7) (v := undef) rfl (by as_aux_lemma => kernel_rfl) (by as_aux_lemma => kernel_rfl) (by as_aux_lemma => kernel_rfl) (fun _ _ _ h => h) (Or.inr ⟨by rfl, rfl⟩) (by assumption) ?_
        simp only [List.getElem_toArray, List.getElem_cons_succ, List.getElem_cons_zero, Act.put, List.setIfInBounds_toArray, List.set_cons_zero, List.set_cons_succ]
        refine wpAnyH_take (i := 8) (v := undef) rfl (by as_aux_lemma => kernel_rfl) (by as_aux_lemma => kernel_rfl) (by as_aux_lemma => kernel_rfl) (fun _ _ _ h => h) (Or.inr ⟨by rfl, rfl⟩) (by assumption) ?_
        simp only [List.getElem_toArray, List.getElem_cons_succ, List.getElem_cons_zero, Act.put, List.setIfInBounds_toArray, List.set_cons_zero, List.set_cons_succ]
        refine wpAnyH_take (i := 9) (v := undef) rfl (by as_aux_lemma => kernel_rfl) (by as_aux_lemma => kernel_rfl) (by as_aux_lemma => kernel_rfl) (fun _ _ _ h => h) (Or.inr ⟨by rfl, rfl⟩) (by assumption) ?_
        simp only [List.getElem_toArray, List.getElem_cons_succ, List.getElem_cons_zero, Act.put, List.setIfInBounds_toArray, List.set_cons_zero, List.set_cons_succ]
        refine wpAnyH_take (i := 10) (v := undef) rfl (by as_aux_lemma => kernel_rfl) (by as_aux_lemma => kernel_rfl) (by as_aux_lemma => kernel_rfl) (fun _ _ _ h => h) (Or.inr ⟨by rfl, rfl⟩) (by assumption) ?_
        simp only [List.getElem_toArray, List.getElem_cons_succ, List.getElem_cons_zero, Act.put, List.setIfInBounds_toArray, List.set_cons_zero, List.set_cons_succ]
        refine wpAnyH_take (i := 11) (v := undef) rfl (by as_aux_lemma => kernel_rfl) (by as_aux_lemma => kernel_rfl) (by as_aux_lemma => kernel_rfl) (fun _ _ _ h => h) (Or.inr ⟨by rfl, rfl⟩) (by assumption) ?_
        simp only [List.getElem_toArray, List.getElem_cons_succ, List.getElem_cons_zero, Act.put, List.setIfInBounds_toArray, List.set_cons_zero, List.set_cons_succ]
        refine wpAnyH_take (i := 12) (v := .bool false) rfl (by as_aux_lemma => kernel_rfl) (by as_aux_lemma => kernel_rfl) (by as_aux_lemma => kernel_rfl) (fun _ _ _ h => h) (Or.inl ⟨by rfl, ?_⟩) (by assumption) ?_
        · (intro w1 hSw; (try dsimp only at hSw); go_simp)
        simp only [List.getElem_toArray, List.getElem_cons_succ, List.getElem_cons_zero, Act.put, List.setIfInBounds_toArray, List.set_cons_zero, List.set_cons_succ]
        refine wpAnyH_take (i := 13) (v := .bool false) rfl (by as_aux_lemma => kernel_rfl) (by as_aux_lemma => kernel_rfl) (by as_aux_lemma => kernel_rfl) (fun _ _ _ h => h) (Or.inl ⟨by rfl, ?_⟩) (by assumption) ?_
        · (intro w1 hSw; (try dsimp only at hSw); go_simp)
        simp only [List.getElem_toArray, List.getElem_cons_succ, List.getElem_cons_zero, Act.put, List.setIfInBounds_toArray, List.set_cons_zero, List.set_cons_succ]
        refine wpAnyH_take (i := 14) (v := .bool false) rfl (by as_aux_lemma => kernel_rfl) (by as_aux_lemma => kernel_rfl) (by as_aux_lemma => kernel_rfl) (fun _ _ _ h => h) (Or.inl ⟨by rfl, ?_⟩) (by assumption) ?_
        · (intro w1 hSw; (try dsimp only at hSw); go_simp)
        simp only [List.getElem_toArray, List.getElem_cons_succ, List.getElem_cons_zero, Act.put, List.setIfInBounds_toArray, List.set_cons_zero, List.set_cons_succ]
        refine wpAnyH_take (i := 15) (v := .bool false) rfl (by as_aux_lemma => kernel_rfl) (by as_aux_lemma => kernel_rfl) (by as_aux_lemma => kernel_rfl) (fun _ _ _ h => h) (Or.inl ⟨by rfl, ?_⟩) (by assumption) ?_
        · (intro w1 hSw; (try dsimp only at hSw); go_simp)
        simp only [List.getElem_toArray, List.getElem_cons_succ, List.getElem_cons_zero, Act.put, List.setIfInBounds_toArray, List.set_cons_zero, List.set_cons_succ]
        refine wpAnyH_take (i := 16) (v := .bool true) rfl (by as_aux_lemma => kernel_rfl) (by as_aux_lemma => kernel_rfl) (by as_aux_lemma => kernel_rfl) (fun _ _ _ h => h) (Or.inl ⟨by rfl, ?_⟩) (by assumption) ?_
        · (intro w1 hSw; (try dsimp only at hSw); go_simp)
        simp only [List.getElem_toArray, List.getElem_cons_succ, List.getElem_cons_zero, Act.put, List.setIfInBounds_toArray, List.set_cons_zero, List.set_cons_succ]
        refine wpAnyH_take (i := 17) (v := .bool true) rfl (by as_aux_lemma => kernel_rfl) (by as_aux_lemma => kernel_rfl) (by as_aux_lemma => kernel_rfl) (fun _ _ _ h => h) (Or.inl ⟨by rfl, ?_⟩) (by assumption) ?_
        · (intro w1 hSw; (try dsimp only at hSw); go_simp)
        simp only [List.getElem_toArray, List.getElem_cons_succ, List.getElem_cons_zero, Act.put, List.setIfInBounds_toArray, List.set_cons_zero, List.set_cons_succ]
        refine wpAnyH_take (i := 18) (v := .agg #[.int .u64 0, .bool false, .int .i64 0, .int .u64 0, .int .i64 0, .int .i64 0]) rfl (by as_aux_lemma => kernel_rfl) (by as_aux_lemma => kernel_rfl) (by as_aux_lemma => kernel_rfl) (fun _ _ _ h => h) (Or.inl ⟨by rfl, ?_⟩) (by assumption) ?_
        · (intro w1 hSw; (try dsimp only at hSw); have hxx := six ((hSw.block _ hDl).trans HDX8.out); obtain ⟨d0, d1, d2, d3, d4, d5⟩ := hxx; go_simp)
        simp only [List.getElem_toArray, List.getElem_cons_succ, List.getElem_cons_zero, Act.put, List.setIfInBounds_toArray, List.set_cons_zero, List.set_cons_succ]
        refine wpAnyH_take (i := 19) (v := .agg #[.int .u64 0, .bool false, .int .i64 0, .int .u64 0, .int .i64 0, .int .i64 0]) rfl (by as_aux_lemma => kernel_rfl) (by as_aux_lemma => kernel_rfl) (by as_aux_lemma => kernel_rfl) (fun _ _ _ h => h) (Or.inl ⟨by rfl, ?_⟩) (by assumption) ?_
        · (intro w1 hSw; (try dsimp only at hSw); go_simp)
        simp only [List.getElem_toArray, List.getElem_cons_succ, List.getElem_cons_zero, Act.put, List.setIfInBounds_toArray, List.set_cons_zero, List.set_cons_succ]
        refine wpAnyH_take (i := 20) (v := .bool false) rfl (by as_aux_lemma => kernel_rfl) (by as_aux_lemma => kernel_rfl) (by as_aux_lemma => kernel_rfl) (fun _ _ _ h => h) (Or.inl ⟨by rfl, ?_⟩) (by assumption) ?_
        · (intro w1 hSw; (try dsimp only at hSw); go_simp)
        simp only [List.getElem_toArray, List.getElem_cons_succ, List.getElem_cons_zero, Act.put, List.setIfInBounds_toArray, List.set_cons_zero, List.set_cons_succ]
        refine wpAnyH_take (i := 21) (v := .bool false) rfl (by as_aux_lemma => kernel_rfl) (by as_aux_lemma => kernel_rfl) (by as_aux_lemma => kernel_rfl) (fun _ _ _ h => h) (Or.inl ⟨by rfl, ?_⟩) (by assumption) ?_
        · (intro w1 hSw; (try dsimp only at hSw); go_simp)
        simp only [List.getElem_toArray, List.getElem_cons_succ, List.getElem_cons_zero, Act.put, List.setIfInBounds_toArray, List.set_cons_zero, List.set_cons_succ]
        refine wpAnyH_take (i := 22) (v := .bool false) rfl (by as_aux_lemma => kernel_rfl) (by as_aux_lemma => kernel_rfl) (by as_aux_lemma => kernel_rfl) (fun _ _ _ h => h) (Or.inl ⟨by rfl, ?_⟩) (by assumption) ?_
        · (intro w1 hSw; (try dsimp only at hSw); go_simp)
        simp only [List.getElem_toArray, List.getElem_cons_succ, List.getElem_cons_zero, Act.put, List.setIfInBounds_toArray, List.set_cons_zero, List.set_cons_succ]
        refine wpAnyH_take (i := 23) (v := .bool false) rfl (by as_aux_lemma => kernel_rfl) (by as_aux_lemma => kernel_rfl) (by as_aux_lemma => kernel_rfl) (fun _ _ _ h => h) (Or.inl ⟨by rfl, ?_⟩) (by assumption) ?_
        · (intro w1 hSw; (try dsimp only at hSw); go_simp)
        simp only [List.getElem_toArray, List.getElem_cons_succ, List.getElem_cons_zero, Act.put, List.setIfInBounds_toArray, List.set_cons_zero, List.set_cons_succ]
        refine wpAnyH_take (i := 24) (v := .pointer (some ⟨L0, 0, none⟩)) rfl (by as_aux_lemma => kernel_rfl) (by as_aux_lemma => kernel_rfl) (by as_aux_lemma => kernel_rfl) (fun _ _ _ h => h) (Or.inl ⟨by rfl, ?_⟩) (by assumption) ?_
        · (intro w1 hSw; (try dsimp only at hSw); go_simp)
        simp only [List.getElem_toArray, List.getElem_cons_succ, List.getElem_cons_zero, Act.put, List.setIfInBounds_toArray, List.set_cons_zero, List.set_cons_succ]
        refine wpAnyH_take (i := 26) (v := .pointer (some ⟨Y, 0, none⟩)) rfl (by as_aux_lemma => kernel_rfl) (by as_aux_lemma => kernel_rfl) (by as_aux_lemma => kernel_rfl) (fun _ _ _ h => h) (Or.inl ⟨by rfl, ?_⟩) (by assumption) ?_
        · (intro w1 hSw; (try dsimp only at hSw); go_simp)
        simp only [List.getElem_toArray, List.getElem_cons_succ, List.getElem_cons_zero, Act.put, List.setIfInBounds_toArray, List.set_cons_zero, List.set_cons_succ]
        refine wpAnyH_take (i := 27) (v := .pointer (some ⟨Y, 0, none⟩)) rfl (by as_aux_lemma => kernel_rfl) (by as_aux_lemma => kernel_rfl) (by as_aux_lemma => kernel_rfl) (fun _ _ _ h => h) (Or.inl ⟨by rfl, ?_⟩) (by assumption) ?_
        · (intro w1 hSw; (try dsimp only at hSw); go_simp)
        simp only [List.getElem_toArray, List.getElem_cons_succ, List.getElem_cons_zero, Act.put, List.setIfInBounds_toArray, List.set_cons_zero, List.set_cons_succ]
        refine wpAnyH_take (i := 28) (v := .pointer (some ⟨Y, 0, none⟩)) rfl (by as_aux_lemma => kernel_rfl) (by as_aux_lemma => kernel_rfl) (by as_aux_lemma => kernel_rfl) (fun _ _ _ h => h) (Or.inl ⟨by rfl, ?_⟩) (by assumption) ?_
        · (intro w1 hSw; (try dsimp only at hSw); go_simp)
        simp only [List.getElem_toArray, List.getElem_cons_succ, List.getElem_cons_zero, Act.put, List.setIfInBounds_toArray, List.set_cons_zero, List.set_cons_succ]
        refine wpAnyH_take (i := 29) (v := .slice ya F.length yc) rfl (by as_aux_lemma => kernel_rfl) (by as_aux_lemma => kernel_rfl) (by as_aux_lemma => kernel_rfl) (fun _ _ _ h => h) (Or.inl ⟨by rfl, ?_⟩) (by assumption) ?_
        · (intro w1 hSw; (try dsimp only at hSw); have cy := (hSw.cell (p := ⟨Y, 0, none⟩) hY8l).trans HYC.out.1; go_simp)
        simp only [List.getElem_toArray, List.getElem_cons_succ, List.getElem_cons_zero, Act.put, List.setIfInBounds_toArray, List.set_cons_zero, List.set_cons_succ]
        refine wpAnyH_ready (rs := [25]) (by as_aux_lemma => kernel_rfl) (by simp) ?_
        refine AllReadyH.cons (o := _) rfl (fun K hK => ?_) AllReadyH.nil
        go_simp
        refine (all_any L0 F f2 _ w.heap.size (HS8.out.below (Below.refl _ _).drew)).mono ?_
        rintro e w9 ⟨v9, zs, rfl, ho9, hzs, hb9'⟩
        have HB89 : Hid (Below wc.heap.size wc w9) := (Below.refl _ _).drew.trans hb9'
        obtain ⟨a9, p9, hv9, -, -⟩ := ho9.row.rc.form
        subst hv9
        have HE9 : Hid (ERd w9 (.slice a9 zs.length p9) F) := by have h9 := ho9.rd; rw [hzs] at h9; exact h9
        have HF9 : Hid (ERd w9 (.slice ya F.length yc) F) := by have h9 := (HYO8.out.below HB89.out).rd; rw [HYE.out] at h9; exact h9
        clear ho9 hzs hb9'
        refine hK.out _ _ ?_ (fun hHeld => ?_)
        · exact HB89.out
        clear hK K
        refine wpAnyH_ready (rs := [30]) (by as_aux_lemma => kernel_rfl) (by simp) ?_
        refine AllReadyH.cons (o := _) rfl (fun K hK => ?_) AllReadyH.nil
        go_simp
        refine (same_true _ _ F _ HE9.out HF9.out).mono ?_
        rintro e w10 ⟨rfl, hb10⟩
        have HB810 : Hid (Below wc.heap.size wc w10) := HB89.out.trans (hb10.mono HB89.out.size)
        have HS10 : Hid (SK w10 w.heap.size L0 F f2) := HS8.out.below HB810.out
        have HY10 : Hid (w10.heap[Y]? = some (.cells #[.slice ya F.length yc, .bool f2] 28)) := (HB810.out.block _ hY8l).trans HYY8.out
        have HF10 : Hid (ERd w10 (.slice ya F.length yc) F) := HF9.out.below hb10
        clear hb10
        refine hK.out _ _ ?_ (fun hHeld => ?_)
        · exact HB810.out
        clear hK K
        refine wpAnyH_take (i := 31) (v := .bool false) rfl (by as_aux_lemma => kernel_rfl) (by as_aux_lemma => kernel_rfl) (by as_aux_lemma => kernel_rfl) (fun _ _ _ h => h) (Or.inl ⟨by rfl, ?_⟩) (by assumption) ?_
        · (intro w1 hSw; (try dsimp only at hSw); go_simp)
        simp only [List.getElem_toArray, List.getElem_cons_succ, List.getElem_cons_zero, Act.put, List.setIfInBounds_toArray, List.set_cons_zero, List.set_cons_succ]
        refine wpAnyH_take (i := 32) (v := .bool false) rfl (by as_aux_lemma => kernel_rfl) (by as_aux_lemma => kernel_rfl) (by as_aux_lemma => kernel_rfl) (fun _ _ _ h => h) (Or.inl ⟨by rfl, ?_⟩) (by assumption) ?_
        · (intro w1 hSw; (try dsimp only at hSw); go_simp)
        simp only [List.getElem_toArray, List.getElem_cons_succ, List.getElem_cons_zero, Act.put, List.setIfInBounds_toArray, List.set_cons_zero, List.set_cons_succ]
        refine wpAnyH_take (i := 33) (v := .bool false) rfl (by as_aux_lemma => kernel_rfl) (by as_aux_lemma => kernel_rfl) (by as_aux_lemma => kernel_rfl) (fun _ _ _ h => h) (Or.inl ⟨by rfl, ?_⟩) (by assumption) ?_
        · (intro w1 hSw; (try dsimp only at hSw); go_simp)
        simp only [List.getElem_toArray, List.getElem_cons_succ, List.getElem_cons_zero, Act.put, List.setIfInBounds_toArray, List.set_cons_zero, List.set_cons_succ]
        refine wpAnyH_take (i := 34) (v := .pointer (some ⟨L0, 0, none⟩)) rfl (by as_aux_lemma => kernel_rfl) (by as_aux_lemma => kernel_rfl) (by as_aux_lemma => kernel_rfl) (fun _ _ _ h => h) (Or.inl ⟨by rfl, ?_⟩) (by assumption) ?_
        · (intro w1 hSw; (try dsimp only at hSw); go_simp)
        simp only [List.getElem_toArray, List.getElem_cons_succ, List.getElem_cons_zero, Act.put, List.setIfInBounds_toArray, List.set_cons_zero, List.set_cons_succ]
        refine wpAnyH_take (i := 36) (v := .pointer (some ⟨Y, 0, none⟩)) rfl (by as_aux_lemma => kernel_rfl) (by as_aux_lemma => kernel_rfl) (by as_aux_lemma => kernel_rfl) (fun _ _ _ h => h) (Or.inl ⟨by rfl, ?_⟩) (by assumption) ?_
        · (intro w1 hSw; (try dsimp only at hSw); go_simp)
        simp only [List.getElem_toArray, List.getElem_cons_succ, List.getElem_cons_zero, Act.put, List.setIfInBounds_toArray, List.set_cons_zero, List.set_cons_succ]
        refine wpAnyH_take (i := 37) (v := .pointer (some ⟨Y, 0, none⟩)) rfl (by as_aux_lemma => kernel_rfl) (by as_aux_lemma => kernel_rfl) (by as_aux_lemma => kernel_rfl) (fun _ _ _ h => h) (Or.inl ⟨by rfl, ?_⟩) (by assumption) ?_
        · (intro w1 hSw; (try dsimp only at hSw); go_simp)
        simp only [List.getElem_toArray, List.getElem_cons_succ, List.getElem_cons_zero, Act.put, List.setIfInBounds_toArray, List.set_cons_zero, List.set_cons_succ]
        refine wpAnyH_take (i := 38) (v := .pointer (some ⟨Y, 0, none⟩)) rfl (by as_aux_lemma => kernel_rfl) (by as_aux_lemma => kernel_rfl) (by as_aux_lemma => kernel_rfl) (fun _ _ _ h => h) (Or.inl ⟨by rfl, ?_⟩) (by assumption) ?_
        · (intro w1 hSw; (try dsimp only at hSw); go_simp)
        simp only [List.getElem_toArray, List.getElem_cons_succ, List.getElem_cons_zero, Act.put, List.setIfInBounds_toArray, List.set_cons_zero, List.set_cons_succ]
        refine wpAnyH_take (i := 39) (v := .slice ya F.length yc) rfl (by as_aux_lemma => kernel_rfl) (by as_aux_lemma => kernel_rfl) (by as_aux_lemma => kernel_rfl) (fun _ _ _ h => h) (Or.inl ⟨by rfl, ?_⟩) (by assumption) ?_
        · (intro w1 hSw; (try dsimp only at hSw); have cy := (hSw.cell (p := ⟨Y, 0, none⟩) hY8l).trans HYC.out.1; go_simp)
        simp only [List.getElem_toArray, List.getElem_cons_succ, List.getElem_cons_zero, Act.put, List.setIfInBounds_toArray, List.set_cons_zero, List.set_cons_succ]
        refine wpAnyH_take (i := 40) (v := .int .i64 (F.length : Int)) rfl (by as_aux_lemma => kernel_rfl) (by as_aux_lemma => kernel_rfl) (by as_aux_lemma => kernel_rfl) (fun _ _ _ h => h) (Or.inl ⟨by rfl, ?_⟩) (by assumption) ?_
        · (intro w1 hSw; (try dsimp only at hSw); go_simp)
        simp only [List.getElem_toArray, List.getElem_cons_succ, List.getElem_cons_zero, Act.put, List.setIfInBounds_toArray, List.set_cons_zero, List.set_cons_succ]
        refine wpAnyH_ready (rs := [35]) (by as_aux_lemma => kernel_rfl) (by simp) ?_
        refine AllReadyH.cons (o := _) rfl (fun K hK => ?_) AllReadyH.nil
        go_simp
        refine (len_any L0 F f2 _ w.heap.size HS10.out).mono ?_
        rintro e w11 ⟨rfl, hw11⟩
        subst hw11
        refine hK.out _ _ ?_ (fun hHeld => ?_)
        · exact HB810.out
        clear hK K
        refine wpAnyH_take (i := 41) (v := .bool false) rfl (by as_aux_lemma => kernel_rfl) (by as_aux_lemma => kernel_rfl) (by as_aux_lemma => kernel_rfl) (fun _ _ _ h => h) (Or.inl ⟨by rfl, ?_⟩) (by assumption) ?_
        · (intro w1 hSw; (try dsimp only at hSw); go_simp)
        simp only [List.getElem_toArray, List.getElem_cons_succ, List.getElem_cons_zero, Act.put, List.setIfInBounds_toArray, List.set_cons_zero, List.set_cons_succ]
        refine wpAnyH_take (i := 42) (v := .bool false) rfl (by as_aux_lemma => kernel_rfl) (by as_aux_lemma => kernel_rfl) (by as_aux_lemma => kernel_rfl) (fun _ _ _ h => h) (Or.inl ⟨by rfl, ?_⟩) (by assumption) ?_
        · (intro w1 hSw; (try dsimp only at hSw); go_simp)
        simp only [List.getElem_toArray, List.getElem_cons_succ, List.getElem_cons_zero, Act.put, List.setIfInBounds_toArray, List.set_cons_zero, List.set_cons_succ]
        refine wpAnyH_take (i := 43) (v := .bool false) rfl (by as_aux_lemma => kernel_rfl) (by as_aux_lemma => kernel_rfl) (by as_aux_lemma => kernel_rfl) (fun _ _ _ h => h) (Or.inl ⟨by rfl, ?_⟩) (by assumption) ?_
        · (intro w1 hSw; (try dsimp only at hSw); go_simp)
        simp only [List.getElem_toArray, List.getElem_cons_succ, List.getElem_cons_zero, Act.put, List.setIfInBounds_toArray, List.set_cons_zero, List.set_cons_succ]
        refine wpAnyH_take (i := 44) (v := .pointer (some ⟨L0, 0, none⟩)) rfl (by as_aux_lemma => kernel_rfl) (by as_aux_lemma => kernel_rfl) (by as_aux_lemma => kernel_rfl) (fun _ _ _ h => h) (Or.inl ⟨by rfl, ?_⟩) (by assumption) ?_
        · (intro w1 hSw; (try dsimp only at hSw); go_simp)
        simp only [List.getElem_toArray, List.getElem_cons_succ, List.getElem_cons_zero, Act.put, List.setIfInBounds_toArray, List.set_cons_zero, List.set_cons_succ]
        refine wpAnyH_take (i := 46) (v := .pointer (some ⟨Y, 0, none⟩)) rfl (by as_aux_lemma => kernel_rfl) (by as_aux_lemma => kernel_rfl) (by as_aux_lemma => kernel_rfl) (fun _ _ _ h => h) (Or.inl ⟨by rfl, ?_⟩) (by assumption) ?_
        · (intro w1 hSw; (try dsimp only at hSw); go_simp)
        simp only [List.getElem_toArray, List.getElem_cons_succ, List.getElem_cons_zero, Act.put, List.setIfInBounds_toArray, List.set_cons_zero, List.set_cons_succ]
        refine wpAnyH_ready (rs := [45]) (by as_aux_lemma => kernel_rfl) (by simp) ?_
        refine AllReadyH.cons (o := _) rfl (fun K hK => ?_) AllReadyH.nil
        go_simp
        refine (size_any L0 F f2 _ w.heap.size HS10.out).mono ?_
        rintro e w11 ⟨rfl, hw11⟩
        subst hw11
        obtain ⟨sz, Hsz⟩ := hid_ex (sizE F)
        rw [← Hsz.out]
        refine hK.out _ _ ?_ (fun hHeld => ?_)
        · exact HB810.out
        clear hK K
        refine wpAnyH_ready (rs := [47]) (by as_aux_lemma => kernel_rfl) (by simp) ?_
        refine AllReadyH.cons (o := _) rfl (fun K hK => ?_) AllReadyH.nil
        go_simp
        refine (refSize_any Y f2 _ F _ HY10.out HF10.out (by omega) HKL.out).mono ?_
        rintro e w11 ⟨rfl, hw11⟩
        subst hw11
        rw [← Hsz.out]
        refine hK.out _ _ ?_ (fun hHeld => ?_)
        · exact HB810.out
        clear hK K
        refine wpAnyH_take (i := 48) (v := .bool false) rfl (by as_aux_lemma => kernel_rfl) (by as_aux_lemma => kernel_rfl) (by as_aux_lemma => kernel_rfl) (fun _ _ _ h => h) (Or.inl ⟨by rfl, ?_⟩) (by assumption) ?_
        · (intro w1 hSw; (try dsimp only at hSw); go_simp)
        simp only [List.getElem_toArray, List.getElem_cons_succ, List.getElem_cons_zero, Act.put, List.setIfInBounds_toArray, List.set_cons_zero, List.set_cons_succ]
        refine wpAnyH_take (i := 49) (v := .bool false) rfl (by as_aux_lemma => kernel_rfl) (by as_aux_lemma => kernel_rfl) (by as_aux_lemma => kernel_rfl) (fun _ _ _ h => h) (Or.inl ⟨by rfl, ?_⟩) (by assumption) ?_
        · (intro w1 hSw; (try dsimp only at hSw); go_simp)
        simp only [List.getElem_toArray, List.getElem_cons_succ, List.getElem_cons_zero, Act.put, List.setIfInBounds_toArray, List.set_cons_zero, List.set_cons_succ]
        refine wpAnyH_take (i := 50) (v := .bool false) rfl (by as_aux_lemma => kernel_rfl) (by as_aux_lemma => kernel_rfl) (by as_aux_lemma => kernel_rfl) (fun _ _ _ h => h) (Or.inl ⟨by rfl, ?_⟩) (by assumption) ?_
        · (intro w1 hSw; (try dsimp only at hSw); go_simp)
        simp only [List.getElem_toArray, List.getElem_cons_succ, List.getElem_cons_zero, Act.put, List.setIfInBounds_toArray, List.set_cons_zero, List.set_cons_succ]
        refine wpAnyH_take (i := 51) (v := .pointer (some ⟨L0, 0, none⟩)) rfl (by as_aux_lemma => kernel_rfl) (by as_aux_lemma => kernel_rfl) (by as_aux_lemma => kernel_rfl) (fun _ _ _ h => h) (Or.inl ⟨by rfl, ?_⟩) (by assumption) ?_
        · (intro w1 hSw; (try dsimp only at hSw); go_simp)
        simp only [List.getElem_toArray, List.getElem_cons_succ, List.getElem_cons_zero, Act.put, List.setIfInBounds_toArray, List.set_cons_zero, List.set_cons_succ]
        refine wpAnyH_take (i := 53) (v := .pointer (some ⟨Y, 0, none⟩)) rfl (by as_aux_lemma => kernel_rfl) (by as_aux_lemma => kernel_rfl) (by as_aux_lemma => kernel_rfl) (fun _ _ _ h => h) (Or.inl ⟨by rfl, ?_⟩) (by assumption) ?_
        · (intro w1 hSw; (try dsimp only at hSw); go_simp)
        simp only [List.getElem_toArray, List.getElem_cons_succ, List.getElem_cons_zero, Act.put, List.setIfInBounds_toArray, List.set_cons_zero, List.set_cons_succ]
        refine wpAnyH_take (i := 54) (v := .pointer (some ⟨Y, 0, none⟩)) rfl (by as_aux_lemma => kernel_rfl) (by as_aux_lemma => kernel_rfl) (by as_aux_lemma => kernel_rfl) (fun _ _ _ h => h) (Or.inl ⟨by rfl, ?_⟩) (by assumption) ?_
        · (intro w1 hSw; (try dsimp only at hSw); go_simp)
        simp only [List.getElem_toArray, List.getElem_cons_succ, List.getElem_cons_zero, Act.put, List.setIfInBounds_toArray, List.set_cons_zero, List.set_cons_succ]
        refine wpAnyH_take (i := 55) (v := .pointer (some ⟨Y, 1, none⟩)) rfl (by as_aux_lemma => kernel_rfl) (by as_aux_lemma => kernel_rfl) (by as_aux_lemma => kernel_rfl) (fun _ _ _ h => h) (Or.inl ⟨by rfl, ?_⟩) (by assumption) ?_
        · (intro w1 hSw; (try dsimp only at hSw); go_simp)
        simp only [List.getElem_toArray, List.getElem_cons_succ, List.getElem_cons_zero, Act.put, List.setIfInBounds_toArray, List.set_cons_zero, List.set_cons_succ]
        refine wpAnyH_take (i := 56) (v := .bool f2) rfl (by as_aux_lemma => kernel_rfl) (by as_aux_lemma => kernel_rfl) (by as_aux_lemma => kernel_rfl) (fun _ _ _ h => h) (Or.inl ⟨by rfl, ?_⟩) (by assumption) ?_
        · (intro w1 hSw; (try dsimp only at hSw); have cy := (hSw.cell (p := ⟨Y, 1, none⟩) hY8l).trans HYC.out.2; go_simp)
        simp only [List.getElem_toArray, List.getElem_cons_succ, List.getElem_cons_zero, Act.put, List.setIfInBounds_toArray, List.set_cons_zero, List.set_cons_succ]
        refine wpAnyH_ready (rs := [52]) (by as_aux_lemma => kernel_rfl) (by simp) ?_
        refine AllReadyH.cons (o := _) rfl (fun K hK => ?_) AllReadyH.nil
        go_simp
        refine (frozen_any L0 F f2 _ w.heap.size HS10.out).mono ?_
        rintro e w11 ⟨rfl, hw11⟩
        subst hw11
        refine hK.out _ _ ?_ (fun hHeld => ?_)
        · exact HB810.out
        clear hK K
        refine wpAnyH_take (i := 57) (v := .bool false) rfl (by as_aux_lemma => kernel_rfl) (by as_aux_lemma => kernel_rfl) (by as_aux_lemma => kernel_rfl) (fun _ _ _ h => h) (Or.inl ⟨by rfl, ?_⟩) (by assumption) ?_
        · (intro w1 hSw; (try dsimp only at hSw); go_simp)
        simp only [List.getElem_toArray, List.getElem_cons_succ, List.getElem_cons_zero, Act.put, List.setIfInBounds_toArray, List.set_cons_zero, List.set_cons_succ]
        refine wpAnyH_take (i := 58) (v := .bool false) rfl (by as_aux_lemma => kernel_rfl) (by as_aux_lemma => kernel_rfl) (by as_aux_lemma => kernel_rfl) (fun _ _ _ h => h) (Or.inl ⟨by rfl, ?_⟩) (by assumption) ?_
        · (intro w1 hSw; (try dsimp only at hSw); go_simp)
        simp only [List.getElem_toArray, List.getElem_cons_succ, List.getElem_cons_zero, Act.put, List.setIfInBounds_toArray, List.set_cons_zero, List.set_cons_succ]
        refine wpAnyH_done (by as_aux_lemma => kernel_rfl) ?_ _
        refine NoPanic.normal ?_
        clear hHeld
        have HFI : Hid (LvI w w.heap.size L0 Y (n + 1) F f2 _) := HI8.out.below HB810.out HI8.out.b.size
        go_wp2_with fail
        exact HQ.out _ _ _ _ _ _ _ _ _ _ _ _ _ _ _ _ _ _ _ _ _ _ _ _ _ _ _ _ _ _ _ _ _ _ _ _ _ _ _ _ _ _ _ _ _ _ _ _ _ _ _ _ _ _ _ _ _ _ _ _ _ _ _ _ _ _ _ _ _ _ _ _ _ _ _ _ _ _ _ _ _ _ _ _ _ _ _ _ _ _ _ _ _ _ _ _ _ _ _ _ _ _ _ _ _ _ _ _ _ _ _ _ _ _ _ _ _ _ _ _ _ _ _ _ _ _ _ _ _ _ _ _ _ _ _ _ _ _ _ _ _ _ _ _ _ _ _ _ _ _ _ _ _ _ _ _ _ _ _ _ _ _ _ _ _ _ _ _ _ _ _ _ _ _ _ _ _ _ _ _ _ _ _ _ _ _ _ _ _ _ _ _ _ _ _ _ _ _ _ _ _ _ _ _ F f2 _ HFI
end Go.Proofs.Ytoibmjmajbkbcaa
