/- SVc0, joined. -/
import Derived.Test.YtoibmjmajbkbcaaSG22
import Derived.Deep.CutBlock
import Derived.Deep.CutRange
import Derived.Deep.DeepCutAuto
/- SkipLives: case0 of the switch (written by mksv9.py). -/
namespace Go.Proofs.Ytoibmjmajbkbcaa
open Go.RowKit

set_option maxRecDepth 100000 in
set_option maxHeartbeats 40000000 in
theorem case0_walk (w : World) (L0 Y n B : Nat) (E : List En) (fr : Bool) (oh om : Int) (ak : Option Addr) (ck : Nat) (X : Ks) (A : Ag) (wo : World) (h60 : n < 60) (hXl : ¬ (1000 : Int) < (X.length : Int)) (hxm : X.length ≤ 9223372036854775807) (hBo : w.heap.size ≤ B) (HIo : Hid (LvI w w.heap.size L0 Y n E fr wo)) (HBX : Hid (wo.heap[B]? = some (.cells #[.int .i64 0, .int .i64 oh, .int .i64 om, .slice ak X.length ck, .int .u64 A.c, .bool A.o, .int .i64 (hi A.s), .int .u64 (lo A.s), .int .i64 A.mn, .int .i64 A.mx] 38))) (HRX : Hid (Reads w (.slice ak X.length ck) X)) (HOK : Hid (SpOk ⟨0, oh, om, (X, A)⟩))
    (x0 x1 x2 x5 x7 x8 x9 x10 x11 x12 x13 x14 x15 x16 x17 x18 x19 x20 x21 x22 x23 x24 x25 x26 x27 x28 x29 x30 x31 x32 x33 x34 x35 x36 x37 x38 x39 x40 x42 x43 x44 x45 x46 x47 x48 x49 x50 x51 x52 x53 x54 x55 x56 x57 x58 x59 x60 x61 x62 x63 x64 x65 x66 x67 x68 x69 x70 x71 x72 x73 x74 x75 x76 x77 x78 x79 x80 x81 x82 x83 x84 x85 x86 x87 x88 x89 x90 x91 x92 x93 x94 x95 x96 x97 x98 x99 x100 x101 x102 x103 x104 x105 x106 x107 x108 x109 x110 x111 x112 x113 x114 x115 x116 x117 x118 x119 x120 x121 x122 x123 x124 x125 x126 x127 x128 x129 x130 x131 x132 x133 x134 x135 x136 x137 x138 x139 x140 x141 x142 x143 x144 x145 x146 x147 x148 x149 x150 x151 x152 x153 x154 x155 x156 x157 x158 x159 x160 x161 x162 x163 x164 x165 x166 x167 x168 x169 x170 x171 x172 x173 x174 x175 x176 x177 x178 x179 x180 x181 x182 x183 x184 x185 x186 x187 x188 x189 x190 x191 x192 x193 x194 x195 x196 x197 x198 x199 x200 x201 x202 x203 x204 x205 x206 x207 x208 x209 x210 x211 x212 x213 x214 x215 x216 x217 x218 x219 x220 : Value) (K : Act → World → Prop) (Q : Exit → Act → World → Prop)
    (HK : Hid (∀ (y2 y7 y8 y9 y10 y20 y21 y22 y23 y24 y25 y26 y27 y28 y29 y30 y31 y32 y33 y34 y35 y36 y37 y38 y39 y40 y42 y43 y44 y45 y46 y47 y48 y49 y50 y51 y52 y53 y54 y55 y56 y57 y58 y59 y60 y61 y62 y63 y64 y65 y66 y67 y68 y69 y70 y71 y72 y73 y74 y75 y76 y77 y78 y79 y80 y81 y82 y83 y84 y85 y86 y87 y88 y89 y90 y91 y92 y93 y94 y95 y96 y97 y98 y99 y100 y101 y102 y103 y104 y105 y106 y107 y108 y109 y110 y111 y112 y113 y114 y115 y116 y117 y118 y119 y120 y121 y122 y123 y124 y125 y126 y127 y128 y129 y130 y131 y132 y133 y134 y135 y136 y137 y138 y139 y140 y141 y142 y143 y144 y145 y146 y147 y148 y149 y150 y151 y152 y153 y154 y155 y156 y157 y158 y159 y160 y161 y162 y163 y164 y165 y166 y167 y168 y169 y170 y171 y172 y173 y174 y175 y176 y177 y178 y179 y180 y181 y182 y183 y184 y185 y186 y187 y188 y189 y190 y191 y192 y193 y194 y195 y196 y197 y198 y199 y200 y201 y202 y203 y204 y205 y206 y207 y208 y209 y210 y211 y212 y213 y214 y215 y216 y217 y218 y219 : Value) (E : List En) (fr : Bool) (w' : World), Hid (LvI w w.heap.size L0 Y (n + 1) E fr w') → Hid (w'.heap[B]? = some (.cells #[.int .i64 0, .int .i64 oh, .int .i64 om, .slice ak X.length ck, .int .u64 A.c, .bool A.o, .int .i64 (hi A.s), .int .u64 (lo A.s), .int .i64 A.mn, .int .i64 A.mx] 38)) → K { tmps := #[x0, x1, y2, .pointer (some ⟨L0, 0, none⟩), .pointer (some ⟨Y, 0, none⟩), x5, .pointer (some ⟨B, 0, none⟩), y7, y8, y9, y10, x11, x12, x13, x14, x15, x16, x17, x18, x19, y20, y21, y22, y23, y24, y25, y26, y27, y28, y29, y30, y31, y32, y33, y34, y35, y36, y37, y38, y39, y40, .int .i64 0, y42, y43, y44, y45, y46, y47, y48, y49, y50, y51, y52, y53, y54, y55, y56, y57, y58, y59, y60, y61, y62, y63, y64, y65, y66, y67, y68, y69, y70, y71, y72, y73, y74, y75, y76, y77, y78, y79, y80, y81, y82, y83, y84, y85, y86, y87, y88, y89, y90, y91, y92, y93, y94, y95, y96, y97, y98, y99, y100, y101, y102, y103, y104, y105, y106, y107, y108, y109, y110, y111, y112, y113, y114, y115, y116, y117, y118, y119, y120, y121, y122, y123, y124, y125, y126, y127, y128, y129, y130, y131, y132, y133, y134, y135, y136, y137, y138, y139, y140, y141, y142, y143, y144, y145, y146, y147, y148, y149, y150, y151, y152, y153, y154, y155, y156, y157, y158, y159, y160, y161, y162, y163, y164, y165, y166, y167, y168, y169, y170, y171, y172, y173, y174, y175, y176, y177, y178, y179, y180, y181, y182, y183, y184, y185, y186, y187, y188, y189, y190, y191, y192, y193, y194, y195, y196, y197, y198, y199, y200, y201, y202, y203, y204, y205, y206, y207, y208, y209, y210, y211, y212, y213, y214, y215, y216, y217, y218, y219, x220], defers := [] } w')) :
    Code.wp Try.prog switchC (Exit.then K Q) { tmps := #[x0, x1, x2, .pointer (some ⟨L0, 0, none⟩), .pointer (some ⟨Y, 0, none⟩), x5, .pointer (some ⟨B, 0, none⟩), x7, x8, x9, x10, x11, x12, x13, x14, x15, x16, x17, x18, x19, x20, x21, x22, x23, x24, x25, x26, x27, x28, x29, x30, x31, x32, x33, x34, x35, x36, x37, x38, x39, x40, .int .i64 0, x42, x43, x44, x45, x46, x47, x48, x49, x50, x51, x52, x53, x54, x55, x56, x57, x58, x59, x60, x61, x62, x63, x64, x65, x66, x67, x68, x69, x70, x71, x72, x73, x74, x75, x76, x77, x78, x79, x80, x81, x82, x83, x84, x85, x86, x87, x88, x89, x90, x91, x92, x93, x94, x95, x96, x97, x98, x99, x100, x101, x102, x103, x104, x105, x106, x107, x108, x109, x110, x111, x112, x113, x114, x115, x116, x117, x118, x119, x120, x121, x122, x123, x124, x125, x126, x127, x128, x129, x130, x131, x132, x133, x134, x135, x136, x137, x138, x139, x140, x141, x142, x143, x144, x145, x146, x147, x148, x149, x150, x151, x152, x153, x154, x155, x156, x157, x158, x159, x160, x161, x162, x163, x164, x165, x166, x167, x168, x169, x170, x171, x172, x173, x174, x175, x176, x177, x178, x179, x180, x181, x182, x183, x184, x185, x186, x187, x188, x189, x190, x191, x192, x193, x194, x195, x196, x197, x198, x199, x200, x201, x202, x203, x204, x205, x206, x207, x208, x209, x210, x211, x212, x213, x214, x215, x216, x217, x218, x219, x220], defers := [] } wo := by
  have hu1 := h60
  have hu2 := hXl
  have hu3 := hxm
  have hu4 := hBo
  have hu5 := HRX
  have hu6 := HOK
  have hu7 := HIo
  have hu8 := HBX
  clear hu1 hu2 hu3 hu4 hu5 hu6 hu7 hu8
  unfold switchC
  simp only [Try.f3, Option.getD_some, cS, cF, cB, cL]
  let Qd : Exit → Act → World → Prop := bodyPost Try.prog Try.f3 (fun _ _ => True)
  go_cut [7, 8, 9, 10] (fun _ _ _ _ wc => ∃ (E : List En) (fr : Bool), Hid (LvI w w.heap.size L0 Y (n + 1) E fr wc) ∧ Hid (wc.heap[B]? = some (.cells #[.int .i64 0, .int .i64 oh, .int .i64 om, .slice ak X.length ck, .int .u64 A.c, .bool A.o, .int .i64 (hi A.s), .int .u64 (lo A.s), .int .i64 A.mn, .int .i64 A.mx] 38)))
  case first =>
    obtain ⟨x0, x1, x2, x3, x4, x5, x6, x7, x8, x9⟩ := opbox HBX.out
    have hBl : B < wo.heap.size := (Array.getElem?_eq_some_iff.1 HBX.out).1
    go_upto_region 12 with fail
    clear x0 x1 x2 x3 x4 x5 x6 x7 x8 x9
    go_cut [7] (fun o wx => ∃ (Bo : Nat) (a5 : Option Addr) (c5 : Nat), o = .pointer (some ⟨Bo, 0, none⟩) ∧ wo.heap.size ≤ Bo ∧ Hid (wx.heap[Bo]? = some (.cells #[.slice a5 X.length c5, .int .u64 A.c, .bool A.o, .int .i64 (hi A.s), .int .u64 (lo A.s), .int .i64 A.mn, .int .i64 A.mx] 36)) ∧ Hid (Own wx wo.heap.size (.slice a5 X.length c5) X) ∧ Hid (Below wo.heap.size wo wx))
    case first =>
      refine wp_region_noPanic ?_
      refine wp_region_held_drew (S := (fun w' => Below wo.heap.size wo w')) (by kernel_rfl) ?_ (fun hHeld => ?_)
      · exact (Below.refl _ _).drew
      refine wpAnyH_take (i := 0) (v := .pointer (some ⟨B, 3, none⟩)) rfl (by as_aux_lemma => kernel_rfl) (by as_aux_lemma => kernel_rfl) (by as_aux_lemma => kernel_rfl) (fun _ _ _ h => h) (Or.inl ⟨by rfl, ?_⟩) (by assumption) ?_
      · (intro w1 hSw; (try dsimp only at hSw); go_simp)
      simp only [List.getElem_toArray, List.getElem_cons_zero, Act.put, List.setIfInBounds_toArray, List.set_cons_zero, List.set_cons_succ]
      refine wpAnyH_take (i := 1) (v := .pointer (some ⟨B, 3, none⟩)) rfl (by as_aux_lemma => kernel_rfl) (by as_aux_lemma => kernel_rfl) (by as_aux_lemma => kernel_rfl) (fun _ _ _ h => h) (Or.inl ⟨by rfl, ?_⟩) (by assumption) ?_
      · (intro w1 hSw; (try dsimp only at hSw); go_simp)
      simp only [List.getElem_toArray, List.getElem_cons_succ, List.getElem_cons_zero, Act.put, List.setIfInBounds_toArray, List.set_cons_zero, List.set_cons_succ]
      refine wpAnyH_take (i := 2) (v := .slice ak X.length ck) rfl (by as_aux_lemma => kernel_rfl) (by as_aux_lemma => kernel_rfl) (by as_aux_lemma => kernel_rfl) (fun _ _ _ h => h) (Or.inl ⟨by rfl, ?_⟩) (by assumption) ?_
      · (intro w1 hSw; (try dsimp only at hSw); have hxx := opbox ((hSw.block _ hBl).trans HBX.out); obtain ⟨-, -, -, d3, -⟩ := hxx; go_simp)
      simp only [List.getElem_toArray, List.getElem_cons_succ, List.getElem_cons_zero, Act.put, List.setIfInBounds_toArray, List.set_cons_zero, List.set_cons_succ]
      refine wpAnyH_take (i := 4) (v := .pointer (some ⟨B, 3, none⟩)) rfl (by as_aux_lemma => kernel_rfl) (by as_aux_lemma => kernel_rfl) (by as_aux_lemma => kernel_rfl) (fun _ _ _ h => h) (Or.inl ⟨by rfl, ?_⟩) (by assumption) ?_
      · (intro w1 hSw; (try dsimp only at hSw); go_simp)
      simp only [List.getElem_toArray, List.getElem_cons_succ, List.getElem_cons_zero, Act.put, List.setIfInBounds_toArray, List.set_cons_zero, List.set_cons_succ]
      refine wpAnyH_take (i := 5) (v := .pointer (some ⟨B, 4, none⟩)) rfl (by as_aux_lemma => kernel_rfl) (by as_aux_lemma => kernel_rfl) (by as_aux_lemma => kernel_rfl) (fun _ _ _ h => h) (Or.inl ⟨by rfl, ?_⟩) (by assumption) ?_
      · (intro w1 hSw; (try dsimp only at hSw); go_simp)
      simp only [List.getElem_toArray, List.getElem_cons_succ, List.getElem_cons_zero, Act.put, List.setIfInBounds_toArray, List.set_cons_zero, List.set_cons_succ]
      refine wpAnyH_take (i := 6) (v := .agg #[.int .u64 A.c, .bool A.o, .int .i64 (hi A.s), .int .u64 (lo A.s), .int .i64 A.mn, .int .i64 A.mx]) rfl (by as_aux_lemma => kernel_rfl) (by as_aux_lemma => kernel_rfl) (by as_aux_lemma => kernel_rfl) (fun _ _ _ h => h) (Or.inl ⟨by rfl, ?_⟩) (by assumption) ?_
      · (intro w1 hSw; (try dsimp only at hSw); have hxx := opbox ((hSw.block _ hBl).trans HBX.out); obtain ⟨-, -, -, -, d4, d5, d6, d7, d8, d9⟩ := hxx; go_simp)
      simp only [List.getElem_toArray, List.getElem_cons_succ, List.getElem_cons_zero, Act.put, List.setIfInBounds_toArray, List.set_cons_zero, List.set_cons_succ]
      refine wpAnyH_ready (rs := [3, 8]) (by as_aux_lemma => kernel_rfl) (by simp) ?_
      refine AllReadyH.cons (o := _) rfl (fun K hK => ?_) (AllReadyH.cons (o := _) rfl (fun K hK => ?_) AllReadyH.nil)
      · go_simp
        refine (ncopy_any _ X (by omega) _ (HRX.out.below (HIo.out.b.drew))).mono ?_
        rintro e w5 ⟨v5, rfl, ho5, hb5⟩
        have HB5 : Hid (Below wo.heap.size wo w5) := (Below.refl _ _).drew.trans hb5
        obtain ⟨a5, c5, hv5, -⟩ := ho5.form
        subst hv5
        have HO5 : Hid (Own w5 wo.heap.size (.slice a5 X.length c5) X) := ho5
        clear ho5 hb5
        refine hK.out _ _ ?_ (fun hHeld => ?_)
        · exact HB5.out
        clear hK K
        refine wpAnyH_take (i := 7) (v := .agg #[.slice a5 X.length c5, .int .u64 A.c, .bool A.o, .int .i64 (hi A.s), .int .u64 (lo A.s), .int .i64 A.mn, .int .i64 A.mx]) rfl (by as_aux_lemma => kernel_rfl) (by as_aux_lemma => kernel_rfl) (by as_aux_lemma => kernel_rfl) (fun _ _ _ h => h) (Or.inl ⟨by rfl, ?_⟩) (by assumption) ?_
        · (intro w1 hSw; (try dsimp only at hSw); go_simp)
        simp only [List.getElem_toArray, List.getElem_cons_succ, List.getElem_cons_zero, Act.put, List.setIfInBounds_toArray, List.set_cons_zero, List.set_cons_succ]
        refine wpAnyH_ready (rs := [8]) (by as_aux_lemma => kernel_rfl) (by simp) ?_
        refine AllReadyH.cons (o := _) rfl (fun K hK => ?_) AllReadyH.nil
        go_simp
        refine hK.out _ _ ?_ (fun hHeld => ?_)
        · exact HB5.out.alloc HB5.out.size _
        clear hK K
        refine wpAnyH_ready (rs := [9]) (by as_aux_lemma => kernel_rfl) (by simp) ?_
        refine AllReadyH.cons (o := _) rfl (fun K hK => ?_) AllReadyH.nil
        go_simp
        refine hK.out _ _ ?_ (fun hHeld => ?_)
        · exact HB5.out.alloc HB5.out.size _
        clear hK K
        refine wpAnyH_done (by as_aux_lemma => kernel_rfl) ?_ _
        refine NoPanic.normal ?_
        go_wp2_with fail
        go_meet
        exact ⟨w5.heap.size, a5, c5, rfl, HB5.out.size, World.alloc_heap_new _ _, World.ownsRow.alloc HO5.out _, HB5.out.alloc HB5.out.size _⟩
      · go_simp
        obtain ⟨wz, HWZ⟩ := hid_ex (wo.alloc (.cells #[.slice none 0 0, .int .u64 0, .bool false, .int .i64 0, .int .u64 0, .int .i64 0, .int .i64 0] 36)).drew
        have HBZ : Hid (Below wo.heap.size wo wz) := by rw [HWZ.out]; exact ((Below.refl _ _).alloc (Nat.le_refl _) _).drew
        have HZZ : Hid (wz.heap[wo.heap.size]? = some (.cells #[.slice none 0 0, .int .u64 0, .bool false, .int .i64 0, .int .u64 0, .int .i64 0, .int .i64 0] 36)) := by rw [HWZ.out]; exact World.alloc_heap_new _ _
        rw [← HWZ.out]
        clear HWZ
        refine hK.out _ _ ?_ (fun hHeld => ?_)
        · exact HBZ.out
        clear hK K
        refine wpAnyH_ready (rs := [3]) (by as_aux_lemma => kernel_rfl) (by simp) ?_
        refine AllReadyH.cons (o := _) rfl (fun K hK => ?_) AllReadyH.nil
        go_simp
        refine (ncopy_any _ X (by omega) _ (HRX.out.below (HIo.out.b.trans (HBZ.out.mono HIo.out.b.size)))).mono ?_
        rintro e w5 ⟨v5, rfl, ho5, hb5⟩
        have HB5 : Hid (Below wo.heap.size wo w5) := HBZ.out.trans (hb5.mono HBZ.out.size)
        have HZ5 : Hid (w5.heap[wo.heap.size]? = some (.cells #[.slice none 0 0, .int .u64 0, .bool false, .int .i64 0, .int .u64 0, .int .i64 0, .int .i64 0] 36)) := (hb5.block _ (Array.getElem?_eq_some_iff.1 HZZ.out).1).trans HZZ.out
        obtain ⟨a5, c5, hv5, -⟩ := ho5.form
        subst hv5
        have HO5 : Hid (Own w5 wo.heap.size (.slice a5 X.length c5) X) := ho5.mono HBZ.out.size
        clear ho5 hb5
        refine hK.out _ _ ?_ (fun hHeld => ?_)
        · exact HB5.out
        clear hK K
        refine wpAnyH_take (i := 7) (v := .agg #[.slice a5 X.length c5, .int .u64 A.c, .bool A.o, .int .i64 (hi A.s), .int .u64 (lo A.s), .int .i64 A.mn, .int .i64 A.mx]) rfl (by as_aux_lemma => kernel_rfl) (by as_aux_lemma => kernel_rfl) (by as_aux_lemma => kernel_rfl) (fun _ _ _ h => h) (Or.inl ⟨by rfl, ?_⟩) (by assumption) ?_
        · (intro w1 hSw; (try dsimp only at hSw); go_simp)
        simp only [List.getElem_toArray, List.getElem_cons_succ, List.getElem_cons_zero, Act.put, List.setIfInBounds_toArray, List.set_cons_zero, List.set_cons_succ]
        have HSE : Hid _ := set7 HZ5.out (.slice a5 X.length c5) (.int .u64 A.c) (.bool A.o) (.int .i64 (hi A.s)) (.int .u64 (lo A.s)) (.int .i64 A.mn) (.int .i64 A.mx)
        have HBE : Hid (Below wo.heap.size wo (((((((w5.setCell ⟨wo.heap.size, 0, none⟩ (.slice a5 X.length c5)).setCell ⟨wo.heap.size, 1, none⟩ (.int .u64 A.c)).setCell ⟨wo.heap.size, 2, none⟩ (.bool A.o)).setCell ⟨wo.heap.size, 3, none⟩ (.int .i64 (hi A.s))).setCell ⟨wo.heap.size, 4, none⟩ (.int .u64 (lo A.s))).setCell ⟨wo.heap.size, 5, none⟩ (.int .i64 A.mn)).setCell ⟨wo.heap.size, 6, none⟩ (.int .i64 A.mx))) := ((((((HB5.out.setCell (Nat.le_refl _) _).setCell (Nat.le_refl _) _).setCell (Nat.le_refl _) _).setCell (Nat.le_refl _) _).setCell (Nat.le_refl _) _).setCell (Nat.le_refl _) _).setCell (Nat.le_refl _) _
        have HOE : Hid (Own (((((((w5.setCell ⟨wo.heap.size, 0, none⟩ (.slice a5 X.length c5)).setCell ⟨wo.heap.size, 1, none⟩ (.int .u64 A.c)).setCell ⟨wo.heap.size, 2, none⟩ (.bool A.o)).setCell ⟨wo.heap.size, 3, none⟩ (.int .i64 (hi A.s))).setCell ⟨wo.heap.size, 4, none⟩ (.int .u64 (lo A.s))).setCell ⟨wo.heap.size, 5, none⟩ (.int .i64 A.mn)).setCell ⟨wo.heap.size, 6, none⟩ (.int .i64 A.mx)) wo.heap.size (.slice a5 X.length c5) X) := own_via HO5.out fun c cs q _ hc => by
          have hne : c ≠ wo.heap.size := fun e => by
            have h9 := HZ5.out
            rw [← e, hc] at h9
            simp at h9
          rw [Below.heap_setCell _ _ _ _ hne, Below.heap_setCell _ _ _ _ hne, Below.heap_setCell _ _ _ _ hne, Below.heap_setCell _ _ _ _ hne, Below.heap_setCell _ _ _ _ hne, Below.heap_setCell _ _ _ _ hne, Below.heap_setCell _ _ _ _ hne]
          exact hc
        obtain ⟨z0, f0⟩ := cell_row HZ5.out 0 (by simp)
        obtain ⟨z1, f1⟩ := cell_row HZ5.out 1 (by simp)
        obtain ⟨z2, f2⟩ := cell_row HZ5.out 2 (by simp)
        obtain ⟨z3, f3⟩ := cell_row HZ5.out 3 (by simp)
        obtain ⟨z4, f4⟩ := cell_row HZ5.out 4 (by simp)
        obtain ⟨z5, f5⟩ := cell_row HZ5.out 5 (by simp)
        obtain ⟨z6, f6⟩ := cell_row HZ5.out 6 (by simp)
        simp only [List.getElem_toArray, List.getElem_cons_succ, List.getElem_cons_zero] at z0 z1 z2 z3 z4 z5 z6
        refine wpAnyH_ready (rs := [9]) (by as_aux_lemma => kernel_rfl) (by simp) ?_
        refine AllReadyH.cons (o := _) rfl (fun K hK => ?_) AllReadyH.nil
        go_simp
        refine hK.out _ _ ?_ (fun hHeld => ?_)
        · exact HBE.out
        clear hK K
        refine wpAnyH_done (by as_aux_lemma => kernel_rfl) ?_ _
        refine NoPanic.normal ?_
        clear z0 z1 z2 z3 z4 z5 z6 f0 f1 f2 f3 f4 f5 f6 hHeld
        go_wp2_with fail
        go_meet
        exact ⟨wo.heap.size, a5, c5, rfl, Nat.le_refl _, HSE.out, HOE.out, HBE.out⟩
    case rest =>
      obtain ⟨Bo, a5, c5, rfl, hBo2, HEX, HOW, HBW⟩ := hcut
      obtain ⟨P, HP⟩ := hid_ex (fun c : Nat => c ≠ Bo ∧ (Value.slice a5 X.length c5).ownBlock ≠ some c)
      have hcs := HBW.out.size
      have HBoL : Hid (Bo < wc.heap.size) := (Array.getElem?_eq_some_iff.1 HEX.out).1
      have HPlo : Hid (∀ c, c < wo.heap.size → P c) := fun c hc => by
        rw [HP.out]
        exact ⟨by omega, fun e => by have := (World.ownsRow.lt HOW.out c e).1; omega⟩
      have HPhi : Hid (∀ c, wc.heap.size ≤ c → P c) := fun c hc => by
        rw [HP.out]
        exact ⟨by have := HBoL.out; omega, fun e => by have := (World.ownsRow.lt HOW.out c e).2; omega⟩
      have HBX2 : Hid (wc.heap[B]? = some (.cells #[.int .i64 0, .int .i64 oh, .int .i64 om, .slice ak X.length ck, .int .u64 A.c, .bool A.o, .int .i64 (hi A.s), .int .u64 (lo A.s), .int .i64 A.mn, .int .i64 A.mx] 38)) := (HBW.out.block _ hBl).trans HBX.out
      have HS2 : Hid (SKx P wc w.heap.size L0 E fr) := (HIo.out.s.x.mono HPlo.out).below HBW.out
      have HL2 : Hid (RL P wc w.heap.size Y E fr) := (HIo.out.r.lt.mono HPlo.out).below HBW.out
      have HB2 : Hid (Below w.heap.size w wc) := HIo.out.b.trans (HBW.out.mono HIo.out.b.size)
      have HGOOD : Hid _ := HIo.out.s.good
      have hEl : E.length < 4096 := by have := HIo.out.l; omega
      have HA2 : Hid (0 ≤ A.c ∧ A.c < 18446744073709551616) := ⟨HOK.out.a.c1, HOK.out.a.c2⟩
      have hb2s := HB2.out.size
      obtain ⟨q, Hq⟩ := hid_ex (mpF fr oh X.length A)
      obtain ⟨E2, HE2⟩ := hid_ex (if mpF fr oh X.length A = 0 then putE E X A else E)
      have HEL : Hid (E2.length ≤ n + 1) := by
        rw [HE2.out]
        have h1 := putE_len E X A
        have h2 := HIo.out.l
        unfold Hid
        split <;> omega
      have HPUT : Hid (∀ W, SKx P W w.heap.size L0 E fr → Reads W (.slice a5 X.length c5) X → w.heap.size ≤ W.heap.size → (∀ g, W.heap.size ≤ g → P g) → Calls Try.prog 7 #[.pointer (some ⟨L0, 0, none⟩), .agg #[.slice a5 X.length c5, .int .u64 A.c, .bool A.o, .int .i64 (hi A.s), .int .u64 (lo A.s), .int .i64 A.mn, .int .i64 A.mx], .int .i64 oh] W fun e w' => e = .returned (.int .i64 q) ∧ SKx P w' w.heap.size L0 E2 fr ∧ Below w.heap.size W w' ∧ Kt W w') := by
        intro W h1 h2 h3 h4
        rw [Hq.out, HE2.out]
        exact put_x P L0 E fr _ X A oh W w.heap.size h3 h1 h4 h2 HA2.out hEl
      have HREF : Hid (∀ W, RL P W w.heap.size Y E fr → Reads W (.slice ak X.length ck) X → w.heap.size ≤ W.heap.size → (∀ g, W.heap.size ≤ g → P g) → Calls Try.prog 8 #[.pointer (some ⟨Y, 0, none⟩), .agg #[.slice ak X.length ck, .int .u64 A.c, .bool A.o, .int .i64 (hi A.s), .int .u64 (lo A.s), .int .i64 A.mn, .int .i64 A.mx], .int .i64 oh] W fun e w' => e = .returned (.int .i64 q) ∧ RL P w' w.heap.size Y E2 fr ∧ Below w.heap.size W w' ∧ Ku W w' ∧ ∀ c, c < W.heap.size → c ≠ Y → ¬ P c → w'.heap[c]? = W.heap[c]?) := by
        intro W h1 h2 h3 h4
        rw [Hq.out, HE2.out]
        exact refPut8 P Y E fr _ X A oh W w.heap.size h3 h1 h4 HGOOD.out.1 (fun x hx => (HGOOD.out.2.1 x hx).2.2) hEl h2 HA2.out
      clear hcs
      go_wp2_with fail
      refine wp_region_noPanic ?_
      refine wp_region_held_drew (S := (fun w' => w'.heap[B]? = some (.cells #[.int .i64 0, .int .i64 oh, .int .i64 om, .slice ak X.length ck, .int .u64 A.c, .bool A.o, .int .i64 (hi A.s), .int .u64 (lo A.s), .int .i64 A.mn, .int .i64 A.mx] 38))) (by kernel_rfl) ?_ (fun hHeld => ?_)
      · exact HBX2.out
      refine wpAnyH_take (i := 0) (v := .pointer (some ⟨L0, 0, none⟩)) rfl (by as_aux_lemma => kernel_rfl) (by as_aux_lemma => kernel_rfl) (by as_aux_lemma => kernel_rfl) (fun _ _ _ h => h) (Or.inl ⟨by rfl, ?_⟩) (by assumption) ?_
      · (intro w1 hSw; (try dsimp only at hSw); go_simp)
      simp only [List.getElem_toArray, List.getElem_cons_zero, Act.put, List.setIfInBounds_toArray, List.set_cons_zero, List.set_cons_succ]
      refine wpAnyH_take (i := 2) (v := .pointer (some ⟨B, 1, none⟩)) rfl (by as_aux_lemma => kernel_rfl) (by as_aux_lemma => kernel_rfl) (by as_aux_lemma => kernel_rfl) (fun _ _ _ h => h) (Or.inl ⟨by rfl, ?_⟩) (by assumption) ?_
      · (intro w1 hSw; (try dsimp only at hSw); go_simp)
      simp only [List.getElem_toArray, List.getElem_cons_succ, List.getElem_cons_zero, Act.put, List.setIfInBounds_toArray, List.set_cons_zero, List.set_cons_succ]
      refine wpAnyH_take (i := 3) (v := .int .i64 oh) rfl (by as_aux_lemma => kernel_rfl) (by as_aux_lemma => kernel_rfl) (by as_aux_lemma => kernel_rfl) (fun _ _ _ h => h) (Or.inl ⟨by rfl, ?_⟩) (by assumption) ?_
      · (intro w1 hSw; (try dsimp only at hSw); have hxx := opbox hSw; obtain ⟨-, d1, -⟩ := hxx; go_simp)
      simp only [List.getElem_toArray, List.getElem_cons_succ, List.getElem_cons_zero, Act.put, List.setIfInBounds_toArray, List.set_cons_zero, List.set_cons_succ]
      refine wpAnyH_take (i := 5) (v := .pointer (some ⟨Y, 0, none⟩)) rfl (by as_aux_lemma => kernel_rfl) (by as_aux_lemma => kernel_rfl) (by as_aux_lemma => kernel_rfl) (fun _ _ _ h => h) (Or.inl ⟨by rfl, ?_⟩) (by assumption) ?_
      · (intro w1 hSw; (try dsimp only at hSw); go_simp)
      simp only [List.getElem_toArray, List.getElem_cons_succ, List.getElem_cons_zero, Act.put, List.setIfInBounds_toArray, List.set_cons_zero, List.set_cons_succ]
      refine wpAnyH_take (i := 6) (v := .pointer (some ⟨B, 3, none⟩)) rfl (by as_aux_lemma => kernel_rfl) (by as_aux_lemma => kernel_rfl) (by as_aux_lemma => kernel_rfl) (fun _ _ _ h => h) (Or.inl ⟨by rfl, ?_⟩) (by assumption) ?_
      · (intro w1 hSw; (try dsimp only at hSw); go_simp)
      simp only [List.getElem_toArray, List.getElem_cons_succ, List.getElem_cons_zero, Act.put, List.setIfInBounds_toArray, List.set_cons_zero, List.set_cons_succ]
      refine wpAnyH_take (i := 7) (v := .agg #[.slice ak X.length ck, .int .u64 A.c, .bool A.o, .int .i64 (hi A.s), .int .u64 (lo A.s), .int .i64 A.mn, .int .i64 A.mx]) rfl (by as_aux_lemma => kernel_rfl) (by as_aux_lemma => kernel_rfl) (by as_aux_lemma => kernel_rfl) (fun _ _ _ h => h) (Or.inl ⟨by rfl, ?_⟩) (by assumption) ?_
      · (intro w1 hSw; (try dsimp only at hSw); have hxx := opbox hSw; obtain ⟨-, -, -, d3, d4, d5, d6, d7, d8, d9⟩ := hxx; go_simp)
      simp only [List.getElem_toArray, List.getElem_cons_succ, List.getElem_cons_zero, Act.put, List.setIfInBounds_toArray, List.set_cons_zero, List.set_cons_succ]
      refine wpAnyH_take (i := 8) (v := .pointer (some ⟨B, 1, none⟩)) rfl (by as_aux_lemma => kernel_rfl) (by as_aux_lemma => kernel_rfl) (by as_aux_lemma => kernel_rfl) (fun _ _ _ h => h) (Or.inl ⟨by rfl, ?_⟩) (by assumption) ?_
      · (intro w1 hSw; (try dsimp only at hSw); go_simp)
      simp only [List.getElem_toArray, List.getElem_cons_succ, List.getElem_cons_zero, Act.put, List.setIfInBounds_toArray, List.set_cons_zero, List.set_cons_succ]
      refine wpAnyH_take (i := 9) (v := .int .i64 oh) rfl (by as_aux_lemma => kernel_rfl) (by as_aux_lemma => kernel_rfl) (by as_aux_lemma => kernel_rfl) (fun _ _ _ h => h) (Or.inl ⟨by rfl, ?_⟩) (by assumption) ?_
      · (intro w1 hSw; (try dsimp only at hSw); have hxx := opbox hSw; obtain ⟨-, d1, -⟩ := hxx; go_simp)
      simp only [List.getElem_toArray, List.getElem_cons_succ, List.getElem_cons_zero, Act.put, List.setIfInBounds_toArray, List.set_cons_zero, List.set_cons_succ]
      obtain ⟨x0, x1, x2, x3, x4, x5, x6⟩ := box7 HEX.out
      refine wpAnyH_ready (rs := [1]) (by as_aux_lemma => kernel_rfl) (by simp) ?_
      refine AllReadyH.cons (o := _) rfl (fun K hK => ?_) AllReadyH.nil
      go_simp
      refine hK.out _ _ ?_ (fun hHeld => ?_)
      · exact HBX2.out
      clear hK K
      clear x0 x1 x2 x3 x4 x5 x6
      refine wpAnyH_ready (rs := [4]) (by as_aux_lemma => kernel_rfl) (by simp) ?_
      refine AllReadyH.cons (o := _) rfl (fun K hK => ?_) AllReadyH.nil
      go_simp
      refine (HPUT.out _ (HS2.out.below (Below.refl _ _).drew) (HOW.out.reads.below (Below.refl _ _).drew) hb2s HPhi.out).mono ?_
      rintro e w7 ⟨rfl, hs7, hb7', hk7'⟩
      have HS7 : Hid (SKx P w7 w.heap.size L0 E2 fr) := hs7
      have hb7 : Below w.heap.size wc w7 := (Below.refl _ _).drew.trans hb7'
      have hk7 : Kt wc w7 := fun c cs T fr h1 h2 hc => hk7' c cs T fr h1 h2 hc
      have HB7 : Hid (Below w.heap.size w w7) := HB2.out.trans hb7
      have HBX7 : Hid (w7.heap[B]? = some (.cells #[.int .i64 0, .int .i64 oh, .int .i64 om, .slice ak X.length ck, .int .u64 A.c, .bool A.o, .int .i64 (hi A.s), .int .u64 (lo A.s), .int .i64 A.mn, .int .i64 A.mx] 38)) := hk7 _ _ _ _ (by decide) (by decide) HBX2.out
      have HEX7 : Hid (w7.heap[Bo]? = some (.cells #[.slice a5 X.length c5, .int .u64 A.c, .bool A.o, .int .i64 (hi A.s), .int .u64 (lo A.s), .int .i64 A.mn, .int .i64 A.mx] 36)) := hk7 _ _ _ _ (by decide) (by decide) HEX.out
      have HOW7 : Hid (Own w7 wo.heap.size (.slice a5 X.length c5) X) := own_via HOW.out fun c cs q _ hc => hk7 c cs _ q (by decide) (by decide) hc
      have HL7 : Hid (RL P w7 w.heap.size Y E fr) := HL2.out.kt hk7
      have HPh7 : Hid (∀ c, w7.heap.size ≤ c → P c) := fun c hc => HPhi.out c (Nat.le_trans hb7.size hc)
      have hb7s := HB7.out.size
      clear hs7 hb7 hb7' hk7 hk7'
      refine hK.out _ _ ?_ (fun hHeld => ?_)
      · exact HBX7.out
      clear hK K
      refine wpAnyH_ready (rs := [10]) (by as_aux_lemma => kernel_rfl) (by simp) ?_
      refine AllReadyH.cons (o := _) rfl (fun K hK => ?_) AllReadyH.nil
      go_simp
      refine (HREF.out _ HL7.out (HRX.out.below HB7.out) hb7s HPh7.out).mono ?_
      rintro e w8 ⟨rfl, hl8, hb8, hk8, hc8⟩
      have HL8 : Hid (RL P w8 w.heap.size Y E2 fr) := hl8
      have HS8 : Hid (SKx P w8 w.heap.size L0 E2 fr) := HS7.out.ku hk8
      have HB8 : Hid (Below w.heap.size w w8) := HB7.out.trans hb8
      have HBX8 : Hid (w8.heap[B]? = some (.cells #[.int .i64 0, .int .i64 oh, .int .i64 om, .slice ak X.length ck, .int .u64 A.c, .bool A.o, .int .i64 (hi A.s), .int .u64 (lo A.s), .int .i64 A.mn, .int .i64 A.mx] 38)) := hk8 _ _ _ _ (by decide) (by decide) HBX7.out
      have HOW8 : Hid (Own w8 wo.heap.size (.slice a5 X.length c5) X) := own_via HOW7.out fun c cs q _ hc => hk8 c cs _ q (by decide) (by decide) hc
      have HEX8 : Hid (w8.heap[Bo]? = some (.cells #[.slice a5 X.length c5, .int .u64 A.c, .bool A.o, .int .i64 (hi A.s), .int .u64 (lo A.s), .int .i64 A.mn, .int .i64 A.mx] 36)) := by
        refine (hc8 Bo (Array.getElem?_eq_some_iff.1 HEX7.out).1 (fun e => ?_) (by rw [HP.out]; exact fun h => h.1 rfl)).trans HEX7.out
        obtain ⟨v9, xs9, hy9, _⟩ := HL7.out
        rw [← e, HEX7.out] at hy9
        simp at hy9
      clear hl8 hb8 hk8 hc8
      refine hK.out _ _ ?_ (fun hHeld => ?_)
      · exact HBX8.out
      clear hK K
      refine wpAnyH_take (i := 11) (v := .bool false) rfl (by as_aux_lemma => kernel_rfl) (by as_aux_lemma => kernel_rfl) (by as_aux_lemma => kernel_rfl) (fun _ _ _ h => h) (Or.inl ⟨by rfl, ?_⟩) (by assumption) ?_
      · (intro w1 hSw; (try dsimp only at hSw); go_simp)
      simp only [List.getElem_toArray, List.getElem_cons_succ, List.getElem_cons_zero, Act.put, List.setIfInBounds_toArray, List.set_cons_zero, List.set_cons_succ]
      refine wpAnyH_done (by as_aux_lemma => kernel_rfl) ?_ _
      refine NoPanic.normal ?_
      clear hHeld HS2 HL2 HBX2 HEX HOW HBW HB2 HPUT HREF HL7 HS7 HEX7 HOW7 HBX7
      go_wp2_with fail
      rcases Nat.eq_zero_or_pos X.length with hX0 | hX0
      · have HX0 : Hid (X.length = 0) := hX0
        have x0 := (box7 HEX8.out).1
        rw [hX0] at x0
        clear hX0
        go_loopw [8] (fun k wz => k = .int .i64 0 ∧ wz = w8) (fun _ _ => 0)
        case atStart => exact ⟨rfl, rfl⟩
        case round =>
          obtain ⟨rfl, rfl⟩ := hrel
          go_wp2_with fail
          go_meet
          exact ⟨E2, fr, ⟨HS8.out.sk, HL8.out.mono (fun _ _ => trivial), HEL.out, HB8.out⟩, HBX8.out⟩
      · obtain ⟨g, cap, hv, hg1, hg2, _, _⟩ := HOW8.out.some hX0
        simp only [Value.slice.injEq, true_and] at hv
        obtain ⟨rfl, rfl⟩ := hv
        have HGB : Hid (∃ cs, w8.heap[g]? = some (.cells cs 5 (0, 0))) := own_cells HOW8.out
        have hBg : Bo ≠ g := fun e => by
          obtain ⟨cs, hcs⟩ := HGB.out
          have h9 := HEX8.out
          rw [e, hcs] at h9
          simp at h9
        have hBg2 : B ≠ g := fun e => by
          obtain ⟨cs, hcs⟩ := HGB.out
          have h9 := HBX8.out
          rw [e, hcs] at h9
          simp at h9
        have hwog : w.heap.size ≤ g := Nat.le_trans HIo.out.b.size hg1
        have HPG : Hid (∀ c, P c → c ≠ g) := fun c hc => by
          rw [HP.out] at hc
          intro e
          exact hc.2 (by rw [e]; rfl)
        go_loopw [8] (fun k wz => ∃ (j : Nat) (l : List UInt8), j ≤ X.length ∧ l.length = X.length ∧ k = .int .i64 (j : Int) ∧ Hid (Own wz wo.heap.size (.slice (some ⟨g, 0, none⟩) X.length c5) l) ∧ Hid (K1 g w8 wz) ∧ Hid (Below w.heap.size w wz)) (fun k _ => X.length - (intOf k).toNat)
        case atStart => exact ⟨0, X, by omega, rfl, rfl, HOW8.out, K1.refl _ _, HB8.out⟩
        case round =>
          obtain ⟨j, l, hj, hll, rfl, HOl, HKl, HBl⟩ := hrel
          have x0 := (box7 ((HKl.out.k Bo hBg).trans HEX8.out)).1
          by_cases hlt2 : j < X.length
          · obtain ⟨x, y, i1, f1, y1⟩ := turn_at HOl.out (j := j) (by omega)
            obtain ⟨l2, hl2, HO2'⟩ := own_turn (g := g) j y HOl.out
            have HO2 : Hid _ := HO2'
            have HK2 : Hid (K1 g w8 (wr.setCell ⟨g, j, none⟩ (.int .u8 (y.toNat : Int)))) := HKl.out.set
            have HB2' : Hid (Below w.heap.size w (wr.setCell ⟨g, j, none⟩ (.int .u8 (y.toNat : Int)))) := HBl.out.setCell hwog _
            clear HO2'
            go_wp2_with fail
            go_region
            go_wp2_with fail
            go_roundw
            case rel => exact ⟨j + 1, l2, by omega, by omega, by go_num, HO2.out, ⟨HK2.out.s, HK2.out.k⟩, ⟨HB2'.out.os, HB2'.out.tape, HB2'.out.output, HB2'.out.size, HB2'.out.block⟩⟩
            case measure => simp [intOf]; omega
          · have hj2 : decide ((j : Int) < (X.length : Int)) = false := by simp; omega
            go_wp2_with fail
            go_meet
            obtain ⟨cs, hcs⟩ := HGB.out
            exact ⟨E2, fr, ⟨((HS8.out.mono HPG.out).k1 HKl.out hcs).sk, ((HL8.out.mono HPG.out).k1 HKl.out hcs).mono (fun _ _ => trivial), HEL.out, HBl.out⟩, (HKl.out.k B hBg2).trans HBX8.out⟩
  case rest =>
    obtain ⟨E', fr', h1, h2⟩ := hcut
    exact HK.out _ _ _ _ _ _ _ _ _ _ _ _ _ _ _ _ _ _ _ _ _ _ _ _ _ _ _ _ _ _ _ _ _ _ _ _ _ _ _ _ _ _ _ _ _ _ _ _ _ _ _ _ _ _ _ _ _ _ _ _ _ _ _ _ _ _ _ _ _ _ _ _ _ _ _ _ _ _ _ _ _ _ _ _ _ _ _ _ _ _ _ _ _ _ _ _ _ _ _ _ _ _ _ _ _ _ _ _ _ _ _ _ _ _ _ _ _ _ _ _ _ _ _ _ _ _ _ _ _ _ _ _ _ _ _ _ _ _ _ _ _ _ _ _ _ _ _ _ _ _ _ _ _ _ _ _ _ _ _ _ _ _ _ _ _ _ _ _ _ _ _ _ _ _ _ _ _ _ _ _ _ _ _ _ _ _ _ _ _ _ _ _ _ _ _ _ _ _ _ _ _ _ _ _ E' fr' _ h1 h2
end Go.Proofs.Ytoibmjmajbkbcaa
