/- SVc2, joined. -/
import Derived.Test.YtoibmjmajbkbcaaSG22
import Derived.Deep.CutBlock
import Derived.Deep.CutRange
import Derived.Deep.DeepCutAuto
/- SkipLives: case2 of the switch (written by mksv9.py). -/
namespace Go.Proofs.Ytoibmjmajbkbcaa
open Go.RowKit

set_option maxRecDepth 100000 in
set_option maxHeartbeats 40000000 in
theorem case2_walk (w : World) (L0 Y n B : Nat) (E : List En) (fr : Bool) (oh om : Int) (ak : Option Addr) (ck : Nat) (X : Ks) (A : Ag) (wo : World) (h60 : n < 60) (hXl : ¬ (1000 : Int) < (X.length : Int)) (hxm : X.length ≤ 9223372036854775807) (hBo : w.heap.size ≤ B) (HIo : Hid (LvI w w.heap.size L0 Y n E fr wo)) (HBX : Hid (wo.heap[B]? = some (.cells #[.int .i64 2, .int .i64 oh, .int .i64 om, .slice ak X.length ck, .int .u64 A.c, .bool A.o, .int .i64 (hi A.s), .int .u64 (lo A.s), .int .i64 A.mn, .int .i64 A.mx] 38))) (HRX : Hid (Reads w (.slice ak X.length ck) X)) (HOK : Hid (SpOk ⟨2, oh, om, (X, A)⟩))
    (x0 x1 x2 x5 x7 x8 x9 x10 x11 x12 x13 x14 x15 x16 x17 x18 x19 x20 x21 x22 x23 x24 x25 x26 x27 x28 x29 x30 x31 x32 x33 x34 x35 x36 x37 x38 x39 x40 x42 x43 x44 x45 x46 x47 x48 x49 x50 x51 x52 x53 x54 x55 x56 x57 x58 x59 x60 x61 x62 x63 x64 x65 x66 x67 x68 x69 x70 x71 x72 x73 x74 x75 x76 x77 x78 x79 x80 x81 x82 x83 x84 x85 x86 x87 x88 x89 x90 x91 x92 x93 x94 x95 x96 x97 x98 x99 x100 x101 x102 x103 x104 x105 x106 x107 x108 x109 x110 x111 x112 x113 x114 x115 x116 x117 x118 x119 x120 x121 x122 x123 x124 x125 x126 x127 x128 x129 x130 x131 x132 x133 x134 x135 x136 x137 x138 x139 x140 x141 x142 x143 x144 x145 x146 x147 x148 x149 x150 x151 x152 x153 x154 x155 x156 x157 x158 x159 x160 x161 x162 x163 x164 x165 x166 x167 x168 x169 x170 x171 x172 x173 x174 x175 x176 x177 x178 x179 x180 x181 x182 x183 x184 x185 x186 x187 x188 x189 x190 x191 x192 x193 x194 x195 x196 x197 x198 x199 x200 x201 x202 x203 x204 x205 x206 x207 x208 x209 x210 x211 x212 x213 x214 x215 x216 x217 x218 x219 x220 : Value) (K : Act → World → Prop) (Q : Exit → Act → World → Prop)
    (HK : Hid (∀ (y2 y7 y8 y9 y10 y20 y21 y22 y23 y24 y25 y26 y27 y28 y29 y30 y31 y32 y33 y34 y35 y36 y37 y38 y39 y40 y42 y43 y44 y45 y46 y47 y48 y49 y50 y51 y52 y53 y54 y55 y56 y57 y58 y59 y60 y61 y62 y63 y64 y65 y66 y67 y68 y69 y70 y71 y72 y73 y74 y75 y76 y77 y78 y79 y80 y81 y82 y83 y84 y85 y86 y87 y88 y89 y90 y91 y92 y93 y94 y95 y96 y97 y98 y99 y100 y101 y102 y103 y104 y105 y106 y107 y108 y109 y110 y111 y112 y113 y114 y115 y116 y117 y118 y119 y120 y121 y122 y123 y124 y125 y126 y127 y128 y129 y130 y131 y132 y133 y134 y135 y136 y137 y138 y139 y140 y141 y142 y143 y144 y145 y146 y147 y148 y149 y150 y151 y152 y153 y154 y155 y156 y157 y158 y159 y160 y161 y162 y163 y164 y165 y166 y167 y168 y169 y170 y171 y172 y173 y174 y175 y176 y177 y178 y179 y180 y181 y182 y183 y184 y185 y186 y187 y188 y189 y190 y191 y192 y193 y194 y195 y196 y197 y198 y199 y200 y201 y202 y203 y204 y205 y206 y207 y208 y209 y210 y211 y212 y213 y214 y215 y216 y217 y218 y219 : Value) (E : List En) (fr : Bool) (w' : World), Hid (LvI w w.heap.size L0 Y (n + 1) E fr w') → Hid (w'.heap[B]? = some (.cells #[.int .i64 2, .int .i64 oh, .int .i64 om, .slice ak X.length ck, .int .u64 A.c, .bool A.o, .int .i64 (hi A.s), .int .u64 (lo A.s), .int .i64 A.mn, .int .i64 A.mx] 38)) → K { tmps := #[x0, x1, y2, .pointer (some ⟨L0, 0, none⟩), .pointer (some ⟨Y, 0, none⟩), x5, .pointer (some ⟨B, 0, none⟩), y7, y8, y9, y10, x11, x12, x13, x14, x15, x16, x17, x18, x19, y20, y21, y22, y23, y24, y25, y26, y27, y28, y29, y30, y31, y32, y33, y34, y35, y36, y37, y38, y39, y40, .int .i64 2, y42, y43, y44, y45, y46, y47, y48, y49, y50, y51, y52, y53, y54, y55, y56, y57, y58, y59, y60, y61, y62, y63, y64, y65, y66, y67, y68, y69, y70, y71, y72, y73, y74, y75, y76, y77, y78, y79, y80, y81, y82, y83, y84, y85, y86, y87, y88, y89, y90, y91, y92, y93, y94, y95, y96, y97, y98, y99, y100, y101, y102, y103, y104, y105, y106, y107, y108, y109, y110, y111, y112, y113, y114, y115, y116, y117, y118, y119, y120, y121, y122, y123, y124, y125, y126, y127, y128, y129, y130, y131, y132, y133, y134, y135, y136, y137, y138, y139, y140, y141, y142, y143, y144, y145, y146, y147, y148, y149, y150, y151, y152, y153, y154, y155, y156, y157, y158, y159, y160, y161, y162, y163, y164, y165, y166, y167, y168, y169, y170, y171, y172, y173, y174, y175, y176, y177, y178, y179, y180, y181, y182, y183, y184, y185, y186, y187, y188, y189, y190, y191, y192, y193, y194, y195, y196, y197, y198, y199, y200, y201, y202, y203, y204, y205, y206, y207, y208, y209, y210, y211, y212, y213, y214, y215, y216, y217, y218, y219, x220], defers := [] } w')) :
    Code.wp Try.prog switchC (Exit.then K Q) { tmps := #[x0, x1, x2, .pointer (some ⟨L0, 0, none⟩), .pointer (some ⟨Y, 0, none⟩), x5, .pointer (some ⟨B, 0, none⟩), x7, x8, x9, x10, x11, x12, x13, x14, x15, x16, x17, x18, x19, x20, x21, x22, x23, x24, x25, x26, x27, x28, x29, x30, x31, x32, x33, x34, x35, x36, x37, x38, x39, x40, .int .i64 2, x42, x43, x44, x45, x46, x47, x48, x49, x50, x51, x52, x53, x54, x55, x56, x57, x58, x59, x60, x61, x62, x63, x64, x65, x66, x67, x68, x69, x70, x71, x72, x73, x74, x75, x76, x77, x78, x79, x80, x81, x82, x83, x84, x85, x86, x87, x88, x89, x90, x91, x92, x93, x94, x95, x96, x97, x98, x99, x100, x101, x102, x103, x104, x105, x106, x107, x108, x109, x110, x111, x112, x113, x114, x115, x116, x117, x118, x119, x120, x121, x122, x123, x124, x125, x126, x127, x128, x129, x130, x131, x132, x133, x134, x135, x136, x137, x138, x139, x140, x141, x142, x143, x144, x145, x146, x147, x148, x149, x150, x151, x152, x153, x154, x155, x156, x157, x158, x159, x160, x161, x162, x163, x164, x165, x166, x167, x168, x169, x170, x171, x172, x173, x174, x175, x176, x177, x178, x179, x180, x181, x182, x183, x184, x185, x186, x187, x188, x189, x190, x191, x192, x193, x194, x195, x196, x197, x198, x199, x200, x201, x202, x203, x204, x205, x206, x207, x208, x209, x210, x211, x212, x213, x214, x215, x216, x217, x218, x219, x220], defers := [] } wo := by
  have hu1 := h60
  have hu2 := hXl
  have hu3 := hxm
  have hu4 := hBo
  have hu5 := HRX
  have hu6 := HOK
  have hu7 := HIo
  have hu8 := HBX
  clear hu1 hu2 hu3 hu4 hu5 hu6 hu7 hu8
  unfold switchC
  simp only [Try.f3, Option.getD_some, cS, cF, cB, cL]
  let Qd : Exit → Act → World → Prop := bodyPost Try.prog Try.f3 (fun _ _ => True)
  go_cut [7, 8, 9, 10] (fun _ _ _ _ wc => ∃ (E : List En) (fr : Bool), Hid (LvI w w.heap.size L0 Y (n + 1) E fr wc) ∧ Hid (wc.heap[B]? = some (.cells #[.int .i64 2, .int .i64 oh, .int .i64 om, .slice ak X.length ck, .int .u64 A.c, .bool A.o, .int .i64 (hi A.s), .int .u64 (lo A.s), .int .i64 A.mn, .int .i64 A.mx] 38)))
  case first =>
    have x0 := (opbox HBX.out).1
    have hBl : B < wo.heap.size := (Array.getElem?_eq_some_iff.1 HBX.out).1
    have HF := (show Hid _ from HIo.out.r.freeze)
    have hYl : Y < wo.heap.size := by obtain ⟨v9, xs9, hy9, _⟩ := HIo.out.r; exact (Array.getElem?_eq_some_iff.1 hy9).1
    go_wp2_with fail
    clear x0
    refine wp_region_noPanic ?_
    refine wp_region_held_drew (S := (fun w' => w'.cell? ⟨Y, 1, none⟩ = some (.bool fr))) (by kernel_rfl) ?_ (fun hHeld => ?_)
    · exact HF.out.2.2.2.1
    refine wpAnyH_take (i := 0) (v := .pointer (some ⟨L0, 0, none⟩)) rfl (by as_aux_lemma => kernel_rfl) (by as_aux_lemma => kernel_rfl) (by as_aux_lemma => kernel_rfl) (fun _ _ _ h => h) (Or.inl ⟨by rfl, ?_⟩) (by assumption) ?_
    · (intro w1 hSw; (try dsimp only at hSw); go_simp)
    simp only [List.getElem_toArray, List.getElem_cons_zero, Act.put, List.setIfInBounds_toArray, List.set_cons_zero, List.set_cons_succ]
    refine wpAnyH_take (i := 3) (v := .pointer (some ⟨Y, 0, none⟩)) rfl (by as_aux_lemma => kernel_rfl) (by as_aux_lemma => kernel_rfl) (by as_aux_lemma => kernel_rfl) (fun _ _ _ h => h) (Or.inl ⟨by rfl, ?_⟩) (by assumption) ?_
    · (intro w1 hSw; (try dsimp only at hSw); go_simp)
    simp only [List.getElem_toArray, List.getElem_cons_succ, List.getElem_cons_zero, Act.put, List.setIfInBounds_toArray, List.set_cons_zero, List.set_cons_succ]
    refine wpAnyH_take (i := 4) (v := .pointer (some ⟨Y, 0, none⟩)) rfl (by as_aux_lemma => kernel_rfl) (by as_aux_lemma => kernel_rfl) (by as_aux_lemma => kernel_rfl) (fun _ _ _ h => h) (Or.inl ⟨by rfl, ?_⟩) (by assumption) ?_
    · (intro w1 hSw; (try dsimp only at hSw); go_simp)
    simp only [List.getElem_toArray, List.getElem_cons_succ, List.getElem_cons_zero, Act.put, List.setIfInBounds_toArray, List.set_cons_zero, List.set_cons_succ]
    refine wpAnyH_take (i := 5) (v := .pointer (some ⟨Y, 1, none⟩)) rfl (by as_aux_lemma => kernel_rfl) (by as_aux_lemma => kernel_rfl) (by as_aux_lemma => kernel_rfl) (fun _ _ _ h => h) (Or.inl ⟨by rfl, ?_⟩) (by assumption) ?_
    · (intro w1 hSw; (try dsimp only at hSw); go_simp)
    simp only [List.getElem_toArray, List.getElem_cons_succ, List.getElem_cons_zero, Act.put, List.setIfInBounds_toArray, List.set_cons_zero, List.set_cons_succ]
    refine wpAnyH_take (i := 6) (v := .bool fr) rfl (by as_aux_lemma => kernel_rfl) (by as_aux_lemma => kernel_rfl) (by as_aux_lemma => kernel_rfl) (fun _ _ _ h => h) (Or.inl ⟨by rfl, ?_⟩) (by assumption) ?_
    · (intro w1 hSw; (try dsimp only at hSw); go_simp)
    simp only [List.getElem_toArray, List.getElem_cons_succ, List.getElem_cons_zero, Act.put, List.setIfInBounds_toArray, List.set_cons_zero, List.set_cons_succ]
    refine wpAnyH_ready (rs := [1]) (by as_aux_lemma => kernel_rfl) (by simp) ?_
    refine AllReadyH.cons (o := _) rfl (fun K hK => ?_) AllReadyH.nil
    go_simp
    refine (freeze_x (fun _ => True) L0 E fr _ w.heap.size ((HIo.out.s.x.mono (fun _ _ => trivial)).below (Below.refl _ _).drew)).mono ?_
    rintro e w5 ⟨rfl, hs5, hb5', hk5'⟩
    have hb5 : Below w.heap.size wo w5 := (Below.refl _ _).drew.trans hb5'
    have hk5 : Kt wo w5 := fun c cs T fr h1 h2 hc => hk5' c cs T fr h1 h2 hc
    have HS5 : Hid (SKx (fun _ => True) w5 w.heap.size L0 E true) := hs5
    have HR5 : Hid (RL (fun _ => True) w5 w.heap.size Y E fr) := HIo.out.r.kt hk5
    have HBX5 : Hid _ := hk5 _ _ _ _ (by decide) (by decide) HBX.out
    have HB5 : Hid (Below w.heap.size w w5) := HIo.out.b.trans hb5
    have HF5 := (show Hid _ from HR5.out.freeze)
    obtain ⟨q, Hq⟩ := hid_ex (if fr = true then (7 : Int) else 0)
    rw [← Hq.out]
    have hqf : (q == 0) = !fr := by rw [Hq.out]; cases fr <;> rfl
    have hqb : ((!fr) == fr) = false := by cases fr <;> rfl
    clear hs5 hb5 hb5' hk5 hk5'
    refine hK.out _ _ ?_ (fun hHeld => ?_)
    · exact HF5.out.2.2.2.1
    clear hK K
    refine wpAnyH_take (i := 2) (v := .bool (!fr)) rfl (by as_aux_lemma => kernel_rfl) (by as_aux_lemma => kernel_rfl) (by as_aux_lemma => kernel_rfl) (fun _ _ _ h => h) (Or.inl ⟨by rfl, ?_⟩) (by assumption) ?_
    · (intro w1 hSw; (try dsimp only at hSw); go_simp)
    simp only [List.getElem_toArray, List.getElem_cons_succ, List.getElem_cons_zero, Act.put, List.setIfInBounds_toArray, List.set_cons_zero, List.set_cons_succ]
    refine wpAnyH_take (i := 7) (v := .bool false) rfl (by as_aux_lemma => kernel_rfl) (by as_aux_lemma => kernel_rfl) (by as_aux_lemma => kernel_rfl) (fun _ _ _ h => h) (Or.inl ⟨by rfl, ?_⟩) (by assumption) ?_
    · (intro w1 hSw; (try dsimp only at hSw); go_simp)
    simp only [List.getElem_toArray, List.getElem_cons_succ, List.getElem_cons_zero, Act.put, List.setIfInBounds_toArray, List.set_cons_zero, List.set_cons_succ]
    refine wpAnyH_done (by as_aux_lemma => kernel_rfl) ?_ _
    refine NoPanic.normal ?_
    clear hHeld
    have c1 := HF5.out.2.2.2.1
    have f1 := HF5.out.2.2.2.2
    have HFIN : Hid (LvI w w.heap.size L0 Y (n + 1) E true (w5.setCell ⟨Y, 1, none⟩ (.bool true))) := ⟨(HS5.out.ku HF5.out.2.1).sk, HF5.out.1, Nat.le_succ_of_le HIo.out.l, HB5.out.setCell HF5.out.2.2.1 _⟩
    have HBX6 : Hid _ := HF5.out.2.1 _ _ _ _ (by decide) (by decide) HBX5.out
    go_wp2_with fail
    go_meet
    exact ⟨E, true, HFIN.out, HBX6.out⟩
  case rest =>
    obtain ⟨E', fr', h1, h2⟩ := hcut
    exact HK.out _ _ _ _ _ _ _ _ _ _ _ _ _ _ _ _ _ _ _ _ _ _ _ _ _ _ _ _ _ _ _ _ _ _ _ _ _ _ _ _ _ _ _ _ _ _ _ _ _ _ _ _ _ _ _ _ _ _ _ _ _ _ _ _ _ _ _ _ _ _ _ _ _ _ _ _ _ _ _ _ _ _ _ _ _ _ _ _ _ _ _ _ _ _ _ _ _ _ _ _ _ _ _ _ _ _ _ _ _ _ _ _ _ _ _ _ _ _ _ _ _ _ _ _ _ _ _ _ _ _ _ _ _ _ _ _ _ _ _ _ _ _ _ _ _ _ _ _ _ _ _ _ _ _ _ _ _ _ _ _ _ _ _ _ _ _ _ _ _ _ _ _ _ _ _ _ _ _ _ _ _ _ _ _ _ _ _ _ _ _ _ _ _ _ _ _ _ _ _ _ _ _ _ _ E' fr' _ h1 h2
end Go.Proofs.Ytoibmjmajbkbcaa
