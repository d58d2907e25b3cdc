/- TSw, joined. -/
import Derived.Test.YtegcomopcoapjaaGreatDoorTG25
import Derived.Test.YtegcomopcoapjaaGreatDoorTG26
/- TopSegments' walk (written by mktsw.py). -/
namespace Go.Proofs.YtegcomopcoapjaaGreatDoor
open Go.RowKit Go.Shelf

set_option maxRecDepth 100000 in
set_option maxHeartbeats 40000000 in
theorem segments_walk (lv : Value) (LL : List (List Rc)) (fail ops : Int) (kv : Value) (ks : List Int) (W : World) (hl : RssR W lv LL) (hfail : fail < 9223372036854775808) (hK : KReads W kv ks) :
    Calls Tryz.prog 3 #[lv, .int .i64 fail, .int .i64 ops, kv] W fun e w' => e = .returned (.bool true) ∧ Below W.heap.size W w' := by
  obtain ⟨la, lc, rfl, hlm⟩ := hl.form
  obtain ⟨ka, kc, rfl, hmk⟩ : ∃ a cap, kv = .slice a ks.length cap ∧ ks.length ≤ maxLen := by
    obtain ⟨a, cap, h1, h2, _⟩ := hK
    exact ⟨a, cap, h1, h2⟩
  unfold maxLen at hlm hmk
  have HLL : Hid (RssR W (.slice la LL.length lc) LL) := hl
  have HK : Hid (KReads W (.slice ka ks.length kc) ks) := hK
  clear hl hK
  obtain ⟨ln, Hln⟩ := hid_ex LL.length
  rw [← Hln.out] at HLL hlm ⊢
  go_enter Tryz.func3, Tryz.ntmps3
  go_wp2_with fail
  refine (fs_new 1048576 _ (by omega) (by omega)).mono ?_
  rintro e w1 ⟨p, rfl, hf1, hb1⟩
  obtain ⟨g0, rfl⟩ := hf1.ptr
  have HF1 : Hid (Fs w1 (fun k => W.heap.size ≤ k ∧ k < w1.heap.size) (.pointer (some ⟨g0, 0, none⟩)) (sfZ 1048576)) := hf1
  have HB1 : Hid (Below W.heap.size W w1) := hb1
  clear hf1 hb1
  by_cases h6 : (6 : Int) < (ln : Int)
  · go_wp2_with fail
    refine (alive06_any _).mono ?_
    rintro e w2 ⟨rfl, hb2⟩
    go_wp2_with fail
    go_ret
    exact ⟨rfl, HB1.out.trans (hb2.mono HB1.out.size)⟩
  by_cases h100 : (100 : Int) < (ks.length : Int)
  · go_wp2_with fail
    refine (alive06_any _).mono ?_
    rintro e w2 ⟨rfl, hb2⟩
    go_wp2_with fail
    go_ret
    exact ⟨rfl, HB1.out.trans (hb2.mono HB1.out.size)⟩
  go_wp2_with fail
  refine (HF1.out.fail fail 82 hfail).mono ?_
  rintro e w2 ⟨rfl, hf2, ho2⟩
  have HT0 : Hid (TsL W (.pointer (some ⟨g0, 0, none⟩)) (.slice none 0 0) [] [] (Grw (fun k => W.heap.size ≤ k ∧ k < w1.heap.size) w1 w2) w2) := by
    have hz := HB1.out.size
    refine ⟨_, fun _ => 0, fun _ => False, ⟨hf2, fun k hk => ?_, fun k hk => hk.elim, rfl, fun i h => by simp at h, GOwn.nil _ _ _, fun k hk => by simp [Value.ownBlock] at hk, HB1.out.trans (ho2.below hz (fun k hk => hk.1))⟩, seg_fail (seg_zero _ _) _ _, fun j h => by simp at h, ⟨fun D hD => by simp at hD, fun D hD => by simp at hD, fun D hD => by simp at hD⟩⟩
    rcases hk with q | q
    · exact q.1
    · omega
  clear hf2 ho2 HF1
  generalize (Grw (fun k => W.heap.size ≤ k ∧ k < w1.heap.size) w1 w2) = O2 at HT0
  generalize (sfFail (sfZ 1048576) fail 82).1 = EF
  go_wp2_with fail
  go_loopw [11, 12] (fun a i wr => ∃ (t : Nat) (vs : List Value) (Ds : List (List Rc)) (O : Nat → Prop), i = .int .i64 (t : Int) ∧ t ≤ ln ∧ Hid (Ds.length = t) ∧ Hid (TsL W (.pointer (some ⟨g0, 0, none⟩)) a vs Ds O wr)) (fun _ i _ => ln - (intOf i).toNat)
  case atStart => exact ⟨0, [], [], O2, rfl, by omega, rfl, HT0⟩
  case round =>
    rename_i K0 hK0
    have TL : Hid (∀ (x0 x1 x4 x5 x6 x7 x8 x10 x12 x13 x14 x15 x16 x17 x18 x19 x20 x21 x22 x23 x24 x25 x26 x27 x28 x29 x30 x31 x32 x33 x34 x35 x36 x37 x38 x39 x40 x41 x42 x43 x44 x45 x46 x47 x48 x49 x50 x51 x52 x53 x54 x55 x56 x57 x58 x59 x60 x61 x62 x63 x64 x65 x66 x67 x68 x69 x70 x71 x72 x73 x74 x75 x76 x77 x78 x79 x80 x81 x82 x83 x84 x85 x86 x87 x88 x89 x90 x91 x92 x93 x94 x95 x96 x97 x98 x99 x100 x101 x102 x103 x104 x105 x106 x107 x108 x109 x110 x111 x112 x113 x114 x115 x116 x117 x118 x119 x120 x121 x122 x123 x124 x125 x126 x127 x128 x129 x130 x131 x132 x133 x134 x135 x136 x137 x138 x139 x140 x141 x142 x143 x144 x145 x146 x147 x148 x149 x150 x151 x152 x153 x154 x155 x156 x157 x158 x159 x160 x161 x162 x163 x164 x165 x166 x167 x168 x169 x170 x171 x172 x173 x174 x175 x176 x177 x178 : Value) (xa : Option Addr) (T xc : Nat) (vs : List Value) (Ds : List (List Rc)) (O : Nat → Prop) (w : World), T ≤ 6 → Hid (Ds.length = T) → Hid (TsD W (.pointer (some ⟨g0, 0, none⟩)) (.slice xa T xc) vs Ds O w) → K0 { tmps := #[x0, x1, .int .i64 ops, .slice ka ks.length kc, x4, x5, x6, x7, x8, .pointer (some ⟨g0, 0, none⟩), x10, .slice xa T xc, x12, x13, x14, x15, x16, x17, x18, x19, x20, x21, x22, x23, x24, x25, x26, x27, x28, x29, x30, x31, x32, x33, x34, x35, x36, x37, x38, x39, x40, x41, x42, x43, x44, x45, x46, x47, x48, x49, x50, x51, x52, x53, x54, x55, x56, x57, x58, x59, x60, x61, x62, x63, x64, x65, x66, x67, x68, x69, x70, x71, x72, x73, x74, x75, x76, x77, x78, x79, x80, x81, x82, x83, x84, x85, x86, x87, x88, x89, x90, x91, x92, x93, x94, x95, x96, x97, x98, x99, x100, x101, x102, x103, x104, x105, x106, x107, x108, x109, x110, x111, x112, x113, x114, x115, x116, x117, x118, x119, x120, x121, x122, x123, x124, x125, x126, x127, x128, x129, x130, x131, x132, x133, x134, x135, x136, x137, x138, x139, x140, x141, x142, x143, x144, x145, x146, x147, x148, x149, x150, x151, x152, x153, x154, x155, x156, x157, x158, x159, x160, x161, x162, x163, x164, x165, x166, x167, x168, x169, x170, x171, x172, x173, x174, x175, x176, x177, x178], defers := [] } w) := by
      intro x0 x1 x4 x5 x6 x7 x8 x10 x12 x13 x14 x15 x16 x17 x18 x19 x20 x21 x22 x23 x24 x25 x26 x27 x28 x29 x30 x31 x32 x33 x34 x35 x36 x37 x38 x39 x40 x41 x42 x43 x44 x45 x46 x47 x48 x49 x50 x51 x52 x53 x54 x55 x56 x57 x58 x59 x60 x61 x62 x63 x64 x65 x66 x67 x68 x69 x70 x71 x72 x73 x74 x75 x76 x77 x78 x79 x80 x81 x82 x83 x84 x85 x86 x87 x88 x89 x90 x91 x92 x93 x94 x95 x96 x97 x98 x99 x100 x101 x102 x103 x104 x105 x106 x107 x108 x109 x110 x111 x112 x113 x114 x115 x116 x117 x118 x119 x120 x121 x122 x123 x124 x125 x126 x127 x128 x129 x130 x131 x132 x133 x134 x135 x136 x137 x138 x139 x140 x141 x142 x143 x144 x145 x146 x147 x148 x149 x150 x151 x152 x153 x154 x155 x156 x157 x158 x159 x160 x161 x162 x163 x164 x165 x166 x167 x168 x169 x170 x171 x172 x173 x174 x175 x176 x177 x178 xa T xc vs Ds O w hT6 HTl HD
      refine hK0 _ _ ?_
      go_wp2_with fail
      refine (ts_crash HD.out ops _ ks HK.out).mono ?_
      rintro e w5 ⟨rfl, hc5⟩
      have HC5 : Hid (TsC W (.pointer (some ⟨g0, 0, none⟩)) (.slice xa T xc) (vs) (Ds) w5) := hc5
      clear hc5 HD
      go_wp2_with fail
      go_loopw [17] (fun i wr => ∃ j : Nat, i = .int .i64 (j : Int) ∧ j ≤ T ∧ Hid (TsC W (.pointer (some ⟨g0, 0, none⟩)) (.slice xa T xc) (vs) (Ds) wr)) (fun i _ => T - (intOf i).toNat)
      case atStart => exact ⟨0, rfl, by omega, HC5⟩
      case round =>
        obtain ⟨j, rfl, hj, HC⟩ := hrel
        by_cases hjt : j < T
        · have hjt' : (j : Int) < (T : Int) := by omega
          have hjd : j < (Ds).length := by rw [HTl.out]; exact hjt
          obtain ⟨D2, HD2⟩ := hid_ex (Ds)[j]
          have HRp := ts_replay HC.out j hjd (by rw [HTl.out]; exact hT6) HD2.out
          go_wp2_with fail
          refine HRp.mono ?_
          rintro e w6 ⟨rv, R, rfl, hr, hle, heq, hq, hb6⟩
          have HC6 : Hid (TsC W (.pointer (some ⟨g0, 0, none⟩)) (.slice xa T xc) (vs) (Ds) w6) := HC.out.below hb6
          obtain ⟨ga, ea, ecp, rfl, hga, hce, hre, hec⟩ := ts_at HC6.out j hjd HD2.out
          obtain ⟨ra, rcp, hrv, _⟩ := hr.form
          subst hrv
          have HRb : Hid (R.length ≤ 100000) := by
            unfold Hid
            obtain ⟨_, _, _, _, h2, _⟩ := HC6.out
            have := h2.l D2 (by rw [HD2.out]; exact List.getElem_mem hjd)
            omega
          have HTb : Hid ((D2.take R.length).length ≤ 100000) := by unfold Hid; rw [List.length_take]; have := HRb.out; omega
          have HT6 : Hid (RsR w6 (.slice ea R.length ecp) (D2.take R.length)) := hre.take hle
          have HR6 : Hid (RsR w6 (.slice ra R.length rcp) R) := hr
          have HRq : Hid (R.map Rc.q = (D2.take R.length).map Rc.q) := hq
          have HGa : Hid (ga < w6.heap.size) := hga
          obtain ⟨rn, Hrn⟩ := hid_ex R.length
          obtain ⟨dl, Hdl⟩ := hid_ex D2.length
          have HCe : Hid (w6.cell? ⟨ga, j, none⟩ = some (.slice ea dl ecp)) := by unfold Hid; rw [Hdl.out]; exact hce
          rw [← Hrn.out] at HTb HT6 HR6 HRq hle heq
          rw [← Hrn.out]
          rw [← Hdl.out] at hle heq hec
          rw [HTl.out] at heq
          have c0 := HCe.out
          have hrd : rn ≤ dl := hle
          have hrc : rn ≤ ecp := by omega
          have hsl := fun w => rsl_upto ea dl ecp rn hrc w
          have k1 : ¬ (dl : Int) < (rn : Int) := by omega
          clear hr hq hb6 HRp hce hre hga HC hle
          by_cases hlast : j + 1 < T
          · have k2 : (j : Int) + 1 < (T : Int) := by omega
            have k3 : ¬ (rn : Int) < (dl : Int) := by have := heq hlast; omega
            clear heq
            go_wp2_with fail
            refine wp_region_noPanic ?_
            refine wp_region_held_drew (S := (fun w' => Below w6.heap.size w6 w')) (by kernel_rfl) ?_ (fun hHeld => ?_)
            · exact (Below.refl _ _).drew
            refine wpAnyH_take (i := 0) (v := .slice ra rn rcp) rfl (by kernel_rfl) (by kernel_rfl) (by kernel_rfl) (fun _ _ _ h => h) (Or.inl ⟨by rfl, ?_⟩) (by assumption) ?_
            · (intro w1 hSw; (try dsimp only at hSw); go_simp)
            simp only [List.getElem_toArray, List.getElem_cons_zero, Act.put, List.setIfInBounds_toArray, List.set_cons_zero, List.set_cons_succ]
            refine wpAnyH_take (i := 2) (v := .slice (some ⟨ga, 0, none⟩) T xc) rfl (by kernel_rfl) (by kernel_rfl) (by kernel_rfl) (fun _ _ _ h => h) (Or.inl ⟨by rfl, ?_⟩) (by assumption) ?_
            · (intro w1 hSw; (try dsimp only at hSw); go_simp)
            simp only [List.getElem_toArray, List.getElem_cons_succ, List.getElem_cons_zero, Act.put, List.setIfInBounds_toArray, List.set_cons_zero, List.set_cons_succ]
            refine wpAnyH_take (i := 3) (v := .int .i64 (j : Int)) rfl (by kernel_rfl) (by kernel_rfl) (by kernel_rfl) (fun _ _ _ h => h) (Or.inl ⟨by rfl, ?_⟩) (by assumption) ?_
            · (intro w1 hSw; (try dsimp only at hSw); go_simp)
            simp only [List.getElem_toArray, List.getElem_cons_succ, List.getElem_cons_zero, Act.put, List.setIfInBounds_toArray, List.set_cons_zero, List.set_cons_succ]
            refine wpAnyH_take (i := 4) (v := .pointer (some ⟨ga, j, none⟩)) rfl (by kernel_rfl) (by kernel_rfl) (by kernel_rfl) (fun _ _ _ h => h) (Or.inl ⟨by rfl, ?_⟩) (by assumption) ?_
            · (intro w1 hSw; (try dsimp only at hSw); go_simp)
            simp only [List.getElem_toArray, List.getElem_cons_succ, List.getElem_cons_zero, Act.put, List.setIfInBounds_toArray, List.set_cons_zero, List.set_cons_succ]
            refine wpAnyH_take (i := 5) (v := .slice ea dl ecp) rfl (by kernel_rfl) (by kernel_rfl) (by kernel_rfl) (fun _ _ _ h => h) (Or.inl ⟨by rfl, ?_⟩) (by assumption) ?_
            · (intro w1 hSw; (try dsimp only at hSw); have h0 := (hSw.cell (p := ⟨ga, j, none⟩) HGa.out).trans HCe.out; go_simp)
            simp only [List.getElem_toArray, List.getElem_cons_succ, List.getElem_cons_zero, Act.put, List.setIfInBounds_toArray, List.set_cons_zero, List.set_cons_succ]
            refine wpAnyH_take (i := 6) (v := .slice ra rn rcp) rfl (by kernel_rfl) (by kernel_rfl) (by kernel_rfl) (fun _ _ _ h => h) (Or.inl ⟨by rfl, ?_⟩) (by assumption) ?_
            · (intro w1 hSw; (try dsimp only at hSw); go_simp)
            simp only [List.getElem_toArray, List.getElem_cons_succ, List.getElem_cons_zero, Act.put, List.setIfInBounds_toArray, List.set_cons_zero, List.set_cons_succ]
            refine wpAnyH_take (i := 7) (v := .int .i64 (rn : Int)) rfl (by kernel_rfl) (by kernel_rfl) (by kernel_rfl) (fun _ _ _ h => h) (Or.inl ⟨by rfl, ?_⟩) (by assumption) ?_
            · (intro w1 hSw; (try dsimp only at hSw); go_simp)
            simp only [List.getElem_toArray, List.getElem_cons_succ, List.getElem_cons_zero, Act.put, List.setIfInBounds_toArray, List.set_cons_zero, List.set_cons_succ]
            refine wpAnyH_take (i := 8) (v := .slice ea rn ecp) rfl (by kernel_rfl) (by kernel_rfl) (by kernel_rfl) (fun _ _ _ h => h) (Or.inl ⟨by rfl, ?_⟩) (by assumption) ?_
            · (intro w1 hSw; (try dsimp only at hSw); go_simp; all_goals (intro hh; omega))
            simp only [List.getElem_toArray, List.getElem_cons_succ, List.getElem_cons_zero, Act.put, List.setIfInBounds_toArray, List.set_cons_zero, List.set_cons_succ]
            refine wpAnyH_ready (rs := [1]) (by kernel_rfl) (by simp) ?_
            refine AllReadyH.cons (o := _) rfl (fun K hK => ?_) AllReadyH.nil
            go_simp
            refine (asAll_any _ R HRb.out _ (HR6.out.below (Below.refl _ _).drew)).mono ?_
            rintro e w11 ⟨av1, rfl, hra, hb11⟩
            have HB11 : Hid (Below w6.heap.size w6 w11) := (Below.refl w6.heap.size w6).drew.trans hb11
            have HRA : Hid (RsR w11 av1 R) := hra
            clear hb11 hra
            refine hK.out _ _ ?_ (fun hHeld => ?_)
            · exact HB11.out
            clear hK K
            refine wpAnyH_ready (rs := [9]) (by kernel_rfl) (by simp) ?_
            refine AllReadyH.cons (o := _) rfl (fun K hK => ?_) AllReadyH.nil
            go_simp
            refine (asAll_any (.slice ea rn ecp) (D2.take rn) HTb.out _ (HT6.out.below HB11.out)).mono ?_
            rintro e w12 ⟨qv, rfl, hrb, hb12⟩
            have HB12 : Hid (Below w6.heap.size w6 w12) := HB11.out.trans (hb12.mono HB11.out.size)
            have HSm : Hid (Calls Tryz.prog 13 #[av1, qv] w12 fun e w' => e = .returned (.bool true) ∧ Below w12.heap.size w12 w') := sameAll_true av1 qv R (D2.take rn) HRq.out w12 (HRA.out.below hb12) hrb
            clear hb12 hrb
            refine hK.out _ _ ?_ (fun hHeld => ?_)
            · exact HB12.out
            clear hK K
            refine wpAnyH_ready (rs := [10]) (by kernel_rfl) (by simp) ?_
            refine AllReadyH.cons (o := _) rfl (fun K hK => ?_) AllReadyH.nil
            go_simp
            refine HSm.out.mono ?_
            rintro e w13 ⟨rfl, hb13⟩
            have HB13 : Hid (Below w6.heap.size w6 w13) := HB12.out.trans (hb13.mono HB12.out.size)
            clear hb13
            refine hK.out _ _ ?_ (fun hHeld => ?_)
            · exact HB13.out
            clear hK K
            refine wpAnyH_take (i := 11) (v := .bool false) rfl (by kernel_rfl) (by kernel_rfl) (by kernel_rfl) (fun _ _ _ h => h) (Or.inl ⟨by rfl, ?_⟩) (by assumption) ?_
            · (intro w1 hSw; (try dsimp only at hSw); go_simp)
            simp only [List.getElem_toArray, List.getElem_cons_succ, List.getElem_cons_zero, Act.put, List.setIfInBounds_toArray, List.set_cons_zero, List.set_cons_succ]
            refine wpAnyH_done (by kernel_rfl) ?_ _
            refine NoPanic.normal ?_
            go_wp2_with fail
            go_roundw
            case rel => exact ⟨j + 1, by go_num, by omega, HC6.out.below HB13.out⟩
            case measure => simp [intOf]; omega
          · have k2 : ¬ (j : Int) + 1 < (T : Int) := by omega
            clear heq
            go_wp2_with fail
            refine wp_region_noPanic ?_
            refine wp_region_held_drew (S := (fun w' => Below w6.heap.size w6 w')) (by kernel_rfl) ?_ (fun hHeld => ?_)
            · exact (Below.refl _ _).drew
            refine wpAnyH_take (i := 0) (v := .slice ra rn rcp) rfl (by kernel_rfl) (by kernel_rfl) (by kernel_rfl) (fun _ _ _ h => h) (Or.inl ⟨by rfl, ?_⟩) (by assumption) ?_
            · (intro w1 hSw; (try dsimp only at hSw); go_simp)
            simp only [List.getElem_toArray, List.getElem_cons_zero, Act.put, List.setIfInBounds_toArray, List.set_cons_zero, List.set_cons_succ]
            refine wpAnyH_take (i := 2) (v := .slice (some ⟨ga, 0, none⟩) T xc) rfl (by kernel_rfl) (by kernel_rfl) (by kernel_rfl) (fun _ _ _ h => h) (Or.inl ⟨by rfl, ?_⟩) (by assumption) ?_
            · (intro w1 hSw; (try dsimp only at hSw); go_simp)
            simp only [List.getElem_toArray, List.getElem_cons_succ, List.getElem_cons_zero, Act.put, List.setIfInBounds_toArray, List.set_cons_zero, List.set_cons_succ]
            refine wpAnyH_take (i := 3) (v := .int .i64 (j : Int)) rfl (by kernel_rfl) (by kernel_rfl) (by kernel_rfl) (fun _ _ _ h => h) (Or.inl ⟨by rfl, ?_⟩) (by assumption) ?_
            · (intro w1 hSw; (try dsimp only at hSw); go_simp)
            simp only [List.getElem_toArray, List.getElem_cons_succ, List.getElem_cons_zero, Act.put, List.setIfInBounds_toArray, List.set_cons_zero, List.set_cons_succ]
            refine wpAnyH_take (i := 4) (v := .pointer (some ⟨ga, j, none⟩)) rfl (by kernel_rfl) (by kernel_rfl) (by kernel_rfl) (fun _ _ _ h => h) (Or.inl ⟨by rfl, ?_⟩) (by assumption) ?_
            · (intro w1 hSw; (try dsimp only at hSw); go_simp)
            simp only [List.getElem_toArray, List.getElem_cons_succ, List.getElem_cons_zero, Act.put, List.setIfInBounds_toArray, List.set_cons_zero, List.set_cons_succ]
            refine wpAnyH_take (i := 5) (v := .slice ea dl ecp) rfl (by kernel_rfl) (by kernel_rfl) (by kernel_rfl) (fun _ _ _ h => h) (Or.inl ⟨by rfl, ?_⟩) (by assumption) ?_
            · (intro w1 hSw; (try dsimp only at hSw); have h0 := (hSw.cell (p := ⟨ga, j, none⟩) HGa.out).trans HCe.out; go_simp)
            simp only [List.getElem_toArray, List.getElem_cons_succ, List.getElem_cons_zero, Act.put, List.setIfInBounds_toArray, List.set_cons_zero, List.set_cons_succ]
            refine wpAnyH_take (i := 6) (v := .slice ra rn rcp) rfl (by kernel_rfl) (by kernel_rfl) (by kernel_rfl) (fun _ _ _ h => h) (Or.inl ⟨by rfl, ?_⟩) (by assumption) ?_
            · (intro w1 hSw; (try dsimp only at hSw); go_simp)
            simp only [List.getElem_toArray, List.getElem_cons_succ, List.getElem_cons_zero, Act.put, List.setIfInBounds_toArray, List.set_cons_zero, List.set_cons_succ]
            refine wpAnyH_take (i := 7) (v := .int .i64 (rn : Int)) rfl (by kernel_rfl) (by kernel_rfl) (by kernel_rfl) (fun _ _ _ h => h) (Or.inl ⟨by rfl, ?_⟩) (by assumption) ?_
            · (intro w1 hSw; (try dsimp only at hSw); go_simp)
            simp only [List.getElem_toArray, List.getElem_cons_succ, List.getElem_cons_zero, Act.put, List.setIfInBounds_toArray, List.set_cons_zero, List.set_cons_succ]
            refine wpAnyH_take (i := 8) (v := .slice ea rn ecp) rfl (by kernel_rfl) (by kernel_rfl) (by kernel_rfl) (fun _ _ _ h => h) (Or.inl ⟨by rfl, ?_⟩) (by assumption) ?_
            · (intro w1 hSw; (try dsimp only at hSw); go_simp; all_goals (intro hh; omega))
            simp only [List.getElem_toArray, List.getElem_cons_succ, List.getElem_cons_zero, Act.put, List.setIfInBounds_toArray, List.set_cons_zero, List.set_cons_succ]
            refine wpAnyH_ready (rs := [1]) (by kernel_rfl) (by simp) ?_
            refine AllReadyH.cons (o := _) rfl (fun K hK => ?_) AllReadyH.nil
            go_simp
            refine (asAll_any _ R HRb.out _ (HR6.out.below (Below.refl _ _).drew)).mono ?_
            rintro e w11 ⟨av1, rfl, hra, hb11⟩
            have HB11 : Hid (Below w6.heap.size w6 w11) := (Below.refl w6.heap.size w6).drew.trans hb11
            have HRA : Hid (RsR w11 av1 R) := hra
            clear hb11 hra
            refine hK.out _ _ ?_ (fun hHeld => ?_)
            · exact HB11.out
            clear hK K
            refine wpAnyH_ready (rs := [9]) (by kernel_rfl) (by simp) ?_
            refine AllReadyH.cons (o := _) rfl (fun K hK => ?_) AllReadyH.nil
            go_simp
            refine (asAll_any (.slice ea rn ecp) (D2.take rn) HTb.out _ (HT6.out.below HB11.out)).mono ?_
            rintro e w12 ⟨qv, rfl, hrb, hb12⟩
            have HB12 : Hid (Below w6.heap.size w6 w12) := HB11.out.trans (hb12.mono HB11.out.size)
            have HSm : Hid (Calls Tryz.prog 13 #[av1, qv] w12 fun e w' => e = .returned (.bool true) ∧ Below w12.heap.size w12 w') := sameAll_true av1 qv R (D2.take rn) HRq.out w12 (HRA.out.below hb12) hrb
            clear hb12 hrb
            refine hK.out _ _ ?_ (fun hHeld => ?_)
            · exact HB12.out
            clear hK K
            refine wpAnyH_ready (rs := [10]) (by kernel_rfl) (by simp) ?_
            refine AllReadyH.cons (o := _) rfl (fun K hK => ?_) AllReadyH.nil
            go_simp
            refine HSm.out.mono ?_
            rintro e w13 ⟨rfl, hb13⟩
            have HB13 : Hid (Below w6.heap.size w6 w13) := HB12.out.trans (hb13.mono HB12.out.size)
            clear hb13
            refine hK.out _ _ ?_ (fun hHeld => ?_)
            · exact HB13.out
            clear hK K
            refine wpAnyH_take (i := 11) (v := .bool false) rfl (by kernel_rfl) (by kernel_rfl) (by kernel_rfl) (fun _ _ _ h => h) (Or.inl ⟨by rfl, ?_⟩) (by assumption) ?_
            · (intro w1 hSw; (try dsimp only at hSw); go_simp)
            simp only [List.getElem_toArray, List.getElem_cons_succ, List.getElem_cons_zero, Act.put, List.setIfInBounds_toArray, List.set_cons_zero, List.set_cons_succ]
            refine wpAnyH_done (by kernel_rfl) ?_ _
            refine NoPanic.normal ?_
            go_wp2_with fail
            go_roundw
            case rel => exact ⟨j + 1, by go_num, by omega, HC6.out.below HB13.out⟩
            case measure => simp [intOf]; omega
        · have hjt' : ¬ (j : Int) < (T : Int) := by omega
          go_wp2_with fail
          refine (alive06_any _).mono ?_
          rintro e w9 ⟨rfl, hb9⟩
          go_wp2_with fail
          go_ret
          exact ⟨rfl, (HC.out.below hb9).be⟩
    clear hK0
    obtain ⟨t, vs, Ds, O, rfl, ht, Ht, HT⟩ := hrel
    obtain ⟨xa, xc, hxv, -⟩ := GOwn.form HT.out.al
    rw [Ht.out] at hxv
    subst hxv
    by_cases hlt : t < ln
    · have hlt' : (t : Int) < (ln : Int) := by omega
      have HSt := ts_start HT.out (by rw [Ht.out]; omega)
      rw [Ht.out] at HSt
      have htL : t < LL.length := by rw [← Hln.out]; exact hlt
      obtain ⟨L, HL⟩ := hid_ex LL[t]
      obtain ⟨b, off, u, rfl, hbw, hcw, hrl⟩ := HLL.out.at htL HL.out
      obtain ⟨ia, ic, hiv, him⟩ := hrl.form
      subst hiv
      unfold maxLen at him
      obtain ⟨il, Hil⟩ := hid_ex L.length
      rw [← Hil.out] at hcw hrl him
      have HCt : Hid (W.cell? ⟨b, off + t, none⟩ = some (.slice ia il ic)) := hcw
      have HRl : Hid (RsR W (.slice ia il ic) L) := hrl
      have HBw : Hid (b < W.heap.size) := hbw
      clear hcw hrl hbw HL
      go_wp2_with fail
      refine HSt.mono ?_
      rintro e w3 (⟨E3, O3, hE3, rfl, hd3⟩ | ⟨g, O3, rfl, hp3⟩)
      · have hE3' : (E3 != 0) = true := by simpa using hE3
        have HD : Hid (TsD W (.pointer (some ⟨g0, 0, none⟩)) (.slice xa t xc) vs Ds O3 w3) := hd3
        have hT6 : t ≤ 6 := by omega
        clear hd3 HSt
        go_wp2_with fail
        exact TL.out _ _ _ _ _ _ _ _ _ _ _ _ _ _ _ _ _ _ _ _ _ _ _ _ _ _ _ _ _ _ _ _ _ _ _ _ _ _ _ _ _ _ _ _ _ _ _ _ _ _ _ _ _ _ _ _ _ _ _ _ _ _ _ _ _ _ _ _ _ _ _ _ _ _ _ _ _ _ _ _ _ _ _ _ _ _ _ _ _ _ _ _ _ _ _ _ _ _ _ _ _ _ _ _ _ _ _ _ _ _ _ _ _ _ _ _ _ _ _ _ _ _ _ _ _ _ _ _ _ _ _ _ _ _ _ _ _ _ _ _ _ _ _ _ _ _ _ _ _ _ _ _ _ _ _ _ _ _ _ _ _ _ _ _ _ _ _ _ _ _ _ _ _ _ _ _ _ _ _ _ _ _ hT6 Ht HD
      · have HP0 : Hid (TsP W (.pointer (some ⟨g0, 0, none⟩)) (.slice xa t xc) vs Ds g (.slice none 0 0) [] [] O3 w3) := hp3
        clear hp3 HSt HT
        go_wp2_with fail
        go_loopw [14, 15, 16] (fun gv dv kv wi => ∃ (k : Nat) (E : Int) (D : List Rc) (O : Nat → Prop), gv = .int .i64 E ∧ kv = .int .i64 (k : Int) ∧ k ≤ 12 ∧ D.length ≤ k ∧ Hid (TsP W (.pointer (some ⟨g0, 0, none⟩)) (.slice xa t xc) vs Ds g dv D D O wi)) (fun _ _ kv _ => 12 - (intOf kv).toNat)
        case atStart => exact ⟨0, 0, [], O3, rfl, rfl, by omega, by simp, HP0⟩
        case round =>
          obtain ⟨k, E, D, O, rfl, rfl, hk12, hDk, HP⟩ := hrel
          obtain ⟨da, dc, hdv, -⟩ := GOwn.form HP.out.dn
          obtain ⟨dl, Hdl⟩ := hid_ex D.length
          rw [← Hdl.out] at hdv
          subst hdv
          have ci := (HP.out.be.cell (p := ⟨b, off + t, none⟩) HBw.out).trans HCt.out
          by_cases hkl : k < il
          · have i1 : (k : Int) < (il : Int) := by omega
            by_cases hk : k < 12
            · have i2 : (k : Int) < 12 := by omega
              by_cases hE : E = 0
              · subst hE
                obtain ⟨x, Hx⟩ := hid_ex (L[k]'(by rw [← Hil.out]; exact hkl))
                obtain ⟨b2, o2, rfl, hb2, c0, c1, hok⟩ := HRl.out.two (by rw [← Hil.out]; exact hkl) Hx.out
                obtain ⟨ya, yc, hyv, _⟩ := hok.f.form
                have HOk : Hid (RcOk W x) := hok
                have HXs : Hid (∃ a n c, x.v = .slice a n c) := hok.slice
                have HGr : Hid (∀ w, RcOk w x → Calls Tryz.prog 8 #[x.val] w (GrPost w)) := fun w hw => great_any x w hw
                have HAd : Hid (∀ w, TsP W (.pointer (some ⟨g0, 0, none⟩)) (.slice xa t xc) vs Ds g (.slice da dl dc) D D O w → Calls Tryz.prog 9 #[.pointer (some ⟨g, 0, none⟩), x.val] w fun e w' => ∃ E O', e = .returned (.int .i64 E) ∧ ((E = 0 ∧ TsP W (.pointer (some ⟨g0, 0, none⟩)) (.slice xa t xc) vs Ds g (.slice da dl dc) D (D ++ [x]) O' w') ∨ (E ≠ 0 ∧ TsP W (.pointer (some ⟨g0, 0, none⟩)) (.slice xa t xc) vs Ds g (.slice da dl dc) D D O' w'))) := fun w hw => ts_add hw x HOk.out
                have HXv2 : Hid (x.val = .agg #[.slice ya x.fs.length yc, .int .i64 x.m]) := by unfold Hid Rc.val; rw [hyv]
                rw [HXv2.out] at HGr HAd
                rw [hyv] at c0
                have HXv : Hid (x.v = .slice ya x.fs.length yc) := hyv
                have HC0 : Hid (W.cell? ⟨b2, o2 + k * 2, none⟩ = some (.slice ya x.fs.length yc)) := c0
                have HC1 : Hid (W.cell? ⟨b2, o2 + k * 2 + 1, none⟩ = some (.int .i64 x.m)) := c1
                have HBw2 : Hid (b2 < W.heap.size) := hb2
                generalize x.fs.length = xn at *
                obtain ⟨xm, HXm⟩ := hid_ex x.m
                rw [← HXm.out] at HC1 HGr HAd
                clear hok hyv c0 c1 HXv2 Hx hb2
                have c0 := (HP.out.be.cell (p := ⟨b2, o2 + k * 2, none⟩) HBw2.out).trans HC0.out
                have c1 := (HP.out.be.cell (p := ⟨b2, o2 + k * 2 + 1, none⟩) HBw2.out).trans HC1.out
                go_wp2_with fail
                refine (HGr.out _ (HOk.out.below HP.out.be)).mono ?_
                rintro e w4 ⟨gb, rfl, hb4⟩
                have HP4 : Hid (TsP W (.pointer (some ⟨g0, 0, none⟩)) (.slice xa t xc) vs Ds g (.slice da dl dc) D D O w4) := HP.out.below hb4
                clear hb4 HGr c0 c1 ci HP
                cases gb with
                | true =>
                  go_wp2_with fail
                  refine (alive06_any _).mono ?_
                  rintro e w5 ⟨rfl, hb5⟩
                  go_wp2_with fail
                  go_ret
                  exact ⟨rfl, (HP4.out.below hb5).be⟩
                | false =>
                  have ci := (HP4.out.be.cell (p := ⟨b, off + t, none⟩) HBw.out).trans HCt.out
                  have c0 := (HP4.out.be.cell (p := ⟨b2, o2 + k * 2, none⟩) HBw2.out).trans HC0.out
                  have c1 := (HP4.out.be.cell (p := ⟨b2, o2 + k * 2 + 1, none⟩) HBw2.out).trans HC1.out
                  go_wp2_with fail
                  refine (HAd.out _ HP4.out).mono ?_
                  rintro e w5 ⟨E5, O5, rfl, hq5⟩
                  clear ci c0 c1 HP4 HAd
                  rcases hq5 with ⟨rfl, hq5⟩ | ⟨hE5, hq5⟩
                  · have HP5 : Hid (TsP W (.pointer (some ⟨g0, 0, none⟩)) (.slice xa t xc) vs Ds g (.slice da dl dc) D (D ++ [x]) O5 w5) := hq5
                    have ci := (HP5.out.be.cell (p := ⟨b, off + t, none⟩) HBw.out).trans HCt.out
                    have c0 := (HP5.out.be.cell (p := ⟨b2, o2 + k * 2, none⟩) HBw2.out).trans HC0.out
                    have c1 := (HP5.out.be.cell (p := ⟨b2, o2 + k * 2 + 1, none⟩) HBw2.out).trans HC1.out
                    obtain ⟨v8, w8, hrun, hi8⟩ := ts_app HP5.out 33 x HXs.out (by omega)
                    rw [HXv.out, ← HXm.out] at hrun
                    have HP8 : Hid (TsP W (.pointer (some ⟨g0, 0, none⟩)) (.slice xa t xc) vs Ds g v8 (D ++ [x]) (D ++ [x]) O5 w8) := hi8
                    have hdl8 : (D ++ [x]).length ≤ k + 1 := by rw [List.length_append]; simp; omega
                    clear hq5 hi8
                    go_wp2_with (at_builtin; refine wpList_app_runG rfl _ _ 33 33 rfl rfl _ _ _ rfl rfl hrun ?_)
                    go_roundw
                    case rel => exact ⟨k + 1, 0, D ++ [x], O5, rfl, by go_num, by omega, hdl8, HP8⟩
                    case measure => simp [intOf]; omega
                  · have HP5 : Hid (TsP W (.pointer (some ⟨g0, 0, none⟩)) (.slice xa t xc) vs Ds g (.slice da dl dc) D D O5 w5) := hq5
                    have hE5' : (E5 == 0) = false := by simpa using hE5
                    clear hq5
                    by_cases h90 : E5 = 90
                    · subst h90
                      go_wp2_with fail
                      refine (alive06_any _).mono ?_
                      rintro e w6 ⟨rfl, hb6⟩
                      go_wp2_with fail
                      go_ret
                      exact ⟨rfl, (HP5.out.below hb6).be⟩
                    · have h90' : (E5 == 90) = false := by simpa using h90
                      go_wp2_with fail
                      go_roundw
                      case rel => exact ⟨k + 1, E5, D, O5, rfl, by go_num, by omega, by omega, HP5⟩
                      case measure => simp [intOf]; omega
              · have hE' : (E == 0) = false := by simpa using hE
                have hE2 : (E != 0) = true := by simpa using hE
                obtain ⟨v8, w8, hrun, hq8⟩ := ts_close HP.out 22 (by omega) (by have := Ht.out; omega)
                have HQ8 : Hid (TsQ W (.pointer (some ⟨g0, 0, none⟩)) v8 (vs ++ [.slice da dl dc]) Ds D g O w8) := hq8
                clear hq8 HP
                have HTl : Hid ((Ds ++ [D]).length = t + 1) := by unfold Hid; rw [List.length_append, Ht.out]; rfl
                obtain ⟨T, HTd⟩ := hid_ex (t + 1)
                rw [← HTd.out] at HTl
                have hT6 : T ≤ 6 := by rw [HTd.out]; omega
                have HD : Hid (TsD W (.pointer (some ⟨g0, 0, none⟩)) v8 (vs ++ [.slice da dl dc]) (Ds ++ [D]) O w8) := HQ8.out.d
                obtain ⟨xa, xc, hxv, -⟩ : ∃ a c, v8 = .slice a (Ds ++ [D]).length c ∧ True := by
                  obtain ⟨s, sy, X, q1, _⟩ := HD.out
                  obtain ⟨a, c, q2, -⟩ := GOwn.form q1.al
                  rw [q1.vl] at q2
                  exact ⟨a, c, q2, trivial⟩
                rw [HTl.out] at hxv
                subst hxv
                clear HQ8
                go_wp2_with (at_builtin; refine wpList_app_runG rfl _ _ 22 22 rfl rfl _ _ _ rfl rfl hrun ?_)
                exact TL.out _ _ _ _ _ _ _ _ _ _ _ _ _ _ _ _ _ _ _ _ _ _ _ _ _ _ _ _ _ _ _ _ _ _ _ _ _ _ _ _ _ _ _ _ _ _ _ _ _ _ _ _ _ _ _ _ _ _ _ _ _ _ _ _ _ _ _ _ _ _ _ _ _ _ _ _ _ _ _ _ _ _ _ _ _ _ _ _ _ _ _ _ _ _ _ _ _ _ _ _ _ _ _ _ _ _ _ _ _ _ _ _ _ _ _ _ _ _ _ _ _ _ _ _ _ _ _ _ _ _ _ _ _ _ _ _ _ _ _ _ _ _ _ _ _ _ _ _ _ _ _ _ _ _ _ _ _ _ _ _ _ _ _ _ _ _ _ _ _ _ _ _ _ _ _ _ _ _ _ _ _ _ hT6 HTl HD
            · have i2 : ¬ (k : Int) < 12 := by omega
              by_cases hE : E = 0
              · subst hE
                obtain ⟨v8, w8, hrun, hq8⟩ := ts_close HP.out 22 (by omega) (by have := Ht.out; omega)
                have HQ8 : Hid (TsQ W (.pointer (some ⟨g0, 0, none⟩)) v8 (vs ++ [.slice da dl dc]) Ds D g O w8) := hq8
                clear hq8 HP
                have HTl : Hid ((Ds ++ [D]).length = t + 1) := by unfold Hid; rw [List.length_append, Ht.out]; rfl
                obtain ⟨T, HTd⟩ := hid_ex (t + 1)
                rw [← HTd.out] at HTl
                have hT6 : T ≤ 6 := by rw [HTd.out]; omega
                have HSy := ts_sync HQ8.out
                obtain ⟨xa, xc, hxv, -⟩ : ∃ a c, v8 = .slice a (Ds ++ [D]).length c ∧ True := by
                  obtain ⟨s, sy, X, q1, _⟩ := HQ8.out.d
                  obtain ⟨a, c, q2, -⟩ := GOwn.form q1.al
                  rw [q1.vl] at q2
                  exact ⟨a, c, q2, trivial⟩
                rw [HTl.out] at hxv
                subst hxv
                clear HQ8
                go_wp2_with (at_builtin; refine wpList_app_runG rfl _ _ 22 22 rfl rfl _ _ _ rfl rfl hrun ?_)
                refine HSy.mono ?_
                rintro e w9 ⟨E9, O9, rfl, hq9⟩
                rcases hq9 with ⟨rfl, hq9⟩ | ⟨hE9, hq9⟩
                · have HL9 : Hid (TsL W (.pointer (some ⟨g0, 0, none⟩)) (.slice xa T xc) (vs ++ [.slice da dl dc]) (Ds ++ [D]) O9 w9) := hq9
                  clear hq9 HSy
                  go_wp2_with fail
                  go_roundw
                  case rel => exact ⟨t + 1, vs ++ [.slice da dl dc], Ds ++ [D], O9, by go_num, by omega, by rw [← HTd.out]; exact HTl, HL9⟩
                  case measure => simp [intOf]; omega
                · have HD : Hid (TsD W (.pointer (some ⟨g0, 0, none⟩)) (.slice xa T xc) (vs ++ [.slice da dl dc]) (Ds ++ [D]) O9 w9) := hq9
                  have hE9' : (E9 != 0) = true := by simpa using hE9
                  clear hq9 HSy
                  go_wp2_with fail
                  exact TL.out _ _ _ _ _ _ _ _ _ _ _ _ _ _ _ _ _ _ _ _ _ _ _ _ _ _ _ _ _ _ _ _ _ _ _ _ _ _ _ _ _ _ _ _ _ _ _ _ _ _ _ _ _ _ _ _ _ _ _ _ _ _ _ _ _ _ _ _ _ _ _ _ _ _ _ _ _ _ _ _ _ _ _ _ _ _ _ _ _ _ _ _ _ _ _ _ _ _ _ _ _ _ _ _ _ _ _ _ _ _ _ _ _ _ _ _ _ _ _ _ _ _ _ _ _ _ _ _ _ _ _ _ _ _ _ _ _ _ _ _ _ _ _ _ _ _ _ _ _ _ _ _ _ _ _ _ _ _ _ _ _ _ _ _ _ _ _ _ _ _ _ _ _ _ _ _ _ _ _ _ _ _ hT6 HTl HD
              · have hE2 : (E != 0) = true := by simpa using hE
                obtain ⟨v8, w8, hrun, hq8⟩ := ts_close HP.out 22 (by omega) (by have := Ht.out; omega)
                have HQ8 : Hid (TsQ W (.pointer (some ⟨g0, 0, none⟩)) v8 (vs ++ [.slice da dl dc]) Ds D g O w8) := hq8
                clear hq8 HP
                have HTl : Hid ((Ds ++ [D]).length = t + 1) := by unfold Hid; rw [List.length_append, Ht.out]; rfl
                obtain ⟨T, HTd⟩ := hid_ex (t + 1)
                rw [← HTd.out] at HTl
                have hT6 : T ≤ 6 := by rw [HTd.out]; omega
                have HD : Hid (TsD W (.pointer (some ⟨g0, 0, none⟩)) v8 (vs ++ [.slice da dl dc]) (Ds ++ [D]) O w8) := HQ8.out.d
                obtain ⟨xa, xc, hxv, -⟩ : ∃ a c, v8 = .slice a (Ds ++ [D]).length c ∧ True := by
                  obtain ⟨s, sy, X, q1, _⟩ := HD.out
                  obtain ⟨a, c, q2, -⟩ := GOwn.form q1.al
                  rw [q1.vl] at q2
                  exact ⟨a, c, q2, trivial⟩
                rw [HTl.out] at hxv
                subst hxv
                clear HQ8
                go_wp2_with (at_builtin; refine wpList_app_runG rfl _ _ 22 22 rfl rfl _ _ _ rfl rfl hrun ?_)
                exact TL.out _ _ _ _ _ _ _ _ _ _ _ _ _ _ _ _ _ _ _ _ _ _ _ _ _ _ _ _ _ _ _ _ _ _ _ _ _ _ _ _ _ _ _ _ _ _ _ _ _ _ _ _ _ _ _ _ _ _ _ _ _ _ _ _ _ _ _ _ _ _ _ _ _ _ _ _ _ _ _ _ _ _ _ _ _ _ _ _ _ _ _ _ _ _ _ _ _ _ _ _ _ _ _ _ _ _ _ _ _ _ _ _ _ _ _ _ _ _ _ _ _ _ _ _ _ _ _ _ _ _ _ _ _ _ _ _ _ _ _ _ _ _ _ _ _ _ _ _ _ _ _ _ _ _ _ _ _ _ _ _ _ _ _ _ _ _ _ _ _ _ _ _ _ _ _ _ _ _ _ _ _ _ hT6 HTl HD
          · have i1 : ¬ (k : Int) < (il : Int) := by omega
            by_cases hE : E = 0
            · subst hE
              obtain ⟨v8, w8, hrun, hq8⟩ := ts_close HP.out 22 (by omega) (by have := Ht.out; omega)
              have HQ8 : Hid (TsQ W (.pointer (some ⟨g0, 0, none⟩)) v8 (vs ++ [.slice da dl dc]) Ds D g O w8) := hq8
              clear hq8 HP
              have HTl : Hid ((Ds ++ [D]).length = t + 1) := by unfold Hid; rw [List.length_append, Ht.out]; rfl
              obtain ⟨T, HTd⟩ := hid_ex (t + 1)
              rw [← HTd.out] at HTl
              have hT6 : T ≤ 6 := by rw [HTd.out]; omega
              have HSy := ts_sync HQ8.out
              obtain ⟨xa, xc, hxv, -⟩ : ∃ a c, v8 = .slice a (Ds ++ [D]).length c ∧ True := by
                obtain ⟨s, sy, X, q1, _⟩ := HQ8.out.d
                obtain ⟨a, c, q2, -⟩ := GOwn.form q1.al
                rw [q1.vl] at q2
                exact ⟨a, c, q2, trivial⟩
              rw [HTl.out] at hxv
              subst hxv
              clear HQ8
              go_wp2_with (at_builtin; refine wpList_app_runG rfl _ _ 22 22 rfl rfl _ _ _ rfl rfl hrun ?_)
              refine HSy.mono ?_
              rintro e w9 ⟨E9, O9, rfl, hq9⟩
              rcases hq9 with ⟨rfl, hq9⟩ | ⟨hE9, hq9⟩
              · have HL9 : Hid (TsL W (.pointer (some ⟨g0, 0, none⟩)) (.slice xa T xc) (vs ++ [.slice da dl dc]) (Ds ++ [D]) O9 w9) := hq9
                clear hq9 HSy
                go_wp2_with fail
                go_roundw
                case rel => exact ⟨t + 1, vs ++ [.slice da dl dc], Ds ++ [D], O9, by go_num, by omega, by rw [← HTd.out]; exact HTl, HL9⟩
                case measure => simp [intOf]; omega
              · have HD : Hid (TsD W (.pointer (some ⟨g0, 0, none⟩)) (.slice xa T xc) (vs ++ [.slice da dl dc]) (Ds ++ [D]) O9 w9) := hq9
                have hE9' : (E9 != 0) = true := by simpa using hE9
                clear hq9 HSy
                go_wp2_with fail
                exact TL.out _ _ _ _ _ _ _ _ _ _ _ _ _ _ _ _ _ _ _ _ _ _ _ _ _ _ _ _ _ _ _ _ _ _ _ _ _ _ _ _ _ _ _ _ _ _ _ _ _ _ _ _ _ _ _ _ _ _ _ _ _ _ _ _ _ _ _ _ _ _ _ _ _ _ _ _ _ _ _ _ _ _ _ _ _ _ _ _ _ _ _ _ _ _ _ _ _ _ _ _ _ _ _ _ _ _ _ _ _ _ _ _ _ _ _ _ _ _ _ _ _ _ _ _ _ _ _ _ _ _ _ _ _ _ _ _ _ _ _ _ _ _ _ _ _ _ _ _ _ _ _ _ _ _ _ _ _ _ _ _ _ _ _ _ _ _ _ _ _ _ _ _ _ _ _ _ _ _ _ _ _ _ hT6 HTl HD
            · have hE2 : (E != 0) = true := by simpa using hE
              obtain ⟨v8, w8, hrun, hq8⟩ := ts_close HP.out 22 (by omega) (by have := Ht.out; omega)
              have HQ8 : Hid (TsQ W (.pointer (some ⟨g0, 0, none⟩)) v8 (vs ++ [.slice da dl dc]) Ds D g O w8) := hq8
              clear hq8 HP
              have HTl : Hid ((Ds ++ [D]).length = t + 1) := by unfold Hid; rw [List.length_append, Ht.out]; rfl
              obtain ⟨T, HTd⟩ := hid_ex (t + 1)
              rw [← HTd.out] at HTl
              have hT6 : T ≤ 6 := by rw [HTd.out]; omega
              have HD : Hid (TsD W (.pointer (some ⟨g0, 0, none⟩)) v8 (vs ++ [.slice da dl dc]) (Ds ++ [D]) O w8) := HQ8.out.d
              obtain ⟨xa, xc, hxv, -⟩ : ∃ a c, v8 = .slice a (Ds ++ [D]).length c ∧ True := by
                obtain ⟨s, sy, X, q1, _⟩ := HD.out
                obtain ⟨a, c, q2, -⟩ := GOwn.form q1.al
                rw [q1.vl] at q2
                exact ⟨a, c, q2, trivial⟩
              rw [HTl.out] at hxv
              subst hxv
              clear HQ8
              go_wp2_with (at_builtin; refine wpList_app_runG rfl _ _ 22 22 rfl rfl _ _ _ rfl rfl hrun ?_)
              exact TL.out _ _ _ _ _ _ _ _ _ _ _ _ _ _ _ _ _ _ _ _ _ _ _ _ _ _ _ _ _ _ _ _ _ _ _ _ _ _ _ _ _ _ _ _ _ _ _ _ _ _ _ _ _ _ _ _ _ _ _ _ _ _ _ _ _ _ _ _ _ _ _ _ _ _ _ _ _ _ _ _ _ _ _ _ _ _ _ _ _ _ _ _ _ _ _ _ _ _ _ _ _ _ _ _ _ _ _ _ _ _ _ _ _ _ _ _ _ _ _ _ _ _ _ _ _ _ _ _ _ _ _ _ _ _ _ _ _ _ _ _ _ _ _ _ _ _ _ _ _ _ _ _ _ _ _ _ _ _ _ _ _ _ _ _ _ _ _ _ _ _ _ _ _ _ _ _ _ _ _ _ _ _ hT6 HTl HD
    · have hlt' : ¬ (t : Int) < (ln : Int) := by omega
      have HD : Hid (TsD W (.pointer (some ⟨g0, 0, none⟩)) (.slice xa t xc) vs Ds O wr) := HT.out.d
      have hT6 : t ≤ 6 := by omega
      clear HT
      go_wp2_with fail
      exact TL.out _ _ _ _ _ _ _ _ _ _ _ _ _ _ _ _ _ _ _ _ _ _ _ _ _ _ _ _ _ _ _ _ _ _ _ _ _ _ _ _ _ _ _ _ _ _ _ _ _ _ _ _ _ _ _ _ _ _ _ _ _ _ _ _ _ _ _ _ _ _ _ _ _ _ _ _ _ _ _ _ _ _ _ _ _ _ _ _ _ _ _ _ _ _ _ _ _ _ _ _ _ _ _ _ _ _ _ _ _ _ _ _ _ _ _ _ _ _ _ _ _ _ _ _ _ _ _ _ _ _ _ _ _ _ _ _ _ _ _ _ _ _ _ _ _ _ _ _ _ _ _ _ _ _ _ _ _ _ _ _ _ _ _ _ _ _ _ _ _ _ _ _ _ _ _ _ _ _ _ _ _ _ hT6 Ht HD
end Go.Proofs.YtegcomopcoapjaaGreatDoor
