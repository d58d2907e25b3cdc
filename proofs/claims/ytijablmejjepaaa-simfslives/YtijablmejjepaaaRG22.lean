/- law11: alike: both have the same files. -/
import Derived.Test.YtijablmejjepaaaRG21
import Derived.Test.YtijablmejjepaaaSFS
namespace Go.Proofs.Ytijablmejjepaaa
open Go.RowKit Go.Maps Go.Sort

set_option maxRecDepth 100000 in
set_option maxHeartbeats 8000000 in
theorem alike_any {w : World} {O1 O2 : Nat → Prop} {p q : Value} {s : SfS} (h1 : Fs w O1 p s) (h2 : Rf w O2 q s) : Calls Try.prog 10 #[p, q] w fun e w' => e = .returned (.bool true) ∧ Below w.heap.size w w' := by
  obtain ⟨g1, rfl⟩ := h1.ptr
  have H1 : Hid (Fs w O1 (.pointer (some ⟨g1, 0, none⟩)) s) := h1
  obtain ⟨hw, g2, vf, vd, vo, vp, af, ee, fb, va, vb, rfl, hr⟩ := h2
  have HR : Hid (RfAt w O2 g2 vf vd vo vp af ee fb va vb s) := hr
  have HW : Hid (SfWf s) := hw
  have hdl := dir_len hw
  have hgl : g2 < w.heap.size := hr.lt g2 hr.og
  have hcd := hr.c1.2.1
  obtain ⟨da, dc, hvd, _, _, h3, h4⟩ := GOwn.form hr.hd
  obtain ⟨N, HN⟩ := hid_ex s.dir.length
  rw [← HN.out] at hdl hvd
  subst hvd
  have HDa : Hid (∀ _ : 0 < N, ∃ b : Nat, da = some ⟨b, 0, none⟩) := fun h0 => by
    cases da with
    | none => have := (h4 rfl).1; rw [← HN.out] at this; omega
    | some q => exact ⟨q.block, by rw [← h3 q rfl]⟩
  have HCd : Hid (w.cell? ⟨g2, 2, none⟩ = some (.slice da N dc) ∧ g2 < w.heap.size) := ⟨hcd, hgl⟩
  have hub := used_le hw
  obtain ⟨U, HU⟩ := hid_ex (sfUsed s)
  have HUs : Hid (∀ w', Below w.heap.size w w' → Calls Try.prog 30 #[.pointer (some ⟨g1, 0, none⟩)] w' fun e w'' => e = .returned (.int .i64 (U : Int)) ∧ Below w'.heap.size w' w'') := fun w' hb => by rw [HU.out]; exact (H1.out.below hb).used
  have HUr : Hid (∀ w', Below w.heap.size w w' → Calls Try.prog 31 #[.pointer (some ⟨g2, 0, none⟩)] w' fun e w'' => e = .returned (.int .i64 (U : Int)) ∧ Below w'.heap.size w' w'') := fun w' hb => by rw [HU.out]; exact refUsed_any (HR.out.below hb) HW.out
  clear h1 hw hr hgl hcd h3 h4 HU hub
  go_enter Try.func10, Try.ntmps10
  go_wp2_with fail
  refine H1.out.list.mono ?_
  rintro e w1 ⟨v1, rfl, hr1, hb1⟩
  rw [← HN.out] at hr1
  obtain ⟨a1, c1, hv1⟩ := row_form hr1
  subst hv1
  have HR1 : Hid (w1.ownsRow w.heap.size 9 1 (.slice a1 N c1) N (s.dir.map fun p => sv p.1)) := hr1
  have HB1 : Hid (Below w.heap.size w w1) := hb1
  have k1 := (hb1.cell (p := ⟨g2, 2, none⟩) HCd.out.2).trans HCd.out.1
  clear hr1 hb1
  go_wp2_with fail
  refine (HUs.out w1 HB1.out).mono ?_
  rintro e w2 ⟨rfl, hb2⟩
  have HB2 : Hid (Below w.heap.size w w2) := HB1.out.trans (hb2.mono HB1.out.size)
  have HR2 : Hid (w2.ownsRow w.heap.size 9 1 (.slice a1 N c1) N (s.dir.map fun p => sv p.1)) := row_keepB HR1.out (fun k _ hl => hb2.block k hl)
  clear hb2 HR1 k1
  go_wp2_with fail
  refine (HUr.out w2 HB2.out).mono ?_
  rintro e w3 ⟨rfl, hb3⟩
  have HB3 : Hid (Below w.heap.size w w3) := HB2.out.trans (hb3.mono HB2.out.size)
  have HR3 : Hid (w3.ownsRow w.heap.size 9 1 (.slice a1 N c1) N (s.dir.map fun p => sv p.1)) := row_keepB HR2.out (fun k _ hl => hb3.block k hl)
  clear hb3 HR2 HUs HUr
  go_wp2_with fail
  go_loopw [6] (fun i wr => ∃ j : Nat, i = .int .i64 (j : Int) ∧ j ≤ N ∧ Hid (Below w.heap.size w wr) ∧ Hid (wr.ownsRow w.heap.size 9 1 (.slice a1 N c1) N (s.dir.map fun p => sv p.1))) (fun i _ => N - (intOf i).toNat)
  case atStart => exact ⟨0, rfl, by omega, HB3, HR3⟩
  case round =>
    obtain ⟨j, rfl, hj, HB, HA⟩ := hrel
    by_cases hlt : j < N
    · have hlt' : (j : Int) < (N : Int) := by omega
      have hjs : j < s.dir.length := by rw [← HN.out]; exact hlt
      obtain ⟨b1, hab1, x1⟩ := row_str' HA.out HN.out hlt
      subst hab1
      obtain ⟨f1, f2, f3⟩ := read_at H1.out hjs
      have hdi := (HW.out.di _ (List.getElem_mem hjs)).1
      obtain ⟨q4, hq4⟩ := HDa.out (by omega)
      subst hq4
      have hRr := HR.out.below HB.out
      have hdd : NOwn wr (.slice (some ⟨q4, 0, none⟩) N dc) s.dir := hRr.hd
      obtain ⟨y0, y1⟩ := NOwn.at hdd j hjs
      obtain ⟨cq, hqb⟩ := GOwn.block hdd (k := q4) rfl
      have hql := (Array.getElem?_eq_some_iff.1 hqb).1
      have HBy : Hid (∀ w', Below wr.heap.size wr w' → Calls Try.prog 32 #[.pointer (some ⟨g2, 0, none⟩), .int .i64 ((s.dir[j]).2 : Int)] w' _) := fun w' hb => refBytes_any (hRr.below hb) HW.out hdi
      obtain ⟨nm, HNm⟩ := hid_ex (s.dir[j].1)
      obtain ⟨I, HI⟩ := hid_ex (s.dir[j].2)
      rw [← HNm.out] at x1 f1 f2 f3 y0
      rw [← HI.out] at y1 f2 HBy
      obtain ⟨X, HX⟩ := hid_ex ((s.fl I).1)
      rw [← HX.out] at f2 HBy
      have hnl : nm.length ≤ maxLen := by simp only [maxLen]; omega
      have HRA : Hid (Calls Try.prog 16 #[.pointer (some ⟨g1, 0, none⟩), .string ⟨nm.toArray⟩] wr fun e w' => ∃ v, e = .returned (.tuple #[v, .int .i64 0]) ∧ Own w' wr.heap.size v X ∧ Below wr.heap.size wr w') := by
        have := (H1.out.below HB.out).read nm hnl
        rw [f1, f2] at this
        exact this
      have hXb : X.length ≤ 1048576 := by rw [HX.out]; exact fl_bd HW.out I
      have hq1 := (World.ownsRow.lt HA.out b1 rfl).2
      have hgr : g2 < wr.heap.size := Nat.lt_of_lt_of_le HCd.out.2 HB.out.size
      have k2 := (HB.out.cell (p := ⟨g2, 2, none⟩) HCd.out.2).trans HCd.out.1
      have HCs : Hid (∀ w', Below wr.heap.size wr w' → w'.cell? ⟨b1, j, none⟩ = some (.string ⟨nm.toArray⟩) ∧ w'.cell? ⟨g2, 2, none⟩ = some (.slice (some ⟨q4, 0, none⟩) N dc) ∧ w'.cell? ⟨q4, j * 2, none⟩ = some (.string ⟨nm.toArray⟩) ∧ w'.cell? ⟨q4, j * 2 + 1, none⟩ = some (.int .i64 (I : Int))) := fun w' hb => ⟨(hb.cell (p := ⟨b1, j, none⟩) hq1).trans x1, (hb.cell (p := ⟨g2, 2, none⟩) hgr).trans k2, (hb.cell (p := ⟨q4, j * 2, none⟩) hql).trans y0, (hb.cell (p := ⟨q4, j * 2 + 1, none⟩) hql).trans y1⟩
      obtain ⟨XL, HXL⟩ : ∃ n, Hid (X.length = n) := ⟨_, rfl⟩
      rw [HXL.out] at hXb
      clear HNm HX HI f1 f2 f3 hjs hnl hdd hRr hqb hql hdi y0 y1 k2 hgr hq1
      go_wp2_with fail
      refine HRA.out.mono ?_
      clear HRA
      rintro e w4 ⟨xv, rfl, ho4, hb4⟩
      have HO4 : Hid (Own w4 wr.heap.size xv X) := ho4
      have HB4 : Hid (Below wr.heap.size wr w4) := hb4
      obtain ⟨xa, xc, hxv, -⟩ := ho4.form
      rw [HXL.out] at hxv
      subst hxv
      clear ho4 hb4 x1
      go_wp2_with fail
      have HBd : Hid (Below wr.heap.size wr w4.drew) := HB4.out.drew
      have HByd : Hid (Calls Try.prog 32 #[.pointer (some ⟨g2, 0, none⟩), .int .i64 (I : Int)] w4.drew _) := HBy.out w4.drew HBd.out
      have HOd : Hid (Own w4.drew wr.heap.size (.slice xa XL xc) X) := HO4.out.below (Below.refl _ _).drew
      refine wp_region_noPanic ?_
      refine wp_region_held_drew (S := (fun w' => Below w4.drew.heap.size w4.drew w')) (by kernel_rfl) ?_ (fun hHeld => ?_)
      · exact Below.refl _ _
      refine wpAnyH_take (i := 0) (v := .slice (some ⟨b1, 0, none⟩) N c1) rfl (by kernel_rfl) (by kernel_rfl) (by kernel_rfl) (fun _ _ _ h => h) (Or.inl ⟨by rfl, ?_⟩) (by assumption) ?_
      · (intro w1 hSw; (try dsimp only at hSw); go_simp)
      simp only [List.getElem_toArray, List.getElem_cons_zero, Act.put, List.setIfInBounds_toArray, List.set_cons_zero, List.set_cons_succ]
      refine wpAnyH_take (i := 1) (v := .int .i64 (j : Int)) rfl (by kernel_rfl) (by kernel_rfl) (by kernel_rfl) (fun _ _ _ h => h) (Or.inl ⟨by rfl, ?_⟩) (by assumption) ?_
      · (intro w1 hSw; (try dsimp only at hSw); go_simp)
      simp only [List.getElem_toArray, List.getElem_cons_succ, List.getElem_cons_zero, Act.put, List.setIfInBounds_toArray, List.set_cons_zero, List.set_cons_succ]
      refine wpAnyH_take (i := 2) (v := .pointer (some ⟨b1, j, none⟩)) rfl (by kernel_rfl) (by kernel_rfl) (by kernel_rfl) (fun _ _ _ h => h) (Or.inl ⟨by rfl, ?_⟩) (by assumption) ?_
      · (intro w1 hSw; (try dsimp only at hSw); go_simp)
      simp only [List.getElem_toArray, List.getElem_cons_succ, List.getElem_cons_zero, Act.put, List.setIfInBounds_toArray, List.set_cons_zero, List.set_cons_succ]
      refine wpAnyH_take (i := 3) (v := .string ⟨nm.toArray⟩) rfl (by kernel_rfl) (by kernel_rfl) (by kernel_rfl) (fun _ _ _ h => h) (Or.inl ⟨by rfl, ?_⟩) (by assumption) ?_
      · (intro w1 hSw; (try dsimp only at hSw); have h0 := (HCs.out _ (HBd.out.trans (hSw.mono HBd.out.size))).1; go_simp)
      simp only [List.getElem_toArray, List.getElem_cons_succ, List.getElem_cons_zero, Act.put, List.setIfInBounds_toArray, List.set_cons_zero, List.set_cons_succ]
      refine wpAnyH_take (i := 4) (v := .pointer (some ⟨g2, 0, none⟩)) rfl (by kernel_rfl) (by kernel_rfl) (by kernel_rfl) (fun _ _ _ h => h) (Or.inl ⟨by rfl, ?_⟩) (by assumption) ?_
      · (intro w1 hSw; (try dsimp only at hSw); go_simp)
      simp only [List.getElem_toArray, List.getElem_cons_succ, List.getElem_cons_zero, Act.put, List.setIfInBounds_toArray, List.set_cons_zero, List.set_cons_succ]
      refine wpAnyH_take (i := 5) (v := .pointer (some ⟨g2, 0, none⟩)) rfl (by kernel_rfl) (by kernel_rfl) (by kernel_rfl) (fun _ _ _ h => h) (Or.inl ⟨by rfl, ?_⟩) (by assumption) ?_
      · (intro w1 hSw; (try dsimp only at hSw); go_simp)
      simp only [List.getElem_toArray, List.getElem_cons_succ, List.getElem_cons_zero, Act.put, List.setIfInBounds_toArray, List.set_cons_zero, List.set_cons_succ]
      refine wpAnyH_take (i := 6) (v := .pointer (some ⟨g2, 2, none⟩)) rfl (by kernel_rfl) (by kernel_rfl) (by kernel_rfl) (fun _ _ _ h => h) (Or.inl ⟨by rfl, ?_⟩) (by assumption) ?_
      · (intro w1 hSw; (try dsimp only at hSw); go_simp)
      simp only [List.getElem_toArray, List.getElem_cons_succ, List.getElem_cons_zero, Act.put, List.setIfInBounds_toArray, List.set_cons_zero, List.set_cons_succ]
      refine wpAnyH_take (i := 7) (v := .slice (some ⟨q4, 0, none⟩) N dc) rfl (by kernel_rfl) (by kernel_rfl) (by kernel_rfl) (fun _ _ _ h => h) (Or.inl ⟨by rfl, ?_⟩) (by assumption) ?_
      · (intro w1 hSw; (try dsimp only at hSw); have h0 := (HCs.out _ (HBd.out.trans (hSw.mono HBd.out.size))).2.1; go_simp)
      simp only [List.getElem_toArray, List.getElem_cons_succ, List.getElem_cons_zero, Act.put, List.setIfInBounds_toArray, List.set_cons_zero, List.set_cons_succ]
      refine wpAnyH_take (i := 8) (v := .int .i64 (j : Int)) rfl (by kernel_rfl) (by kernel_rfl) (by kernel_rfl) (fun _ _ _ h => h) (Or.inl ⟨by rfl, ?_⟩) (by assumption) ?_
      · (intro w1 hSw; (try dsimp only at hSw); go_simp)
      simp only [List.getElem_toArray, List.getElem_cons_succ, List.getElem_cons_zero, Act.put, List.setIfInBounds_toArray, List.set_cons_zero, List.set_cons_succ]
      refine wpAnyH_take (i := 9) (v := .pointer (some ⟨q4, j * 2, none⟩)) rfl (by kernel_rfl) (by kernel_rfl) (by kernel_rfl) (fun _ _ _ h => h) (Or.inl ⟨by rfl, ?_⟩) (by assumption) ?_
      · (intro w1 hSw; (try dsimp only at hSw); go_simp)
      simp only [List.getElem_toArray, List.getElem_cons_succ, List.getElem_cons_zero, Act.put, List.setIfInBounds_toArray, List.set_cons_zero, List.set_cons_succ]
      refine wpAnyH_take (i := 10) (v := .pointer (some ⟨q4, j * 2, none⟩)) rfl (by kernel_rfl) (by kernel_rfl) (by kernel_rfl) (fun _ _ _ h => h) (Or.inl ⟨by rfl, ?_⟩) (by assumption) ?_
      · (intro w1 hSw; (try dsimp only at hSw); go_simp)
      simp only [List.getElem_toArray, List.getElem_cons_succ, List.getElem_cons_zero, Act.put, List.setIfInBounds_toArray, List.set_cons_zero, List.set_cons_succ]
      refine wpAnyH_take (i := 11) (v := .string ⟨nm.toArray⟩) rfl (by kernel_rfl) (by kernel_rfl) (by kernel_rfl) (fun _ _ _ h => h) (Or.inl ⟨by rfl, ?_⟩) (by assumption) ?_
      · (intro w1 hSw; (try dsimp only at hSw); have h0 := (HCs.out _ (HBd.out.trans (hSw.mono HBd.out.size))).2.2.1; go_simp)
      simp only [List.getElem_toArray, List.getElem_cons_succ, List.getElem_cons_zero, Act.put, List.setIfInBounds_toArray, List.set_cons_zero, List.set_cons_succ]
      refine wpAnyH_take (i := 12) (v := .bool false) rfl (by kernel_rfl) (by kernel_rfl) (by kernel_rfl) (fun _ _ _ h => h) (Or.inl ⟨by rfl, ?_⟩) (by assumption) ?_
      · (intro w1 hSw; (try dsimp only at hSw); go_simp)
      simp only [List.getElem_toArray, List.getElem_cons_succ, List.getElem_cons_zero, Act.put, List.setIfInBounds_toArray, List.set_cons_zero, List.set_cons_succ]
      refine wpAnyH_take (i := 13) (v := .bool false) rfl (by kernel_rfl) (by kernel_rfl) (by kernel_rfl) (fun _ _ _ h => h) (Or.inl ⟨by rfl, ?_⟩) (by assumption) ?_
      · (intro w1 hSw; (try dsimp only at hSw); go_simp)
      simp only [List.getElem_toArray, List.getElem_cons_succ, List.getElem_cons_zero, Act.put, List.setIfInBounds_toArray, List.set_cons_zero, List.set_cons_succ]
      refine wpAnyH_take (i := 14) (v := .int .i64 0) rfl (by kernel_rfl) (by kernel_rfl) (by kernel_rfl) (fun _ _ _ h => h) (Or.inl ⟨by rfl, ?_⟩) (by assumption) ?_
      · (intro w1 hSw; (try dsimp only at hSw); go_simp)
      simp only [List.getElem_toArray, List.getElem_cons_succ, List.getElem_cons_zero, Act.put, List.setIfInBounds_toArray, List.set_cons_zero, List.set_cons_succ]
      refine wpAnyH_take (i := 15) (v := .bool false) rfl (by kernel_rfl) (by kernel_rfl) (by kernel_rfl) (fun _ _ _ h => h) (Or.inl ⟨by rfl, ?_⟩) (by assumption) ?_
      · (intro w1 hSw; (try dsimp only at hSw); go_simp)
      simp only [List.getElem_toArray, List.getElem_cons_succ, List.getElem_cons_zero, Act.put, List.setIfInBounds_toArray, List.set_cons_zero, List.set_cons_succ]
      refine wpAnyH_take (i := 16) (v := .bool false) rfl (by kernel_rfl) (by kernel_rfl) (by kernel_rfl) (fun _ _ _ h => h) (Or.inl ⟨by rfl, ?_⟩) (by assumption) ?_
      · (intro w1 hSw; (try dsimp only at hSw); go_simp)
      simp only [List.getElem_toArray, List.getElem_cons_succ, List.getElem_cons_zero, Act.put, List.setIfInBounds_toArray, List.set_cons_zero, List.set_cons_succ]
      refine wpAnyH_take (i := 17) (v := .bool false) rfl (by kernel_rfl) (by kernel_rfl) (by kernel_rfl) (fun _ _ _ h => h) (Or.inl ⟨by rfl, ?_⟩) (by assumption) ?_
      · (intro w1 hSw; (try dsimp only at hSw); go_simp)
      simp only [List.getElem_toArray, List.getElem_cons_succ, List.getElem_cons_zero, Act.put, List.setIfInBounds_toArray, List.set_cons_zero, List.set_cons_succ]
      refine wpAnyH_take (i := 18) (v := .slice xa XL xc) rfl (by kernel_rfl) (by kernel_rfl) (by kernel_rfl) (fun _ _ _ h => h) (Or.inl ⟨by rfl, ?_⟩) (by assumption) ?_
      · (intro w1 hSw; (try dsimp only at hSw); go_simp)
      simp only [List.getElem_toArray, List.getElem_cons_succ, List.getElem_cons_zero, Act.put, List.setIfInBounds_toArray, List.set_cons_zero, List.set_cons_succ]
      refine wpAnyH_take (i := 19) (v := .string ⟨X.toArray⟩) rfl (by kernel_rfl) (by kernel_rfl) (by kernel_rfl) (fun _ _ _ h => h) (Or.inl ⟨by rfl, ?_⟩) (by assumption) ?_
      · (intro w1 hSw; (try dsimp only at hSw); have h0 := reads_text (HOd.out.reads.below hSw); go_simp)
      simp only [List.getElem_toArray, List.getElem_cons_succ, List.getElem_cons_zero, Act.put, List.setIfInBounds_toArray, List.set_cons_zero, List.set_cons_succ]
      refine wpAnyH_take (i := 20) (v := .pointer (some ⟨g2, 0, none⟩)) rfl (by kernel_rfl) (by kernel_rfl) (by kernel_rfl) (fun _ _ _ h => h) (Or.inl ⟨by rfl, ?_⟩) (by assumption) ?_
      · (intro w1 hSw; (try dsimp only at hSw); go_simp)
      simp only [List.getElem_toArray, List.getElem_cons_succ, List.getElem_cons_zero, Act.put, List.setIfInBounds_toArray, List.set_cons_zero, List.set_cons_succ]
      refine wpAnyH_take (i := 21) (v := .pointer (some ⟨g2, 0, none⟩)) rfl (by kernel_rfl) (by kernel_rfl) (by kernel_rfl) (fun _ _ _ h => h) (Or.inl ⟨by rfl, ?_⟩) (by assumption) ?_
      · (intro w1 hSw; (try dsimp only at hSw); go_simp)
      simp only [List.getElem_toArray, List.getElem_cons_succ, List.getElem_cons_zero, Act.put, List.setIfInBounds_toArray, List.set_cons_zero, List.set_cons_succ]
      refine wpAnyH_take (i := 22) (v := .pointer (some ⟨g2, 0, none⟩)) rfl (by kernel_rfl) (by kernel_rfl) (by kernel_rfl) (fun _ _ _ h => h) (Or.inl ⟨by rfl, ?_⟩) (by assumption) ?_
      · (intro w1 hSw; (try dsimp only at hSw); go_simp)
      simp only [List.getElem_toArray, List.getElem_cons_succ, List.getElem_cons_zero, Act.put, List.setIfInBounds_toArray, List.set_cons_zero, List.set_cons_succ]
      refine wpAnyH_take (i := 23) (v := .pointer (some ⟨g2, 2, none⟩)) rfl (by kernel_rfl) (by kernel_rfl) (by kernel_rfl) (fun _ _ _ h => h) (Or.inl ⟨by rfl, ?_⟩) (by assumption) ?_
      · (intro w1 hSw; (try dsimp only at hSw); go_simp)
      simp only [List.getElem_toArray, List.getElem_cons_succ, List.getElem_cons_zero, Act.put, List.setIfInBounds_toArray, List.set_cons_zero, List.set_cons_succ]
      refine wpAnyH_take (i := 24) (v := .slice (some ⟨q4, 0, none⟩) N dc) rfl (by kernel_rfl) (by kernel_rfl) (by kernel_rfl) (fun _ _ _ h => h) (Or.inl ⟨by rfl, ?_⟩) (by assumption) ?_
      · (intro w1 hSw; (try dsimp only at hSw); have h0 := (HCs.out _ (HBd.out.trans (hSw.mono HBd.out.size))).2.1; go_simp)
      simp only [List.getElem_toArray, List.getElem_cons_succ, List.getElem_cons_zero, Act.put, List.setIfInBounds_toArray, List.set_cons_zero, List.set_cons_succ]
      refine wpAnyH_take (i := 25) (v := .int .i64 (j : Int)) rfl (by kernel_rfl) (by kernel_rfl) (by kernel_rfl) (fun _ _ _ h => h) (Or.inl ⟨by rfl, ?_⟩) (by assumption) ?_
      · (intro w1 hSw; (try dsimp only at hSw); go_simp)
      simp only [List.getElem_toArray, List.getElem_cons_succ, List.getElem_cons_zero, Act.put, List.setIfInBounds_toArray, List.set_cons_zero, List.set_cons_succ]
      refine wpAnyH_take (i := 26) (v := .pointer (some ⟨q4, j * 2, none⟩)) rfl (by kernel_rfl) (by kernel_rfl) (by kernel_rfl) (fun _ _ _ h => h) (Or.inl ⟨by rfl, ?_⟩) (by assumption) ?_
      · (intro w1 hSw; (try dsimp only at hSw); go_simp)
      simp only [List.getElem_toArray, List.getElem_cons_succ, List.getElem_cons_zero, Act.put, List.setIfInBounds_toArray, List.set_cons_zero, List.set_cons_succ]
      refine wpAnyH_take (i := 27) (v := .pointer (some ⟨q4, j * 2 + 1, none⟩)) rfl (by kernel_rfl) (by kernel_rfl) (by kernel_rfl) (fun _ _ _ h => h) (Or.inl ⟨by rfl, ?_⟩) (by assumption) ?_
      · (intro w1 hSw; (try dsimp only at hSw); go_simp)
      simp only [List.getElem_toArray, List.getElem_cons_succ, List.getElem_cons_zero, Act.put, List.setIfInBounds_toArray, List.set_cons_zero, List.set_cons_succ]
      refine wpAnyH_take (i := 28) (v := .int .i64 (I : Int)) rfl (by kernel_rfl) (by kernel_rfl) (by kernel_rfl) (fun _ _ _ h => h) (Or.inl ⟨by rfl, ?_⟩) (by assumption) ?_
      · (intro w1 hSw; (try dsimp only at hSw); have h0 := (HCs.out _ (HBd.out.trans (hSw.mono HBd.out.size))).2.2.2; go_simp)
      simp only [List.getElem_toArray, List.getElem_cons_succ, List.getElem_cons_zero, Act.put, List.setIfInBounds_toArray, List.set_cons_zero, List.set_cons_succ]
      refine wpAnyH_ready (rs := [29]) (by kernel_rfl) (by simp) ?_
      refine AllReadyH.cons (o := _) rfl (fun K hK => ?_) AllReadyH.nil
      go_simp
      refine HByd.out.mono ?_
      clear HByd
      rintro e w5 ⟨yv, rfl, ho5, hb5⟩
      obtain ⟨ya, yc, hyv, -⟩ := ho5.form
      subst hyv
      have HB5 : Hid (Below w4.drew.heap.size w4.drew w5) := hb5
      have t5 := reads_text ho5.reads
      clear ho5 hb5
      go_simp
      refine hK.out _ _ ?_ (fun hHeld => ?_)
      · exact HB5.out
      clear hK K
      refine wpAnyH_ready (rs := [30]) (by kernel_rfl) (by simp) ?_
      refine AllReadyH.cons (o := _) rfl (fun K hK => ?_) AllReadyH.nil
      go_simp
      refine hK.out _ _ ?_ (fun hHeld => ?_)
      · exact HB5.out
      clear hK K
      refine wpAnyH_take (i := 31) (v := .bool false) rfl (by kernel_rfl) (by kernel_rfl) (by kernel_rfl) (fun _ _ _ h => h) (Or.inl ⟨by rfl, ?_⟩) (by assumption) ?_
      · (intro w1 hSw; (try dsimp only at hSw); go_simp)
      simp only [List.getElem_toArray, List.getElem_cons_succ, List.getElem_cons_zero, Act.put, List.setIfInBounds_toArray, List.set_cons_zero, List.set_cons_succ]
      refine wpAnyH_take (i := 32) (v := .bool false) rfl (by kernel_rfl) (by kernel_rfl) (by kernel_rfl) (fun _ _ _ h => h) (Or.inl ⟨by rfl, ?_⟩) (by assumption) ?_
      · (intro w1 hSw; (try dsimp only at hSw); go_simp)
      simp only [List.getElem_toArray, List.getElem_cons_succ, List.getElem_cons_zero, Act.put, List.setIfInBounds_toArray, List.set_cons_zero, List.set_cons_succ]
      refine wpAnyH_done (by kernel_rfl) ?_ _
      refine NoPanic.normal ?_
      have HBr5 : Hid (Below wr.heap.size wr w5) := HBd.out.trans (HB5.out.mono HBd.out.size)
      have HO5 : Hid (Own w5 wr.heap.size (.slice xa XL xc) X) := HOd.out.below HB5.out
      clear hHeld t5 HB5 HBd HOd HO4 HB4 HBy HCs
      go_wp2_with fail
      go_loopw [9] (fun i wz => ∃ (k : Nat) (l' : List UInt8), i = .int .i64 (k : Int) ∧ k ≤ XL ∧ Hid (l'.length = XL) ∧ Hid (Own wz wr.heap.size (.slice xa XL xc) l') ∧ Hid (Below wr.heap.size wr wz)) (fun i _ => XL - (intOf i).toNat)
      case atStart => exact ⟨0, X, rfl, by omega, HXL, HO5, HBr5⟩
      case round =>
        rename World => wz
        obtain ⟨k, l', rfl, hk, HL, HOz, HBz⟩ := hrel
        by_cases hkl : k < XL
        · have hkl' : (k : Int) < (XL : Int) := by omega
          have hkl2 : k < l'.length := by rw [HL.out]; exact hkl
          obtain ⟨og, oc', hov, hg1, _⟩ := HOz.out.some (by omega)
          simp only [Value.slice.injEq] at hov
          obtain ⟨rfl, -, -⟩ := hov
          obtain ⟨x, y, i1, i2, i3⟩ := turn_b HOz.out hkl2
          have HOn : Hid (Own (wz.setCell ⟨og, k, none⟩ (.int .u8 (y.toNat : Int))) wr.heap.size (.slice (some ⟨og, 0, none⟩) XL xc) (l'.set k y)) := (HOz.out.stored k y).1
          have HLn : Hid ((l'.set k y).length = XL) := by unfold Hid; rw [List.length_set]; exact HL.out
          have HBn : Hid (Below wr.heap.size wr (wz.setCell ⟨og, k, none⟩ (.int .u8 (y.toNat : Int)))) := HBz.out.trans ((Below.refl _ _).setCell hg1 _)
          clear hg1
          go_wp2_with fail
          go_roundw
          case rel => exact ⟨k + 1, _, by go_num, by omega, HLn, HOn, HBn⟩
          case measure => simp [intOf]; omega
        · have hkl' : ¬ (k : Int) < (XL : Int) := by omega
          have HBe : Hid (Below w.heap.size w wz) := HB.out.trans (HBz.out.mono HB.out.size)
          have HAe : Hid (wz.ownsRow w.heap.size 9 1 (.slice (some ⟨b1, 0, none⟩) N c1) N (s.dir.map fun p => sv p.1)) := row_keepB HA.out (fun k _ hl => HBz.out.block k hl)
          go_wp2_with fail
          go_roundw
          case rel => exact ⟨j + 1, by go_num, by omega, HBe, HAe⟩
          case measure => simp [intOf]; omega
    · have hlt' : ¬ (j : Int) < (N : Int) := by omega
      go_wp2_with fail
      go_ret
      exact ⟨rfl, HB.out⟩
end Go.Proofs.Ytijablmejjepaaa
