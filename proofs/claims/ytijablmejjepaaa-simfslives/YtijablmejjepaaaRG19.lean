/- The document's file system: Crash's walk. -/
import Derived.Test.YtijablmejjepaaaRG18
namespace Go.Proofs.Ytijablmejjepaaa
open Go.RowKit Go.Maps Go.Sort

theorem RfC.s5e {w : World} {g : Nat} {r : Int} {vf vd vo vp : Value} {af ee : Int} (h : RfC w g r vf vd vo vp af ee) (k : Nat) : w.frozen? ⟨g, k, none⟩ = false := h.fz k
theorem flOk_len {fls : List (List UInt8 × Nat)} (h : sfFlOk fls) (i : Nat) : (fls.getD i ([], 0)).1.length ≤ 1048576 ∧ (fls.getD i ([], 0)).2 ≤ (fls.getD i ([], 0)).1.length := by
  rw [List.getD_eq_getElem?_getD]
  cases hq : fls[i]? with
  | none => simp
  | some f => have := h i f hq; simp; omega
set_option maxRecDepth 100000 in
set_option maxHeartbeats 16000000 in
theorem refCrash_any {w : World} {O : Nat → Prop} {g : Nat} {vf vd vo vp : Value} {af ee : Int} {fb : Nat → Nat} {va vb : Nat → Value} {s : SfS} (h : RfAt w O g vf vd vo vp af ee fb va vb s) (hw : SfWf s) (n : Int) (kv : Value) (ks : List Int) (hK : ∀ w', Onl O w w' → KReads w' kv ks) (hpn : s.pend.length < 1000000) :
    Calls Try.prog 27 #[.pointer (some ⟨g, 0, none⟩), .int .i64 n, kv] w fun e w' => (∃ u, e = .returned u) ∧ RfTo w w' O g (sfCrash s n ks) := by
  have HLt : Hid (∀ k, O k → k < w.heap.size) := h.lt
  have HKR : Hid (∀ w', Onl O w w' → KReads w' kv ks) := hK
  obtain ⟨ka, kc, rfl, hkl⟩ := (hK w (Onl.refl _ _)).form
  unfold maxLen at hkl
  have HSt : Hid (Calls Try.prog 45 #[.pointer (some ⟨g, 0, none⟩), .int .i64 n] w _) := refSettle_any h hw n hpn
  have HOk : Hid (sfFlOk s.fls) := hw.sy
  have hol := hw.ln (min (max n 0).toNat s.pend.length)
  have HOl : Hid ((sfSettle s (max n 0).toNat).old.length ≤ 256) := by
    unfold Hid
    have := hw.ln (max n 0).toNat
    exact this
  have HOi : Hid (∀ p ∈ (sfSettle s (max n 0).toNat).old, p.2 < s.fls.length) := fun p hp => (SfWf.fold hw _ p hp).1
  have HCr : Hid (sfCrash s n ks = { sfSettle s (max n 0).toNat with dir := (sfSettle s (max n 0).toNat).old, fls := sfCuts (sfSettle s (max n 0).toNat).old ks s.fls, fault := 0 }) := rfl
  obtain ⟨R, HRe⟩ := hid_ex (sfCrash s n ks)
  rw [← HRe.out] at HCr ⊢
  obtain ⟨KL, HKL⟩ : ∃ n, Hid (ks.length = n) := ⟨_, rfl⟩
  rw [HKL.out] at HKR hkl ⊢
  obtain ⟨S1, HS1⟩ := hid_ex (sfSettle s (max n 0).toNat)
  have HS1f : Hid (S1.fls = s.fls ∧ S1.pend = []) := by rw [HS1.out]; exact ⟨rfl, rfl⟩
  rw [← HS1.out] at HSt HOl HOi HCr
  clear h hw hK hpn hol HRe HS1
  go_enter Try.func27, Try.ntmps27
  go_wp2_with fail
  refine HSt.out.mono ?_
  clear HSt
  rintro e w1 ⟨⟨u, rfl⟩, ⟨vo1, hr1⟩, ho1⟩
  have HR1 : Hid (RfAt w1 (Grw O w w1) g vf vd vo1 (.slice none 0 0) af ee fb va vb S1) := hr1
  have HO1 : Hid (Onl O w w1) := ho1
  have hc1 : RfC w1 g S1.room vf vd vo1 (.slice none 0 0) af ee := hr1.c
  have hc2 : RfC (w1.setCell ⟨g, 5, none⟩ (.int .i64 (-1))) g S1.room vf vd vo1 (.slice none 0 0) (-1) ee := hc1.s5 _
  obtain ⟨w2, HW2⟩ := hid_ex (w1.setCell ⟨g, 5, none⟩ (.int .i64 (-1)))
  rw [← HW2.out] at hc2
  have hc3 : RfC (w2.setCell ⟨g, 2, none⟩ (.slice none 0 0)) g S1.room vf (.slice none 0 0) vo1 (.slice none 0 0) (-1) ee := hc2.s2 _
  obtain ⟨w3, HW3⟩ := hid_ex (w2.setCell ⟨g, 2, none⟩ (.slice none 0 0))
  rw [← HW3.out] at hc3
  have a5 := cell_of hc1 5 _ rfl
  have b5 := hc1.fz 5
  have a2 := cell_of hc2 2 _ rfl
  have b2 := hc2.fz 2
  have hk3 : ∀ k, k ≠ g → w3.heap[k]? = w1.heap[k]? := fun k hk => by rw [HW3.out, Go.heap_setCell_other _ _ _ _ hk, HW2.out, Go.heap_setCell_other _ _ _ _ hk]
  have hs3 : w3.heap.size = w1.heap.size := by rw [HW3.out, HW2.out]; simp [World.setCell]
  have hon3 : Onl (Grw O w w1) w1 w3 := by
    rw [HW3.out, HW2.out]
    exact (Onl.set hr1.og _).then (Onl.set hr1.og _)
  rw [HW2.out] at a2 b2
  obtain ⟨oa, oc, hvo, hz1, hz2, hz3, hz4⟩ := GOwn.form hr1.ho
  clear hz1 hz2 hz3 hz4
  obtain ⟨OL, HOL⟩ : ∃ n, Hid (S1.old.length = n) := ⟨_, rfl⟩
  rw [HOL.out] at hvo
  subst hvo
  have hno3 : NOwn w3 (.slice oa OL oc) S1.old := GOwn.keep hr1.ho fun k hk => by
    obtain ⟨cur, hb⟩ := GOwn.block hr1.ho hk
    exact hk3 k (ty_ne hb hr1.c (by decide))
  have hno3d : NOwn w3.drew (.slice oa OL oc) S1.old := GOwn.keep hno3 (fun _ _ => rfl)
  obtain ⟨v4, w4, hrun, hn4, hgr4, hloc4⟩ := run_appN (w := w3.drew) 45 (.slice none 0 0) (.slice oa OL oc) [] S1.old (GOwn.nil _ _ _) (GOwn.src hno3d) (by have := HOl.out; simp; omega)
  rw [List.nil_append] at hn4
  have hk4 : ∀ k, k < w3.heap.size → w4.heap[k]? = w3.heap[k]? := fun k hk => hgr4.block k hk (by simp [Value.ownBlock])
  have hs34 : w3.heap.size ≤ w4.heap.size := hgr4.size
  have hgl : g < w3.heap.size := by rw [hs3]; exact hr1.lt g hr1.og
  have hc4 : RfC w4 g S1.room vf (.slice none 0 0) (.slice oa OL oc) (.slice none 0 0) (-1) ee := (hk4 g hgl).trans hc3
  obtain ⟨a4, c4, hv4, hz1, hz2, hz3, hz4⟩ := GOwn.form hn4
  rw [HOL.out] at hv4
  subst hv4
  clear hz1 hz2 hz3 hz4
  obtain ⟨w5, HW5⟩ := hid_ex (w4.setCell ⟨g, 2, none⟩ (.slice a4 OL c4))
  have hc5 : RfC w5 g S1.room vf (.slice a4 OL c4) (.slice oa OL oc) (.slice none 0 0) (-1) ee := by rw [HW5.out]; exact hc4.s2 _
  have hk5 : ∀ k, k ≠ g → w5.heap[k]? = w4.heap[k]? := fun k hk => by rw [HW5.out, Go.heap_setCell_other _ _ _ _ hk]
  have hs5 : w5.heap.size = w4.heap.size := by rw [HW5.out]; simp [World.setCell]
  have hon5 : Onl O w w5 := by
    have h34 : Onl (Grw O w w1) w3 w4 := (onl_of_below (Below.refl w3.heap.size w3).drew : Onl (Grw O w w1) w3 w3.drew).then (Onl.grown hgr4 (fun k hk => by simp [Value.ownBlock] at hk))
    have h45 : Onl (Grw O w w1) w4 w5 := by rw [HW5.out]; exact Onl.set hr1.og _
    exact ho1.trans ((hon3.then h34).then h45)
  have HO5 : Hid (Onl O w w5) := hon5
  have hsw1 := ho1.size
  have HR5 : Hid (RfAt w5 (Grw O w w5) g vf (.slice a4 OL c4) (.slice oa OL oc) (.slice none 0 0) (-1) ee fb va vb { S1 with dir := S1.old, fault := 0 }) := by
    have hO15 : ∀ k, Grw O w w1 k → Grw O w w5 k := fun k hk => by
      rcases hk with q | q
      · exact .inl q
      · exact .inr (by omega)
    have hkr : ∀ k, k < w1.heap.size → k ≠ g → w5.heap[k]? = w1.heap[k]? := fun k hk hg => (hk5 k hg).trans ((hk4 k (by omega)).trans (hk3 k hg))
    have hrow : ∀ {v : Value} {e : TypeId} {n m : Nat} {xs : List Value}, GOwn w1 e m v n xs → e ≠ 48 → GOwn w5 e m v n xs := fun hg h1 => hg.keep fun k hk' => by
      obtain ⟨cur, hb⟩ := hg.block hk'
      exact hkr k (Array.getElem?_eq_some_iff.1 hb).1 (ty_ne hb hr1.c h1)
    have := hr1.re (D := S1.old) (P := S1.old) (A := S1.pend) (L := S1.left) (F := 0) hO15 (Grw.lt HLt.out hon5.size) (fun k ho hg _ => hkr k (hr1.lt k ho) hg) hc5 (.inl ⟨rfl, rfl⟩) (GOwn.keep hn4 fun k hk => hk5 k (fun e => by
      subst e
      obtain ⟨cur, hb⟩ := GOwn.block hn4 hk
      exact ty_ne hb hc4 (by decide) rfl)) (hrow hr1.ho (by decide)) (hrow hr1.hp (by decide)) (fun k hk => by
        rcases hloc4 k hk with q | ⟨q1, q2⟩
        · simp [Value.ownBlock] at q
        · have h9 : w3.heap.size ≤ k := q1
          exact .inr (by omega)) (fun k hk => hO15 k (hr1.oo k hk)) (fun k hk => hO15 k (hr1.op k hk))
    exact this
  have HC3 : Hid (RfC w3 g S1.room vf (.slice none 0 0) (.slice oa OL oc) (.slice none 0 0) (-1) ee) := hc3
  have HC4 : Hid (RfC w4 g S1.room vf (.slice none 0 0) (.slice oa OL oc) (.slice none 0 0) (-1) ee) := hc4
  have HC5 : Hid (RfC w5 g S1.room vf (.slice a4 OL c4) (.slice oa OL oc) (.slice none 0 0) (-1) ee) := hc5
  clear hr1 ho1 hc1 hc2 hc3 hc4 hc5 hk3 hs3 hon3 hno3 hno3d hn4 hgr4 hloc4 hk4 hs34 hgl hk5 hs5 hon5 hsw1
  rw [HW2.out] at HW3
  go_wp2_with fail
  rw [← HW3.out]
  refine wp_region_noPanic ?_
  refine wp_region_S 12 (fun w' => w'.cell? ⟨g, 3, none⟩ = some (.slice oa OL oc)) (fun w' => w'.cell? ⟨g, 2, none⟩ = some (.slice none 0 0)) (by kernel_rfl) ?_ ?_ (fun hHeld => ?_)
  · exact cell_of HC3.out 3 _ rfl
  · exact cell_of HC3.out 2 _ rfl
  refine wpAnyS_take (i := 0) (v := .pointer (some ⟨g, 0, none⟩)) _ rfl (by kernel_rfl) (by kernel_rfl) (by kernel_rfl) (by kernel_rfl) (by kernel_rfl) rfl (fun _ _ _ h => h) (Or.inl ⟨by rfl, ?_⟩) hHeld (fun hHeld => ?_)
  · (intro w1 hSw; have hSw := hSw.1; (try dsimp only at hSw); go_simp)
  simp only [List.getElem_toArray, List.getElem_cons_zero, Act.put, List.setIfInBounds_toArray, List.set_cons_zero, List.set_cons_succ]
  refine wpAnyS_take (i := 1) (v := .pointer (some ⟨g, 0, none⟩)) _ rfl (by kernel_rfl) (by kernel_rfl) (by kernel_rfl) (by kernel_rfl) (by kernel_rfl) rfl (fun _ _ _ h => h) (Or.inl ⟨by rfl, ?_⟩) hHeld (fun hHeld => ?_)
  · (intro w1 hSw; have hSw := hSw.1; (try dsimp only at hSw); go_simp)
  simp only [List.getElem_toArray, List.getElem_cons_succ, List.getElem_cons_zero, Act.put, List.setIfInBounds_toArray, List.set_cons_zero, List.set_cons_succ]
  refine wpAnyS_take (i := 2) (v := .pointer (some ⟨g, 0, none⟩)) _ rfl (by kernel_rfl) (by kernel_rfl) (by kernel_rfl) (by kernel_rfl) (by kernel_rfl) rfl (fun _ _ _ h => h) (Or.inl ⟨by rfl, ?_⟩) hHeld (fun hHeld => ?_)
  · (intro w1 hSw; have hSw := hSw.1; (try dsimp only at hSw); go_simp)
  simp only [List.getElem_toArray, List.getElem_cons_succ, List.getElem_cons_zero, Act.put, List.setIfInBounds_toArray, List.set_cons_zero, List.set_cons_succ]
  refine wpAnyS_take (i := 3) (v := .pointer (some ⟨g, 2, none⟩)) _ rfl (by kernel_rfl) (by kernel_rfl) (by kernel_rfl) (by kernel_rfl) (by kernel_rfl) rfl (fun _ _ _ h => h) (Or.inl ⟨by rfl, ?_⟩) hHeld (fun hHeld => ?_)
  · (intro w1 hSw; have hSw := hSw.1; (try dsimp only at hSw); go_simp)
  simp only [List.getElem_toArray, List.getElem_cons_succ, List.getElem_cons_zero, Act.put, List.setIfInBounds_toArray, List.set_cons_zero, List.set_cons_succ]
  refine wpAnyS_take (i := 4) (v := .slice none 0 0) true rfl (by kernel_rfl) (by kernel_rfl) (by kernel_rfl) (by kernel_rfl) (by kernel_rfl) (by kernel_rfl) (fun _ _ _ h => h) (Or.inl ⟨by rfl, ?_⟩) hHeld (fun hHeld => ?_)
  · (intro w1 hSw; have hSw2 := hSw.2 rfl; have hSw := hSw.1; (try dsimp only at hSw hSw2); go_simp)
  simp only [List.getElem_toArray, List.getElem_cons_succ, List.getElem_cons_zero, Act.put, List.setIfInBounds_toArray, List.set_cons_zero, List.set_cons_succ]
  refine wpAnyS_take (i := 5) (v := .pointer (some ⟨g, 0, none⟩)) _ rfl (by kernel_rfl) (by kernel_rfl) (by kernel_rfl) (by kernel_rfl) (by kernel_rfl) rfl (fun _ _ _ h => h) (Or.inl ⟨by rfl, ?_⟩) hHeld (fun hHeld => ?_)
  · (intro w1 hSw; have hSw := hSw.1; (try dsimp only at hSw); go_simp)
  simp only [List.getElem_toArray, List.getElem_cons_succ, List.getElem_cons_zero, Act.put, List.setIfInBounds_toArray, List.set_cons_zero, List.set_cons_succ]
  refine wpAnyS_take (i := 6) (v := .pointer (some ⟨g, 0, none⟩)) _ rfl (by kernel_rfl) (by kernel_rfl) (by kernel_rfl) (by kernel_rfl) (by kernel_rfl) rfl (fun _ _ _ h => h) (Or.inl ⟨by rfl, ?_⟩) hHeld (fun hHeld => ?_)
  · (intro w1 hSw; have hSw := hSw.1; (try dsimp only at hSw); go_simp)
  simp only [List.getElem_toArray, List.getElem_cons_succ, List.getElem_cons_zero, Act.put, List.setIfInBounds_toArray, List.set_cons_zero, List.set_cons_succ]
  refine wpAnyS_take (i := 7) (v := .pointer (some ⟨g, 3, none⟩)) _ rfl (by kernel_rfl) (by kernel_rfl) (by kernel_rfl) (by kernel_rfl) (by kernel_rfl) rfl (fun _ _ _ h => h) (Or.inl ⟨by rfl, ?_⟩) hHeld (fun hHeld => ?_)
  · (intro w1 hSw; have hSw := hSw.1; (try dsimp only at hSw); go_simp)
  simp only [List.getElem_toArray, List.getElem_cons_succ, List.getElem_cons_zero, Act.put, List.setIfInBounds_toArray, List.set_cons_zero, List.set_cons_succ]
  refine wpAnyS_take (i := 8) (v := .slice oa OL oc) _ rfl (by kernel_rfl) (by kernel_rfl) (by kernel_rfl) (by kernel_rfl) (by kernel_rfl) rfl (fun _ _ _ h => h) (Or.inl ⟨by rfl, ?_⟩) hHeld (fun hHeld => ?_)
  · (intro w1 hSw; have hSw := hSw.1; (try dsimp only at hSw); go_simp)
  simp only [List.getElem_toArray, List.getElem_cons_succ, List.getElem_cons_zero, Act.put, List.setIfInBounds_toArray, List.set_cons_zero, List.set_cons_succ]
  refine wpAnyS_ready (i := 9) (by kernel_rfl) rfl (fun K hK => ?_)
  refine wp_app_runG _ _ _ _ (by rfl) (by rfl) _ _ _ (by rfl) (by rfl) hrun ?_
  simp only [List.getElem_toArray, List.getElem_cons_succ, List.getElem_cons_zero, Act.put, List.setIfInBounds_toArray, List.set_cons_zero, List.set_cons_succ]
  refine hK.out _ _ ⟨?_, fun _ => ?_⟩ (fun hHeld => ?_)
  · exact cell_of HC4.out 3 _ rfl
  · exact cell_of HC4.out 2 _ rfl
  clear hK K
  refine wpAnyS_take (i := 10) (v := .pointer (some ⟨g, 0, none⟩)) _ rfl (by kernel_rfl) (by kernel_rfl) (by kernel_rfl) (by kernel_rfl) (by kernel_rfl) rfl (fun _ _ _ h => h) (Or.inl ⟨by rfl, ?_⟩) hHeld (fun hHeld => ?_)
  · (intro w1 hSw; have hSw := hSw.1; (try dsimp only at hSw); go_simp)
  simp only [List.getElem_toArray, List.getElem_cons_succ, List.getElem_cons_zero, Act.put, List.setIfInBounds_toArray, List.set_cons_zero, List.set_cons_succ]
  refine wpAnyS_take (i := 11) (v := .pointer (some ⟨g, 2, none⟩)) _ rfl (by kernel_rfl) (by kernel_rfl) (by kernel_rfl) (by kernel_rfl) (by kernel_rfl) rfl (fun _ _ _ h => h) (Or.inl ⟨by rfl, ?_⟩) hHeld (fun hHeld => ?_)
  · (intro w1 hSw; have hSw := hSw.1; (try dsimp only at hSw); go_simp)
  simp only [List.getElem_toArray, List.getElem_cons_succ, List.getElem_cons_zero, Act.put, List.setIfInBounds_toArray, List.set_cons_zero, List.set_cons_succ]
  have e2 := cell_of HC4.out 2 _ rfl
  have f2 := HC4.out.fz 2
  refine wpAnyS_ready (i := 12) (by kernel_rfl) rfl (fun K hK => ?_)
  go_simp
  rw [← HW5.out]
  refine hK.out _ _ ⟨?_, fun hno => absurd hno (by decide)⟩ (fun hHeld => ?_)
  · exact cell_of HC5.out 3 _ rfl
  clear hK K
  refine wpAnyS_done (by kernel_rfl) ?_ _
  refine NoPanic.normal ?_
  obtain ⟨S2, HS2⟩ := hid_ex ({ S1 with dir := S1.old, fault := 0 } : SfS)
  have HS2d : Hid (S2.dir = S1.old ∧ S2.fls = s.fls) := by rw [HS2.out]; exact ⟨rfl, HS1f.out.1⟩
  rw [← HS2.out] at HR5
  have HRq : Hid (R = { S2 with fls := sfCuts S2.dir ks S2.fls }) := by unfold Hid; rw [HCr.out, HS2d.out.1, HS2d.out.2, HS2.out]
  have HOi2 : Hid (∀ p ∈ S2.dir, p.2 < S2.fls.length) := by unfold Hid; rw [HS2d.out.1, HS2d.out.2]; exact HOi.out
  have HDL : Hid (S2.dir.length = OL) := by unfold Hid; rw [HS2d.out.1]; exact HOL.out
  have HOk2 : Hid (sfFlOk S2.fls) := by unfold Hid; rw [HS2d.out.2]; exact HOk.out
  have hOLb : OL ≤ 256 := by have := HOl.out; rw [HOL.out] at this; exact this
  clear hHeld e2 f2 a5 b5 a2 b2 hrun HC3 HC4 HC5 HW2 HW3 HW5 HR1 HO1 HCr HOi HOl HOk HS2 HS2d HS1f
  go_wp2_with fail
  go_loopw [6] (fun i wr => ∃ (j : Nat) (va' vb' : Nat → Value) (fls' : List (List UInt8 × Nat)), i = .int .i64 (j : Int) ∧ j ≤ OL ∧ Hid (RfAt wr (Grw O w wr) g vf (.slice a4 OL c4) (.slice oa OL oc) (.slice none 0 0) (-1) ee fb va' vb' { S2 with fls := fls' }) ∧ Hid (sfCuts (S2.dir.drop j) (ks.drop j) fls' = sfCuts S2.dir ks S2.fls) ∧ Hid (sfFlOk fls') ∧ Hid (fls'.length = S2.fls.length) ∧ Hid (Onl O w wr)) (fun i _ => OL - (intOf i).toNat)
  case atStart => exact ⟨0, va, vb, S2.fls, rfl, by omega, HR5, rfl, HOk2, rfl, HO5⟩
  case round =>
    clear HR5 HO5
    obtain ⟨j, va', vb', fls', rfl, hj, HRr, HCu, HFo, HFL, HO⟩ := hrel
    obtain ⟨k1, k2, k3, k4, _⟩ := HRr.out.c1
    by_cases hlt : j < OL
    · have hlt' : (j : Int) < (OL : Int) := by omega
      have hjd : j < S2.dir.length := by rw [HDL.out]; exact hlt
      obtain ⟨P, HP⟩ := hid_ex S2.dir[j]
      have HIx : Hid (P.2 < fls'.length) := by unfold Hid; rw [HFL.out, HP.out]; exact HOi2.out _ (List.getElem_mem hjd)
      have HStep : Hid (sfCuts S2.dir ks S2.fls = sfCuts (S2.dir.drop (j + 1)) (ks.drop (j + 1)) (fls'.set P.2 (sfCut (fls'.getD P.2 ([], 0)) ((ks.drop j).headD 0)))) := by unfold Hid; rw [← HCu.out, sfCuts_step hjd, ← HP.out]
      obtain ⟨nm, I⟩ := P
      simp only at HIx HStep
      have hhd := HRr.out.hd
      obtain ⟨q4, rfl⟩ : ∃ b : Nat, a4 = some ⟨b, 0, none⟩ := by
        obtain ⟨a', cap', e, _, _, h3, h4⟩ := GOwn.form hhd
        simp only [Value.slice.injEq] at e
        cases a4 with
        | none => exact absurd (h4 e.1.symm).1 (by show ¬ S2.dir.length = 0; omega)
        | some q => exact ⟨q.block, by rw [h3 q e.1.symm]⟩
      obtain ⟨_, x1⟩ := NOwn.at hhd j hjd
      have x1' : wr.cell? ⟨q4, j * 2 + 1, none⟩ = some (.int .i64 (I : Int)) := by rw [x1]; show some (Value.int IntKind.i64 ((S2.dir[j]).2 : Int)) = _; rw [← HP.out]
      obtain ⟨q, cap, hvf, hq, c0, d0, d1, hfb, hA, hB⟩ := HRr.out.file (i := I) HIx.out
      subst hvf
      have hfe : SfS.fl { S2 with fls := fls' } I = fls'.getD I ([], 0) := rfl
      rw [hfe] at hA hB
      obtain ⟨F, HF⟩ := hid_ex (fls'.getD I ([], 0))
      have hfk := flOk_len HFo.out I
      rw [← HF.out] at hA hB hfk HStep
      obtain ⟨X, y⟩ := F
      simp only at hA hB hfk
      obtain ⟨FLN, HFN⟩ : ∃ n, Hid (fls'.length = n) := ⟨_, rfl⟩
      have hIF := HIx.out
      have k1' : wr.cell? ⟨g, 1, none⟩ = some (.slice (some ⟨q, 0, none⟩) FLN cap) := by rw [← HFN.out]; exact k1
      rw [HFN.out] at hIF
      have hIF' : (I : Int) < (FLN : Int) := by omega
      obtain ⟨B0, HB0⟩ := hid_ex (fb I)
      rw [← HB0.out] at c0 d0 d1 hfb
      obtain ⟨aa, ca, hva, hz1, hz2, hz3, hz4⟩ := GOwn.form hA
      clear hz1 hz2 hz3 hz4
      obtain ⟨ab, cb, hvb, hz1, hz2, hz3, hz4⟩ := GOwn.form hB
      clear hz1 hz2 hz3 hz4
      obtain ⟨VA, HVA⟩ := hid_ex (va' I)
      obtain ⟨VB, HVB⟩ := hid_ex (vb' I)
      rw [← HVA.out] at hva hA d0
      rw [← HVB.out] at hvb hB d1
      obtain ⟨NA, HNA⟩ : ∃ n, Hid ((X.take y).length = n) := ⟨_, rfl⟩
      obtain ⟨NL, HNL⟩ : ∃ n, Hid ((X.drop y).length = n) := ⟨_, rfl⟩
      rw [HNA.out] at hva
      rw [HNL.out] at hvb
      subst hva
      subst hvb
      have HA : Hid (Reads wr (.slice aa NA ca) (X.take y)) := hA.reads
      have HB : Hid (Reads wr (.slice ab NL cb) (X.drop y)) := hB.reads
      have HXb : Hid (X.length ≤ 1048576 ∧ y ≤ X.length ∧ NL = X.length - y ∧ NA = y) := ⟨hfk.1, hfk.2, by rw [← HNL.out, List.length_drop], by rw [← HNA.out, List.length_take]; omega⟩
      have hbt : wr.heap[B0]? = some (.cells #[.slice aa NA ca, .slice ab NL cb] 79) := by
        have := HRr.out.fl.hf I _ (fl_at (s := { S2 with fls := fls' }) HIx.out)
        rw [← HB0.out, ← HVA.out, ← HVB.out] at this; exact this
      have HBt : Hid (wr.heap[B0]? = some (.cells #[.slice aa NA ca, .slice ab NL cb] 79)) := hbt
      have HKr : Hid (KReads wr (.slice ka KL kc) ks) := HKR.out wr HO.out
      have hgB : g ≠ B0 := ty_ne HRr.out.c hbt (by decide)
      have HGB : Hid (g ≠ B0 ∧ B0 < wr.heap.size) := ⟨hgB, hfb⟩
      have hNLb : NL ≤ 1048576 := by have := HXb.out; omega
      have hcb : NL ≤ cb := by
        obtain ⟨a', cap', e, h1, _⟩ := GOwn.form hB
        simp only [Value.slice.injEq] at e
        obtain ⟨_, h2, h3⟩ := e
        omega
      obtain ⟨KP, HKP⟩ := hid_ex ((ks.drop j).headD 0)
      have HKPv : Hid (KP = if h : j < ks.length then ks[j] else 0) := by rw [HKP.out]; exact headD_drop ks j
      rw [← HKP.out] at HStep
      have hjdl := hlt
      have HFd : Hid (sfCut (X, y) KP = sfCut (fls'.getD I ([], 0)) KP) := by rw [← HF.out]; rfl
      clear hhd x1 hA hB hfe hfk k1 k3 k4 hq hfb hIF HF hbt hgB HP HVA HVB
      go_wp2_with fail
      go_quiet (fail)
      obtain ⟨W1, HW1⟩ := hid_ex (wr.drewN nq)
      have hbq : Below wr.heap.size wr W1 := by rw [HW1.out]; exact below_dnR wr nq
      rw [← HW1.out]
      have HBq : Hid (Below wr.heap.size wr W1) := hbq
      have HT1 : Hid (W1.heap[B0]? = some (.cells #[.slice aa NA ca, .slice ab NL cb] 79)) := (hbq.block B0 HGB.out.2).trans HBt.out
      have HK1 : Hid (KReads W1 (.slice ka KL kc) ks) := HKr.out.below hbq
      have t1 := cell_of HT1.out 1 _ rfl
      clear k2 x1' c0 d0 d1 k1' hbq HW1
      by_cases hjk : j < KL
      · have hjk' : (j : Int) < (KL : Int) := by omega
        obtain ⟨ka', kc', ekk, _, hks⟩ := HK1.out
        simp only [Value.slice.injEq] at ekk
        obtain ⟨bk, ok, hka, hbk, hkc⟩ := hks.resolve_left (fun e => by have := HKL.out; rw [e] at this; simp at this; omega)
        have hka2 : ka = some ⟨bk, ok, none⟩ := by rw [← hka]; exact ekk.1
        subst hka2
        have hkj := hkc j (by rw [HKL.out]; exact hjk)
        have HKq : Hid (KP = ks[j]'(by rw [HKL.out]; exact hjk)) := by unfold Hid; rw [HKPv.out, dif_pos (by rw [HKL.out]; exact hjk)]
        rw [← HKq.out] at hkj
        clear hkc hks hka ekk hbk
        by_cases hpos : 0 < KP
        · by_cases hbig : (NL : Int) < KP
          · go_wp2_with fail
            have HMin : Hid (min (max KP 0).toNat NL = NL) := by unfold Hid; omega
            have hkN : NL ≤ NL := by have := HMin.out; omega
            have hsl : ∀ w', (Instr.slice 31 (.slice ab NL cb) none (some (.int .i64 (NL : Int))) none).run Try.prog w' = .ok (.slice ab NL cb) w' := fun w' => bsl_upto ab NL cb NL (by omega) w'
            have HCp : Hid (Calls Try.prog 17 #[.slice aa NA ca] W1.drew _) := copy5_any (w := W1.drew) ((HA.out.below HBq.out).below (Below.refl _ _).drew) (by rw [List.length_take]; have := HXb.out; omega)
            refine wp_region_noPanic ?_
            refine wp_region_S 15 (fun w' => w'.cell? ⟨B0, 1, none⟩ = some (.slice ab NL cb)) (fun w' => w'.cell? ⟨B0, 0, none⟩ = some (.slice aa NA ca)) (by kernel_rfl) ?_ ?_ (fun hHeld => ?_)
            · exact cell_of (w := W1.drew) HT1.out 1 _ rfl
            · exact cell_of (w := W1.drew) HT1.out 0 _ rfl
            refine wpAnyS_take (i := 0) (v := .pointer (some ⟨B0, 0, none⟩)) _ rfl (by kernel_rfl) (by kernel_rfl) (by kernel_rfl) (by kernel_rfl) (by kernel_rfl) rfl (fun _ _ _ h => h) (Or.inl ⟨by rfl, ?_⟩) hHeld (fun hHeld => ?_)
            · (intro w1 hSw; have hSw := hSw.1; (try dsimp only at hSw); go_simp)
            simp only [List.getElem_toArray, List.getElem_cons_zero, Act.put, List.setIfInBounds_toArray, List.set_cons_zero, List.set_cons_succ]
            refine wpAnyS_take (i := 1) (v := .pointer (some ⟨B0, 0, none⟩)) _ rfl (by kernel_rfl) (by kernel_rfl) (by kernel_rfl) (by kernel_rfl) (by kernel_rfl) rfl (fun _ _ _ h => h) (Or.inl ⟨by rfl, ?_⟩) hHeld (fun hHeld => ?_)
            · (intro w1 hSw; have hSw := hSw.1; (try dsimp only at hSw); go_simp)
            simp only [List.getElem_toArray, List.getElem_cons_succ, List.getElem_cons_zero, Act.put, List.setIfInBounds_toArray, List.set_cons_zero, List.set_cons_succ]
            refine wpAnyS_take (i := 2) (v := .pointer (some ⟨B0, 0, none⟩)) _ rfl (by kernel_rfl) (by kernel_rfl) (by kernel_rfl) (by kernel_rfl) (by kernel_rfl) rfl (fun _ _ _ h => h) (Or.inl ⟨by rfl, ?_⟩) hHeld (fun hHeld => ?_)
            · (intro w1 hSw; have hSw := hSw.1; (try dsimp only at hSw); go_simp)
            simp only [List.getElem_toArray, List.getElem_cons_succ, List.getElem_cons_zero, Act.put, List.setIfInBounds_toArray, List.set_cons_zero, List.set_cons_succ]
            refine wpAnyS_take (i := 3) (v := .pointer (some ⟨B0, 0, none⟩)) _ rfl (by kernel_rfl) (by kernel_rfl) (by kernel_rfl) (by kernel_rfl) (by kernel_rfl) rfl (fun _ _ _ h => h) (Or.inl ⟨by rfl, ?_⟩) hHeld (fun hHeld => ?_)
            · (intro w1 hSw; have hSw := hSw.1; (try dsimp only at hSw); go_simp)
            simp only [List.getElem_toArray, List.getElem_cons_succ, List.getElem_cons_zero, Act.put, List.setIfInBounds_toArray, List.set_cons_zero, List.set_cons_succ]
            refine wpAnyS_take (i := 4) (v := .slice aa NA ca) true rfl (by kernel_rfl) (by kernel_rfl) (by kernel_rfl) (by kernel_rfl) (by kernel_rfl) (by kernel_rfl) (fun _ _ _ h => h) (Or.inl ⟨by rfl, ?_⟩) hHeld (fun hHeld => ?_)
            · (intro w1 hSw; have hSw2 := hSw.2 rfl; have hSw := hSw.1; (try dsimp only at hSw hSw2); go_simp)
            simp only [List.getElem_toArray, List.getElem_cons_succ, List.getElem_cons_zero, Act.put, List.setIfInBounds_toArray, List.set_cons_zero, List.set_cons_succ]
            refine wpAnyS_take (i := 6) (v := .pointer (some ⟨B0, 0, none⟩)) _ rfl (by kernel_rfl) (by kernel_rfl) (by kernel_rfl) (by kernel_rfl) (by kernel_rfl) rfl (fun _ _ _ h => h) (Or.inl ⟨by rfl, ?_⟩) hHeld (fun hHeld => ?_)
            · (intro w1 hSw; have hSw := hSw.1; (try dsimp only at hSw); go_simp)
            simp only [List.getElem_toArray, List.getElem_cons_succ, List.getElem_cons_zero, Act.put, List.setIfInBounds_toArray, List.set_cons_zero, List.set_cons_succ]
            refine wpAnyS_take (i := 7) (v := .pointer (some ⟨B0, 0, none⟩)) _ rfl (by kernel_rfl) (by kernel_rfl) (by kernel_rfl) (by kernel_rfl) (by kernel_rfl) rfl (fun _ _ _ h => h) (Or.inl ⟨by rfl, ?_⟩) hHeld (fun hHeld => ?_)
            · (intro w1 hSw; have hSw := hSw.1; (try dsimp only at hSw); go_simp)
            simp only [List.getElem_toArray, List.getElem_cons_succ, List.getElem_cons_zero, Act.put, List.setIfInBounds_toArray, List.set_cons_zero, List.set_cons_succ]
            refine wpAnyS_take (i := 8) (v := .pointer (some ⟨B0, 1, none⟩)) _ rfl (by kernel_rfl) (by kernel_rfl) (by kernel_rfl) (by kernel_rfl) (by kernel_rfl) rfl (fun _ _ _ h => h) (Or.inl ⟨by rfl, ?_⟩) hHeld (fun hHeld => ?_)
            · (intro w1 hSw; have hSw := hSw.1; (try dsimp only at hSw); go_simp)
            simp only [List.getElem_toArray, List.getElem_cons_succ, List.getElem_cons_zero, Act.put, List.setIfInBounds_toArray, List.set_cons_zero, List.set_cons_succ]
            refine wpAnyS_take (i := 9) (v := .slice ab NL cb) _ rfl (by kernel_rfl) (by kernel_rfl) (by kernel_rfl) (by kernel_rfl) (by kernel_rfl) rfl (fun _ _ _ h => h) (Or.inl ⟨by rfl, ?_⟩) hHeld (fun hHeld => ?_)
            · (intro w1 hSw; have hSw := hSw.1; (try dsimp only at hSw); go_simp)
            simp only [List.getElem_toArray, List.getElem_cons_succ, List.getElem_cons_zero, Act.put, List.setIfInBounds_toArray, List.set_cons_zero, List.set_cons_succ]
            refine wpAnyS_take (i := 10) (v := .int .i64 (NL : Int)) _ rfl (by kernel_rfl) (by kernel_rfl) (by kernel_rfl) (by kernel_rfl) (by kernel_rfl) rfl (fun _ _ _ h => h) (Or.inl ⟨by rfl, ?_⟩) hHeld (fun hHeld => ?_)
            · (intro w1 hSw; have hSw := hSw.1; (try dsimp only at hSw); go_simp)
            simp only [List.getElem_toArray, List.getElem_cons_succ, List.getElem_cons_zero, Act.put, List.setIfInBounds_toArray, List.set_cons_zero, List.set_cons_succ]
            refine wpAnyS_take (i := 11) (v := .slice ab NL cb) _ rfl (by kernel_rfl) (by kernel_rfl) (by kernel_rfl) (by kernel_rfl) (by kernel_rfl) rfl (fun _ _ _ h => h) (Or.inl ⟨by rfl, ?_⟩) hHeld (fun hHeld => ?_)
            · (intro w1 hSw; have hSw := hSw.1; (try dsimp only at hSw); go_simp)
            simp only [List.getElem_toArray, List.getElem_cons_succ, List.getElem_cons_zero, Act.put, List.setIfInBounds_toArray, List.set_cons_zero, List.set_cons_succ]
            refine wpAnyS_ready (i := 5) (by kernel_rfl) rfl (fun K hK => ?_)
            go_simp
            refine HCp.out.mono ?_
            clear HCp
            rintro e w2 ⟨v2, rfl, ho2, hb2⟩
            have hb12 : Below W1.heap.size W1 w2 := (Below.refl W1.heap.size W1).drew.trans hb2
            have hr2 : Below wr.heap.size wr w2 := HBq.out.trans (hb12.mono HBq.out.size)
            have HT2 : Hid (w2.heap[B0]? = some (.cells #[.slice aa NA ca, .slice ab NL cb] 79)) := (hr2.block B0 HGB.out.2).trans HBt.out
            have ho2' : Own w2 wr.heap.size v2 (X.take y) := ho2.mono HBq.out.size
            have hrd2 : Reads w2 (.slice ab NL cb) ((X.drop y).take NL) := (reads_upto HB.out hkN HNL.out.symm).below hr2
            have hJ : X.take (y + NL) = X.take y ++ (X.drop y).take NL := List.take_add
            obtain ⟨v3, w3, hrun3, ho3, hb3⟩ := run_app 31 wr.heap.size v2 (.slice ab NL cb) (X.take y) ((X.drop y).take NL) (X.take (y + NL)) hJ ho2' hrd2 (by have h1 := HXb.out; rw [List.length_take, List.length_take, List.length_drop]; omega) hr2.size
            have hr3 : Below wr.heap.size wr w3 := hr2.trans hb3.out
            have HR3 : Hid (Below wr.heap.size wr w3) := hr3
            have HT3 : Hid (w3.heap[B0]? = some (.cells #[.slice aa NA ca, .slice ab NL cb] 79)) := (hr3.block B0 HGB.out.2).trans HBt.out
            have HO3 : Hid (Own w3 wr.heap.size v3 (X.take (y + NL))) := ho3
            obtain ⟨a3, c3, hv3, _⟩ := ho3.form
            obtain ⟨a2, c2, hv2, _⟩ := ho2.form
            obtain ⟨N3, HN3⟩ : ∃ n, Hid ((X.take (y + NL)).length = n) := ⟨_, rfl⟩
            rw [HN3.out] at hv3
            rw [HNA.out] at hv2
            subst hv3
            subst hv2
            obtain ⟨w4, HW4⟩ := hid_ex (w3.setCell ⟨B0, 0, none⟩ (.slice a3 N3 c3))
            have hT4 : w4.heap[B0]? = some (.cells #[.slice a3 N3 c3, .slice ab NL cb] 79) := by
              rw [HW4.out]
              have := cells_set HT3.out 0 (.slice a3 N3 c3); simpa using this
            have HT4 : Hid (w4.heap[B0]? = some (.cells #[.slice a3 N3 c3, .slice ab NL cb] 79)) := hT4
            obtain ⟨w5, HW5⟩ := hid_ex (w4.setCell ⟨B0, 1, none⟩ (.slice none 0 0))
            have hT5 : w5.heap[B0]? = some (.cells #[.slice a3 N3 c3, .slice none 0 0] 79) := by
              rw [HW5.out]
              have := cells_set hT4 1 (.slice none 0 0); simpa using this
            have hk5 : ∀ k, k ≠ B0 → w5.heap[k]? = w3.heap[k]? := fun k hk => by rw [HW5.out, Go.heap_setCell_other _ _ _ _ hk, HW4.out, Go.heap_setCell_other _ _ _ _ hk]
            have hs5 : w5.heap.size = w3.heap.size := by rw [HW5.out, HW4.out]; simp [World.setCell]
            have hon : Onl O w w5 := by
              have hOB : Grw O w wr B0 := by rw [HB0.out]; exact HRr.out.fl.ob I HIx.out
              have h15 : Onl (Grw O w wr) wr w5 := by
                rw [HW5.out, HW4.out]
                exact ((onl_of_below hr3 : Onl (Grw O w wr) wr w3).then (Onl.set hOB _)).then (Onl.set hOB _)
              exact HO.out.trans h15
            have HO5 : Hid (Onl O w w5) := hon
            have hsz3 := hr3.size
            have hszw := HO.out.size
            have HCt : Hid (sfCut (X, y) KP = (X.take (y + NL), y + NL)) := by
              unfold Hid sfCut
              simp only
              rw [← HXb.out.2.2.1, HMin.out]
            have HR5 : Hid (RfAt w5 (Grw O w w5) g (.slice (some ⟨q, 0, none⟩) fls'.length cap) (.slice (some ⟨q4, 0, none⟩) OL c4) (.slice oa OL oc) (.slice none 0 0) (-1) ee fb (updF va' I (.slice a3 N3 c3)) (updF vb' I (.slice none 0 0)) { S2 with fls := fls'.set I (sfCut (X, y) KP) }) := by
              have hr := HRr.out.setI (i := I) (O' := Grw O w w5) (f := (X.take (y + NL), y + NL)) (a' := .slice a3 N3 c3) (b' := .slice none 0 0) (fun k hk => by
                rcases hk with q | q
                · exact .inl q
                · exact .inr (by omega)) (Grw.lt HLt.out hon.size) HIx.out (fun k ho hb _ => (hk5 k (by rw [HB0.out]; exact hb)).trans (hr3.block k (HRr.out.lt k ho))) (by rw [← HB0.out]; exact hT5) (by
                  simp only
                  rw [List.take_of_length_le (by rw [List.length_take]; omega)]
                  have hbo := own_bown HO3.out
                  rw [HN3.out.symm] at hbo
                  exact GOwn.keep (own_bown HO3.out) fun k hk => hk5 k (fun e => by
                    subst e
                    obtain ⟨cur, hb⟩ := GOwn.block (own_bown HO3.out) hk
                    exact ty_ne hb HT3.out (by decide) rfl)) (by
                  simp only
                  rw [List.drop_eq_nil_of_le (by rw [List.length_take]; omega)]
                  exact GOwn.nil _ _ _) (fun k q => by
                    have h1 := own_block HO3.out k q
                    have h2 : k < w3.heap.size := by
                      obtain ⟨cur, hb⟩ := GOwn.block (own_bown HO3.out) q
                      exact (Array.getElem?_eq_some_iff.1 hb).1
                    exact .inr ⟨h1, .inr (by omega)⟩) (fun k q => by simp [Value.ownBlock] at q) (fun k q => by simp [Value.ownBlock] at q)
              rw [HCt.out]
              exact hr
            have HCu5 : Hid (sfCuts (S2.dir.drop (j + 1)) (ks.drop (j + 1)) (fls'.set I (sfCut (X, y) KP)) = sfCuts S2.dir ks S2.fls) := HStep.out.symm
            have HFo5 : Hid (sfFlOk (fls'.set I (sfCut (X, y) KP))) := by
              rw [HFd.out]
              exact HFo.out.cut I KP
            have HFL5 : Hid ((fls'.set I (sfCut (X, y) KP)).length = S2.fls.length) := by unfold Hid; rw [List.length_set]; exact HFL.out
            have e0 := cell_of HT3.out 0 _ rfl
            have f0 : w3.frozen? ⟨B0, 0, none⟩ = false := by simp [World.frozen?, HT3.out]
            have e1 := cell_of HT4.out 1 _ rfl
            have f1 : w4.frozen? ⟨B0, 1, none⟩ = false := by simp [World.frozen?, HT4.out]
            clear hb2 hb12 hr2 ho2 ho2' hrd2 hJ ho3 hb3 hr3 hT4 hT5 hk5 hs5 hon hsz3 hszw
            go_simp
            refine hK.out _ _ ⟨?_, fun _ => ?_⟩ (fun hHeld => ?_)
            · exact cell_of HT2.out 1 _ rfl
            · exact cell_of HT2.out 0 _ rfl
            clear hK K
            refine wpAnyS_ready (i := 12) (by kernel_rfl) rfl (fun K hK => ?_)
            refine wp_app_runG _ _ _ _ (by rfl) (by rfl) _ _ _ (by rfl) (by rfl) hrun3 ?_
            simp only [List.getElem_toArray, List.getElem_cons_succ, List.getElem_cons_zero, Act.put, List.setIfInBounds_toArray, List.set_cons_zero, List.set_cons_succ]
            refine hK.out _ _ ⟨?_, fun _ => ?_⟩ (fun hHeld => ?_)
            · exact cell_of HT3.out 1 _ rfl
            · exact cell_of HT3.out 0 _ rfl
            clear hK K
            refine wpAnyS_take (i := 13) (v := .pointer (some ⟨B0, 0, none⟩)) _ rfl (by kernel_rfl) (by kernel_rfl) (by kernel_rfl) (by kernel_rfl) (by kernel_rfl) rfl (fun _ _ _ h => h) (Or.inl ⟨by rfl, ?_⟩) hHeld (fun hHeld => ?_)
            · (intro w1 hSw; have hSw := hSw.1; (try dsimp only at hSw); go_simp)
            simp only [List.getElem_toArray, List.getElem_cons_succ, List.getElem_cons_zero, Act.put, List.setIfInBounds_toArray, List.set_cons_zero, List.set_cons_succ]
            refine wpAnyS_take (i := 14) (v := .pointer (some ⟨B0, 0, none⟩)) _ rfl (by kernel_rfl) (by kernel_rfl) (by kernel_rfl) (by kernel_rfl) (by kernel_rfl) rfl (fun _ _ _ h => h) (Or.inl ⟨by rfl, ?_⟩) hHeld (fun hHeld => ?_)
            · (intro w1 hSw; have hSw := hSw.1; (try dsimp only at hSw); go_simp)
            simp only [List.getElem_toArray, List.getElem_cons_succ, List.getElem_cons_zero, Act.put, List.setIfInBounds_toArray, List.set_cons_zero, List.set_cons_succ]
            refine wpAnyS_ready (i := 15) (by kernel_rfl) rfl (fun K hK => ?_)
            go_simp
            rw [← HW4.out]
            refine hK.out _ _ ⟨?_, fun hno => absurd hno (by decide)⟩ (fun hHeld => ?_)
            · exact cell_of HT4.out 1 _ rfl
            clear hK K
            refine wpAnyS_done (by kernel_rfl) ?_ _
            refine NoPanic.normal ?_
            clear hHeld e0 f0 hrun3 hsl t1
            go_wp2_with fail
            rw [← HW5.out]
            go_roundw
            case rel => exact ⟨j + 1, _, _, _, by go_num, by omega, HR5, HCu5, HFo5, HFL5, HO5⟩
            case measure => simp [intOf]; omega
          · obtain ⟨K0, HK0⟩ : ∃ n : Nat, Hid (KP = (n : Int)) := ⟨KP.toNat, by unfold Hid; omega⟩
            have hbig2 : ¬ (NL : Int) < (K0 : Int) := by rw [← HK0.out]; exact hbig
            have hpos2 : (0 : Int) < (K0 : Int) := by rw [← HK0.out]; exact hpos
            rw [HK0.out] at hkj
            go_wp2_with fail
            have HMin : Hid (min (max KP 0).toNat NL = K0) := by unfold Hid; have := HK0.out; omega
            have hkN : K0 ≤ NL := by have := HMin.out; omega
            have hsl : ∀ w', (Instr.slice 31 (.slice ab NL cb) none (some (.int .i64 (K0 : Int))) none).run Try.prog w' = .ok (.slice ab K0 cb) w' := fun w' => bsl_upto ab NL cb K0 (by omega) w'
            have HCp : Hid (Calls Try.prog 17 #[.slice aa NA ca] W1.drew _) := copy5_any (w := W1.drew) ((HA.out.below HBq.out).below (Below.refl _ _).drew) (by rw [List.length_take]; have := HXb.out; omega)
            refine wp_region_noPanic ?_
            refine wp_region_S 15 (fun w' => w'.cell? ⟨B0, 1, none⟩ = some (.slice ab NL cb)) (fun w' => w'.cell? ⟨B0, 0, none⟩ = some (.slice aa NA ca)) (by kernel_rfl) ?_ ?_ (fun hHeld => ?_)
            · exact cell_of (w := W1.drew) HT1.out 1 _ rfl
            · exact cell_of (w := W1.drew) HT1.out 0 _ rfl
            refine wpAnyS_take (i := 0) (v := .pointer (some ⟨B0, 0, none⟩)) _ rfl (by kernel_rfl) (by kernel_rfl) (by kernel_rfl) (by kernel_rfl) (by kernel_rfl) rfl (fun _ _ _ h => h) (Or.inl ⟨by rfl, ?_⟩) hHeld (fun hHeld => ?_)
            · (intro w1 hSw; have hSw := hSw.1; (try dsimp only at hSw); go_simp)
            simp only [List.getElem_toArray, List.getElem_cons_zero, Act.put, List.setIfInBounds_toArray, List.set_cons_zero, List.set_cons_succ]
            refine wpAnyS_take (i := 1) (v := .pointer (some ⟨B0, 0, none⟩)) _ rfl (by kernel_rfl) (by kernel_rfl) (by kernel_rfl) (by kernel_rfl) (by kernel_rfl) rfl (fun _ _ _ h => h) (Or.inl ⟨by rfl, ?_⟩) hHeld (fun hHeld => ?_)
            · (intro w1 hSw; have hSw := hSw.1; (try dsimp only at hSw); go_simp)
            simp only [List.getElem_toArray, List.getElem_cons_succ, List.getElem_cons_zero, Act.put, List.setIfInBounds_toArray, List.set_cons_zero, List.set_cons_succ]
            refine wpAnyS_take (i := 2) (v := .pointer (some ⟨B0, 0, none⟩)) _ rfl (by kernel_rfl) (by kernel_rfl) (by kernel_rfl) (by kernel_rfl) (by kernel_rfl) rfl (fun _ _ _ h => h) (Or.inl ⟨by rfl, ?_⟩) hHeld (fun hHeld => ?_)
            · (intro w1 hSw; have hSw := hSw.1; (try dsimp only at hSw); go_simp)
            simp only [List.getElem_toArray, List.getElem_cons_succ, List.getElem_cons_zero, Act.put, List.setIfInBounds_toArray, List.set_cons_zero, List.set_cons_succ]
            refine wpAnyS_take (i := 3) (v := .pointer (some ⟨B0, 0, none⟩)) _ rfl (by kernel_rfl) (by kernel_rfl) (by kernel_rfl) (by kernel_rfl) (by kernel_rfl) rfl (fun _ _ _ h => h) (Or.inl ⟨by rfl, ?_⟩) hHeld (fun hHeld => ?_)
            · (intro w1 hSw; have hSw := hSw.1; (try dsimp only at hSw); go_simp)
            simp only [List.getElem_toArray, List.getElem_cons_succ, List.getElem_cons_zero, Act.put, List.setIfInBounds_toArray, List.set_cons_zero, List.set_cons_succ]
            refine wpAnyS_take (i := 4) (v := .slice aa NA ca) true rfl (by kernel_rfl) (by kernel_rfl) (by kernel_rfl) (by kernel_rfl) (by kernel_rfl) (by kernel_rfl) (fun _ _ _ h => h) (Or.inl ⟨by rfl, ?_⟩) hHeld (fun hHeld => ?_)
            · (intro w1 hSw; have hSw2 := hSw.2 rfl; have hSw := hSw.1; (try dsimp only at hSw hSw2); go_simp)
            simp only [List.getElem_toArray, List.getElem_cons_succ, List.getElem_cons_zero, Act.put, List.setIfInBounds_toArray, List.set_cons_zero, List.set_cons_succ]
            refine wpAnyS_take (i := 6) (v := .pointer (some ⟨B0, 0, none⟩)) _ rfl (by kernel_rfl) (by kernel_rfl) (by kernel_rfl) (by kernel_rfl) (by kernel_rfl) rfl (fun _ _ _ h => h) (Or.inl ⟨by rfl, ?_⟩) hHeld (fun hHeld => ?_)
            · (intro w1 hSw; have hSw := hSw.1; (try dsimp only at hSw); go_simp)
            simp only [List.getElem_toArray, List.getElem_cons_succ, List.getElem_cons_zero, Act.put, List.setIfInBounds_toArray, List.set_cons_zero, List.set_cons_succ]
            refine wpAnyS_take (i := 7) (v := .pointer (some ⟨B0, 0, none⟩)) _ rfl (by kernel_rfl) (by kernel_rfl) (by kernel_rfl) (by kernel_rfl) (by kernel_rfl) rfl (fun _ _ _ h => h) (Or.inl ⟨by rfl, ?_⟩) hHeld (fun hHeld => ?_)
            · (intro w1 hSw; have hSw := hSw.1; (try dsimp only at hSw); go_simp)
            simp only [List.getElem_toArray, List.getElem_cons_succ, List.getElem_cons_zero, Act.put, List.setIfInBounds_toArray, List.set_cons_zero, List.set_cons_succ]
            refine wpAnyS_take (i := 8) (v := .pointer (some ⟨B0, 1, none⟩)) _ rfl (by kernel_rfl) (by kernel_rfl) (by kernel_rfl) (by kernel_rfl) (by kernel_rfl) rfl (fun _ _ _ h => h) (Or.inl ⟨by rfl, ?_⟩) hHeld (fun hHeld => ?_)
            · (intro w1 hSw; have hSw := hSw.1; (try dsimp only at hSw); go_simp)
            simp only [List.getElem_toArray, List.getElem_cons_succ, List.getElem_cons_zero, Act.put, List.setIfInBounds_toArray, List.set_cons_zero, List.set_cons_succ]
            refine wpAnyS_take (i := 9) (v := .slice ab NL cb) _ rfl (by kernel_rfl) (by kernel_rfl) (by kernel_rfl) (by kernel_rfl) (by kernel_rfl) rfl (fun _ _ _ h => h) (Or.inl ⟨by rfl, ?_⟩) hHeld (fun hHeld => ?_)
            · (intro w1 hSw; have hSw := hSw.1; (try dsimp only at hSw); go_simp)
            simp only [List.getElem_toArray, List.getElem_cons_succ, List.getElem_cons_zero, Act.put, List.setIfInBounds_toArray, List.set_cons_zero, List.set_cons_succ]
            refine wpAnyS_take (i := 10) (v := .int .i64 (K0 : Int)) _ rfl (by kernel_rfl) (by kernel_rfl) (by kernel_rfl) (by kernel_rfl) (by kernel_rfl) rfl (fun _ _ _ h => h) (Or.inl ⟨by rfl, ?_⟩) hHeld (fun hHeld => ?_)
            · (intro w1 hSw; have hSw := hSw.1; (try dsimp only at hSw); go_simp)
            simp only [List.getElem_toArray, List.getElem_cons_succ, List.getElem_cons_zero, Act.put, List.setIfInBounds_toArray, List.set_cons_zero, List.set_cons_succ]
            refine wpAnyS_take (i := 11) (v := .slice ab K0 cb) _ rfl (by kernel_rfl) (by kernel_rfl) (by kernel_rfl) (by kernel_rfl) (by kernel_rfl) rfl (fun _ _ _ h => h) (Or.inl ⟨by rfl, ?_⟩) hHeld (fun hHeld => ?_)
            · (intro w1 hSw; have hSw := hSw.1; (try dsimp only at hSw); go_simp)
            simp only [List.getElem_toArray, List.getElem_cons_succ, List.getElem_cons_zero, Act.put, List.setIfInBounds_toArray, List.set_cons_zero, List.set_cons_succ]
            refine wpAnyS_ready (i := 5) (by kernel_rfl) rfl (fun K hK => ?_)
            go_simp
            refine HCp.out.mono ?_
            clear HCp
            rintro e w2 ⟨v2, rfl, ho2, hb2⟩
            have hb12 : Below W1.heap.size W1 w2 := (Below.refl W1.heap.size W1).drew.trans hb2
            have hr2 : Below wr.heap.size wr w2 := HBq.out.trans (hb12.mono HBq.out.size)
            have HT2 : Hid (w2.heap[B0]? = some (.cells #[.slice aa NA ca, .slice ab NL cb] 79)) := (hr2.block B0 HGB.out.2).trans HBt.out
            have ho2' : Own w2 wr.heap.size v2 (X.take y) := ho2.mono HBq.out.size
            have hrd2 : Reads w2 (.slice ab K0 cb) ((X.drop y).take K0) := (reads_upto HB.out hkN HNL.out.symm).below hr2
            have hJ : X.take (y + K0) = X.take y ++ (X.drop y).take K0 := List.take_add
            obtain ⟨v3, w3, hrun3, ho3, hb3⟩ := run_app 31 wr.heap.size v2 (.slice ab K0 cb) (X.take y) ((X.drop y).take K0) (X.take (y + K0)) hJ ho2' hrd2 (by have h1 := HXb.out; rw [List.length_take, List.length_take, List.length_drop]; omega) hr2.size
            have hr3 : Below wr.heap.size wr w3 := hr2.trans hb3.out
            have HR3 : Hid (Below wr.heap.size wr w3) := hr3
            have HT3 : Hid (w3.heap[B0]? = some (.cells #[.slice aa NA ca, .slice ab NL cb] 79)) := (hr3.block B0 HGB.out.2).trans HBt.out
            have HO3 : Hid (Own w3 wr.heap.size v3 (X.take (y + K0))) := ho3
            obtain ⟨a3, c3, hv3, _⟩ := ho3.form
            obtain ⟨a2, c2, hv2, _⟩ := ho2.form
            obtain ⟨N3, HN3⟩ : ∃ n, Hid ((X.take (y + K0)).length = n) := ⟨_, rfl⟩
            rw [HN3.out] at hv3
            rw [HNA.out] at hv2
            subst hv3
            subst hv2
            obtain ⟨w4, HW4⟩ := hid_ex (w3.setCell ⟨B0, 0, none⟩ (.slice a3 N3 c3))
            have hT4 : w4.heap[B0]? = some (.cells #[.slice a3 N3 c3, .slice ab NL cb] 79) := by
              rw [HW4.out]
              have := cells_set HT3.out 0 (.slice a3 N3 c3); simpa using this
            have HT4 : Hid (w4.heap[B0]? = some (.cells #[.slice a3 N3 c3, .slice ab NL cb] 79)) := hT4
            obtain ⟨w5, HW5⟩ := hid_ex (w4.setCell ⟨B0, 1, none⟩ (.slice none 0 0))
            have hT5 : w5.heap[B0]? = some (.cells #[.slice a3 N3 c3, .slice none 0 0] 79) := by
              rw [HW5.out]
              have := cells_set hT4 1 (.slice none 0 0); simpa using this
            have hk5 : ∀ k, k ≠ B0 → w5.heap[k]? = w3.heap[k]? := fun k hk => by rw [HW5.out, Go.heap_setCell_other _ _ _ _ hk, HW4.out, Go.heap_setCell_other _ _ _ _ hk]
            have hs5 : w5.heap.size = w3.heap.size := by rw [HW5.out, HW4.out]; simp [World.setCell]
            have hon : Onl O w w5 := by
              have hOB : Grw O w wr B0 := by rw [HB0.out]; exact HRr.out.fl.ob I HIx.out
              have h15 : Onl (Grw O w wr) wr w5 := by
                rw [HW5.out, HW4.out]
                exact ((onl_of_below hr3 : Onl (Grw O w wr) wr w3).then (Onl.set hOB _)).then (Onl.set hOB _)
              exact HO.out.trans h15
            have HO5 : Hid (Onl O w w5) := hon
            have hsz3 := hr3.size
            have hszw := HO.out.size
            have HCt : Hid (sfCut (X, y) KP = (X.take (y + K0), y + K0)) := by
              unfold Hid sfCut
              simp only
              rw [← HXb.out.2.2.1, HMin.out]
            have HR5 : Hid (RfAt w5 (Grw O w w5) g (.slice (some ⟨q, 0, none⟩) fls'.length cap) (.slice (some ⟨q4, 0, none⟩) OL c4) (.slice oa OL oc) (.slice none 0 0) (-1) ee fb (updF va' I (.slice a3 N3 c3)) (updF vb' I (.slice none 0 0)) { S2 with fls := fls'.set I (sfCut (X, y) KP) }) := by
              have hr := HRr.out.setI (i := I) (O' := Grw O w w5) (f := (X.take (y + K0), y + K0)) (a' := .slice a3 N3 c3) (b' := .slice none 0 0) (fun k hk => by
                rcases hk with q | q
                · exact .inl q
                · exact .inr (by omega)) (Grw.lt HLt.out hon.size) HIx.out (fun k ho hb _ => (hk5 k (by rw [HB0.out]; exact hb)).trans (hr3.block k (HRr.out.lt k ho))) (by rw [← HB0.out]; exact hT5) (by
                  simp only
                  rw [List.take_of_length_le (by rw [List.length_take]; omega)]
                  have hbo := own_bown HO3.out
                  rw [HN3.out.symm] at hbo
                  exact GOwn.keep (own_bown HO3.out) fun k hk => hk5 k (fun e => by
                    subst e
                    obtain ⟨cur, hb⟩ := GOwn.block (own_bown HO3.out) hk
                    exact ty_ne hb HT3.out (by decide) rfl)) (by
                  simp only
                  rw [List.drop_eq_nil_of_le (by rw [List.length_take]; omega)]
                  exact GOwn.nil _ _ _) (fun k q => by
                    have h1 := own_block HO3.out k q
                    have h2 : k < w3.heap.size := by
                      obtain ⟨cur, hb⟩ := GOwn.block (own_bown HO3.out) q
                      exact (Array.getElem?_eq_some_iff.1 hb).1
                    exact .inr ⟨h1, .inr (by omega)⟩) (fun k q => by simp [Value.ownBlock] at q) (fun k q => by simp [Value.ownBlock] at q)
              rw [HCt.out]
              exact hr
            have HCu5 : Hid (sfCuts (S2.dir.drop (j + 1)) (ks.drop (j + 1)) (fls'.set I (sfCut (X, y) KP)) = sfCuts S2.dir ks S2.fls) := HStep.out.symm
            have HFo5 : Hid (sfFlOk (fls'.set I (sfCut (X, y) KP))) := by
              rw [HFd.out]
              exact HFo.out.cut I KP
            have HFL5 : Hid ((fls'.set I (sfCut (X, y) KP)).length = S2.fls.length) := by unfold Hid; rw [List.length_set]; exact HFL.out
            have e0 := cell_of HT3.out 0 _ rfl
            have f0 : w3.frozen? ⟨B0, 0, none⟩ = false := by simp [World.frozen?, HT3.out]
            have e1 := cell_of HT4.out 1 _ rfl
            have f1 : w4.frozen? ⟨B0, 1, none⟩ = false := by simp [World.frozen?, HT4.out]
            clear hb2 hb12 hr2 ho2 ho2' hrd2 hJ ho3 hb3 hr3 hT4 hT5 hk5 hs5 hon hsz3 hszw
            go_simp
            refine hK.out _ _ ⟨?_, fun _ => ?_⟩ (fun hHeld => ?_)
            · exact cell_of HT2.out 1 _ rfl
            · exact cell_of HT2.out 0 _ rfl
            clear hK K
            refine wpAnyS_ready (i := 12) (by kernel_rfl) rfl (fun K hK => ?_)
            refine wp_app_runG _ _ _ _ (by rfl) (by rfl) _ _ _ (by rfl) (by rfl) hrun3 ?_
            simp only [List.getElem_toArray, List.getElem_cons_succ, List.getElem_cons_zero, Act.put, List.setIfInBounds_toArray, List.set_cons_zero, List.set_cons_succ]
            refine hK.out _ _ ⟨?_, fun _ => ?_⟩ (fun hHeld => ?_)
            · exact cell_of HT3.out 1 _ rfl
            · exact cell_of HT3.out 0 _ rfl
            clear hK K
            refine wpAnyS_take (i := 13) (v := .pointer (some ⟨B0, 0, none⟩)) _ rfl (by kernel_rfl) (by kernel_rfl) (by kernel_rfl) (by kernel_rfl) (by kernel_rfl) rfl (fun _ _ _ h => h) (Or.inl ⟨by rfl, ?_⟩) hHeld (fun hHeld => ?_)
            · (intro w1 hSw; have hSw := hSw.1; (try dsimp only at hSw); go_simp)
            simp only [List.getElem_toArray, List.getElem_cons_succ, List.getElem_cons_zero, Act.put, List.setIfInBounds_toArray, List.set_cons_zero, List.set_cons_succ]
            refine wpAnyS_take (i := 14) (v := .pointer (some ⟨B0, 0, none⟩)) _ rfl (by kernel_rfl) (by kernel_rfl) (by kernel_rfl) (by kernel_rfl) (by kernel_rfl) rfl (fun _ _ _ h => h) (Or.inl ⟨by rfl, ?_⟩) hHeld (fun hHeld => ?_)
            · (intro w1 hSw; have hSw := hSw.1; (try dsimp only at hSw); go_simp)
            simp only [List.getElem_toArray, List.getElem_cons_succ, List.getElem_cons_zero, Act.put, List.setIfInBounds_toArray, List.set_cons_zero, List.set_cons_succ]
            refine wpAnyS_ready (i := 15) (by kernel_rfl) rfl (fun K hK => ?_)
            go_simp
            rw [← HW4.out]
            refine hK.out _ _ ⟨?_, fun hno => absurd hno (by decide)⟩ (fun hHeld => ?_)
            · exact cell_of HT4.out 1 _ rfl
            clear hK K
            refine wpAnyS_done (by kernel_rfl) ?_ _
            refine NoPanic.normal ?_
            clear hHeld e0 f0 hrun3 hsl t1
            go_wp2_with fail
            rw [← HW5.out]
            go_roundw
            case rel => exact ⟨j + 1, _, _, _, by go_num, by omega, HR5, HCu5, HFo5, HFL5, HO5⟩
            case measure => simp [intOf]; omega
        · go_wp2_with fail
          have HMin : Hid (min (max KP 0).toNat NL = 0) := by unfold Hid; omega
          have hkN : 0 ≤ NL := by have := HMin.out; omega
          have hsl : ∀ w', (Instr.slice 31 (.slice ab NL cb) none (some (.int .i64 0)) none).run Try.prog w' = .ok (.slice ab 0 cb) w' := fun w' => (by exact bsl_upto ab NL cb 0 (by omega) w')
          have HCp : Hid (Calls Try.prog 17 #[.slice aa NA ca] W1.drew _) := copy5_any (w := W1.drew) ((HA.out.below HBq.out).below (Below.refl _ _).drew) (by rw [List.length_take]; have := HXb.out; omega)
          refine wp_region_noPanic ?_
          refine wp_region_S 15 (fun w' => w'.cell? ⟨B0, 1, none⟩ = some (.slice ab NL cb)) (fun w' => w'.cell? ⟨B0, 0, none⟩ = some (.slice aa NA ca)) (by kernel_rfl) ?_ ?_ (fun hHeld => ?_)
          · exact cell_of (w := W1.drew) HT1.out 1 _ rfl
          · exact cell_of (w := W1.drew) HT1.out 0 _ rfl
          refine wpAnyS_take (i := 0) (v := .pointer (some ⟨B0, 0, none⟩)) _ rfl (by kernel_rfl) (by kernel_rfl) (by kernel_rfl) (by kernel_rfl) (by kernel_rfl) rfl (fun _ _ _ h => h) (Or.inl ⟨by rfl, ?_⟩) hHeld (fun hHeld => ?_)
          · (intro w1 hSw; have hSw := hSw.1; (try dsimp only at hSw); go_simp)
          simp only [List.getElem_toArray, List.getElem_cons_zero, Act.put, List.setIfInBounds_toArray, List.set_cons_zero, List.set_cons_succ]
          refine wpAnyS_take (i := 1) (v := .pointer (some ⟨B0, 0, none⟩)) _ rfl (by kernel_rfl) (by kernel_rfl) (by kernel_rfl) (by kernel_rfl) (by kernel_rfl) rfl (fun _ _ _ h => h) (Or.inl ⟨by rfl, ?_⟩) hHeld (fun hHeld => ?_)
          · (intro w1 hSw; have hSw := hSw.1; (try dsimp only at hSw); go_simp)
          simp only [List.getElem_toArray, List.getElem_cons_succ, List.getElem_cons_zero, Act.put, List.setIfInBounds_toArray, List.set_cons_zero, List.set_cons_succ]
          refine wpAnyS_take (i := 2) (v := .pointer (some ⟨B0, 0, none⟩)) _ rfl (by kernel_rfl) (by kernel_rfl) (by kernel_rfl) (by kernel_rfl) (by kernel_rfl) rfl (fun _ _ _ h => h) (Or.inl ⟨by rfl, ?_⟩) hHeld (fun hHeld => ?_)
          · (intro w1 hSw; have hSw := hSw.1; (try dsimp only at hSw); go_simp)
          simp only [List.getElem_toArray, List.getElem_cons_succ, List.getElem_cons_zero, Act.put, List.setIfInBounds_toArray, List.set_cons_zero, List.set_cons_succ]
          refine wpAnyS_take (i := 3) (v := .pointer (some ⟨B0, 0, none⟩)) _ rfl (by kernel_rfl) (by kernel_rfl) (by kernel_rfl) (by kernel_rfl) (by kernel_rfl) rfl (fun _ _ _ h => h) (Or.inl ⟨by rfl, ?_⟩) hHeld (fun hHeld => ?_)
          · (intro w1 hSw; have hSw := hSw.1; (try dsimp only at hSw); go_simp)
          simp only [List.getElem_toArray, List.getElem_cons_succ, List.getElem_cons_zero, Act.put, List.setIfInBounds_toArray, List.set_cons_zero, List.set_cons_succ]
          refine wpAnyS_take (i := 4) (v := .slice aa NA ca) true rfl (by kernel_rfl) (by kernel_rfl) (by kernel_rfl) (by kernel_rfl) (by kernel_rfl) (by kernel_rfl) (fun _ _ _ h => h) (Or.inl ⟨by rfl, ?_⟩) hHeld (fun hHeld => ?_)
          · (intro w1 hSw; have hSw2 := hSw.2 rfl; have hSw := hSw.1; (try dsimp only at hSw hSw2); go_simp)
          simp only [List.getElem_toArray, List.getElem_cons_succ, List.getElem_cons_zero, Act.put, List.setIfInBounds_toArray, List.set_cons_zero, List.set_cons_succ]
          refine wpAnyS_take (i := 6) (v := .pointer (some ⟨B0, 0, none⟩)) _ rfl (by kernel_rfl) (by kernel_rfl) (by kernel_rfl) (by kernel_rfl) (by kernel_rfl) rfl (fun _ _ _ h => h) (Or.inl ⟨by rfl, ?_⟩) hHeld (fun hHeld => ?_)
          · (intro w1 hSw; have hSw := hSw.1; (try dsimp only at hSw); go_simp)
          simp only [List.getElem_toArray, List.getElem_cons_succ, List.getElem_cons_zero, Act.put, List.setIfInBounds_toArray, List.set_cons_zero, List.set_cons_succ]
          refine wpAnyS_take (i := 7) (v := .pointer (some ⟨B0, 0, none⟩)) _ rfl (by kernel_rfl) (by kernel_rfl) (by kernel_rfl) (by kernel_rfl) (by kernel_rfl) rfl (fun _ _ _ h => h) (Or.inl ⟨by rfl, ?_⟩) hHeld (fun hHeld => ?_)
          · (intro w1 hSw; have hSw := hSw.1; (try dsimp only at hSw); go_simp)
          simp only [List.getElem_toArray, List.getElem_cons_succ, List.getElem_cons_zero, Act.put, List.setIfInBounds_toArray, List.set_cons_zero, List.set_cons_succ]
          refine wpAnyS_take (i := 8) (v := .pointer (some ⟨B0, 1, none⟩)) _ rfl (by kernel_rfl) (by kernel_rfl) (by kernel_rfl) (by kernel_rfl) (by kernel_rfl) rfl (fun _ _ _ h => h) (Or.inl ⟨by rfl, ?_⟩) hHeld (fun hHeld => ?_)
          · (intro w1 hSw; have hSw := hSw.1; (try dsimp only at hSw); go_simp)
          simp only [List.getElem_toArray, List.getElem_cons_succ, List.getElem_cons_zero, Act.put, List.setIfInBounds_toArray, List.set_cons_zero, List.set_cons_succ]
          refine wpAnyS_take (i := 9) (v := .slice ab NL cb) _ rfl (by kernel_rfl) (by kernel_rfl) (by kernel_rfl) (by kernel_rfl) (by kernel_rfl) rfl (fun _ _ _ h => h) (Or.inl ⟨by rfl, ?_⟩) hHeld (fun hHeld => ?_)
          · (intro w1 hSw; have hSw := hSw.1; (try dsimp only at hSw); go_simp)
          simp only [List.getElem_toArray, List.getElem_cons_succ, List.getElem_cons_zero, Act.put, List.setIfInBounds_toArray, List.set_cons_zero, List.set_cons_succ]
          refine wpAnyS_take (i := 10) (v := .int .i64 0) _ rfl (by kernel_rfl) (by kernel_rfl) (by kernel_rfl) (by kernel_rfl) (by kernel_rfl) rfl (fun _ _ _ h => h) (Or.inl ⟨by rfl, ?_⟩) hHeld (fun hHeld => ?_)
          · (intro w1 hSw; have hSw := hSw.1; (try dsimp only at hSw); go_simp)
          simp only [List.getElem_toArray, List.getElem_cons_succ, List.getElem_cons_zero, Act.put, List.setIfInBounds_toArray, List.set_cons_zero, List.set_cons_succ]
          refine wpAnyS_take (i := 11) (v := .slice ab 0 cb) _ rfl (by kernel_rfl) (by kernel_rfl) (by kernel_rfl) (by kernel_rfl) (by kernel_rfl) rfl (fun _ _ _ h => h) (Or.inl ⟨by rfl, ?_⟩) hHeld (fun hHeld => ?_)
          · (intro w1 hSw; have hSw := hSw.1; (try dsimp only at hSw); go_simp)
          simp only [List.getElem_toArray, List.getElem_cons_succ, List.getElem_cons_zero, Act.put, List.setIfInBounds_toArray, List.set_cons_zero, List.set_cons_succ]
          refine wpAnyS_ready (i := 5) (by kernel_rfl) rfl (fun K hK => ?_)
          go_simp
          refine HCp.out.mono ?_
          clear HCp
          rintro e w2 ⟨v2, rfl, ho2, hb2⟩
          have hb12 : Below W1.heap.size W1 w2 := (Below.refl W1.heap.size W1).drew.trans hb2
          have hr2 : Below wr.heap.size wr w2 := HBq.out.trans (hb12.mono HBq.out.size)
          have HT2 : Hid (w2.heap[B0]? = some (.cells #[.slice aa NA ca, .slice ab NL cb] 79)) := (hr2.block B0 HGB.out.2).trans HBt.out
          have ho2' : Own w2 wr.heap.size v2 (X.take y) := ho2.mono HBq.out.size
          have hrd2 : Reads w2 (.slice ab 0 cb) ((X.drop y).take 0) := (reads_upto HB.out hkN HNL.out.symm).below hr2
          have hJ : X.take (y + 0) = X.take y ++ (X.drop y).take 0 := List.take_add
          obtain ⟨v3, w3, hrun3, ho3, hb3⟩ := run_app 31 wr.heap.size v2 (.slice ab 0 cb) (X.take y) ((X.drop y).take 0) (X.take (y + 0)) hJ ho2' hrd2 (by have h1 := HXb.out; rw [List.length_take, List.length_take, List.length_drop]; omega) hr2.size
          have hr3 : Below wr.heap.size wr w3 := hr2.trans hb3.out
          have HR3 : Hid (Below wr.heap.size wr w3) := hr3
          have HT3 : Hid (w3.heap[B0]? = some (.cells #[.slice aa NA ca, .slice ab NL cb] 79)) := (hr3.block B0 HGB.out.2).trans HBt.out
          have HO3 : Hid (Own w3 wr.heap.size v3 (X.take (y + 0))) := ho3
          obtain ⟨a3, c3, hv3, _⟩ := ho3.form
          obtain ⟨a2, c2, hv2, _⟩ := ho2.form
          obtain ⟨N3, HN3⟩ : ∃ n, Hid ((X.take (y + 0)).length = n) := ⟨_, rfl⟩
          rw [HN3.out] at hv3
          rw [HNA.out] at hv2
          subst hv3
          subst hv2
          obtain ⟨w4, HW4⟩ := hid_ex (w3.setCell ⟨B0, 0, none⟩ (.slice a3 N3 c3))
          have hT4 : w4.heap[B0]? = some (.cells #[.slice a3 N3 c3, .slice ab NL cb] 79) := by
            rw [HW4.out]
            have := cells_set HT3.out 0 (.slice a3 N3 c3); simpa using this
          have HT4 : Hid (w4.heap[B0]? = some (.cells #[.slice a3 N3 c3, .slice ab NL cb] 79)) := hT4
          obtain ⟨w5, HW5⟩ := hid_ex (w4.setCell ⟨B0, 1, none⟩ (.slice none 0 0))
          have hT5 : w5.heap[B0]? = some (.cells #[.slice a3 N3 c3, .slice none 0 0] 79) := by
            rw [HW5.out]
            have := cells_set hT4 1 (.slice none 0 0); simpa using this
          have hk5 : ∀ k, k ≠ B0 → w5.heap[k]? = w3.heap[k]? := fun k hk => by rw [HW5.out, Go.heap_setCell_other _ _ _ _ hk, HW4.out, Go.heap_setCell_other _ _ _ _ hk]
          have hs5 : w5.heap.size = w3.heap.size := by rw [HW5.out, HW4.out]; simp [World.setCell]
          have hon : Onl O w w5 := by
            have hOB : Grw O w wr B0 := by rw [HB0.out]; exact HRr.out.fl.ob I HIx.out
            have h15 : Onl (Grw O w wr) wr w5 := by
              rw [HW5.out, HW4.out]
              exact ((onl_of_below hr3 : Onl (Grw O w wr) wr w3).then (Onl.set hOB _)).then (Onl.set hOB _)
            exact HO.out.trans h15
          have HO5 : Hid (Onl O w w5) := hon
          have hsz3 := hr3.size
          have hszw := HO.out.size
          have HCt : Hid (sfCut (X, y) KP = (X.take (y + 0), y + 0)) := by
            unfold Hid sfCut
            simp only
            rw [← HXb.out.2.2.1, HMin.out]
          have HR5 : Hid (RfAt w5 (Grw O w w5) g (.slice (some ⟨q, 0, none⟩) fls'.length cap) (.slice (some ⟨q4, 0, none⟩) OL c4) (.slice oa OL oc) (.slice none 0 0) (-1) ee fb (updF va' I (.slice a3 N3 c3)) (updF vb' I (.slice none 0 0)) { S2 with fls := fls'.set I (sfCut (X, y) KP) }) := by
            have hr := HRr.out.setI (i := I) (O' := Grw O w w5) (f := (X.take (y + 0), y + 0)) (a' := .slice a3 N3 c3) (b' := .slice none 0 0) (fun k hk => by
              rcases hk with q | q
              · exact .inl q
              · exact .inr (by omega)) (Grw.lt HLt.out hon.size) HIx.out (fun k ho hb _ => (hk5 k (by rw [HB0.out]; exact hb)).trans (hr3.block k (HRr.out.lt k ho))) (by rw [← HB0.out]; exact hT5) (by
                simp only
                rw [List.take_of_length_le (by rw [List.length_take]; omega)]
                have hbo := own_bown HO3.out
                rw [HN3.out.symm] at hbo
                exact GOwn.keep (own_bown HO3.out) fun k hk => hk5 k (fun e => by
                  subst e
                  obtain ⟨cur, hb⟩ := GOwn.block (own_bown HO3.out) hk
                  exact ty_ne hb HT3.out (by decide) rfl)) (by
                simp only
                rw [List.drop_eq_nil_of_le (by rw [List.length_take]; omega)]
                exact GOwn.nil _ _ _) (fun k q => by
                  have h1 := own_block HO3.out k q
                  have h2 : k < w3.heap.size := by
                    obtain ⟨cur, hb⟩ := GOwn.block (own_bown HO3.out) q
                    exact (Array.getElem?_eq_some_iff.1 hb).1
                  exact .inr ⟨h1, .inr (by omega)⟩) (fun k q => by simp [Value.ownBlock] at q) (fun k q => by simp [Value.ownBlock] at q)
            rw [HCt.out]
            exact hr
          have HCu5 : Hid (sfCuts (S2.dir.drop (j + 1)) (ks.drop (j + 1)) (fls'.set I (sfCut (X, y) KP)) = sfCuts S2.dir ks S2.fls) := HStep.out.symm
          have HFo5 : Hid (sfFlOk (fls'.set I (sfCut (X, y) KP))) := by
            rw [HFd.out]
            exact HFo.out.cut I KP
          have HFL5 : Hid ((fls'.set I (sfCut (X, y) KP)).length = S2.fls.length) := by unfold Hid; rw [List.length_set]; exact HFL.out
          have e0 := cell_of HT3.out 0 _ rfl
          have f0 : w3.frozen? ⟨B0, 0, none⟩ = false := by simp [World.frozen?, HT3.out]
          have e1 := cell_of HT4.out 1 _ rfl
          have f1 : w4.frozen? ⟨B0, 1, none⟩ = false := by simp [World.frozen?, HT4.out]
          clear hb2 hb12 hr2 ho2 ho2' hrd2 hJ ho3 hb3 hr3 hT4 hT5 hk5 hs5 hon hsz3 hszw
          go_simp
          refine hK.out _ _ ⟨?_, fun _ => ?_⟩ (fun hHeld => ?_)
          · exact cell_of HT2.out 1 _ rfl
          · exact cell_of HT2.out 0 _ rfl
          clear hK K
          refine wpAnyS_ready (i := 12) (by kernel_rfl) rfl (fun K hK => ?_)
          refine wp_app_runG _ _ _ _ (by rfl) (by rfl) _ _ _ (by rfl) (by rfl) hrun3 ?_
          simp only [List.getElem_toArray, List.getElem_cons_succ, List.getElem_cons_zero, Act.put, List.setIfInBounds_toArray, List.set_cons_zero, List.set_cons_succ]
          refine hK.out _ _ ⟨?_, fun _ => ?_⟩ (fun hHeld => ?_)
          · exact cell_of HT3.out 1 _ rfl
          · exact cell_of HT3.out 0 _ rfl
          clear hK K
          refine wpAnyS_take (i := 13) (v := .pointer (some ⟨B0, 0, none⟩)) _ rfl (by kernel_rfl) (by kernel_rfl) (by kernel_rfl) (by kernel_rfl) (by kernel_rfl) rfl (fun _ _ _ h => h) (Or.inl ⟨by rfl, ?_⟩) hHeld (fun hHeld => ?_)
          · (intro w1 hSw; have hSw := hSw.1; (try dsimp only at hSw); go_simp)
          simp only [List.getElem_toArray, List.getElem_cons_succ, List.getElem_cons_zero, Act.put, List.setIfInBounds_toArray, List.set_cons_zero, List.set_cons_succ]
          refine wpAnyS_take (i := 14) (v := .pointer (some ⟨B0, 0, none⟩)) _ rfl (by kernel_rfl) (by kernel_rfl) (by kernel_rfl) (by kernel_rfl) (by kernel_rfl) rfl (fun _ _ _ h => h) (Or.inl ⟨by rfl, ?_⟩) hHeld (fun hHeld => ?_)
          · (intro w1 hSw; have hSw := hSw.1; (try dsimp only at hSw); go_simp)
          simp only [List.getElem_toArray, List.getElem_cons_succ, List.getElem_cons_zero, Act.put, List.setIfInBounds_toArray, List.set_cons_zero, List.set_cons_succ]
          refine wpAnyS_ready (i := 15) (by kernel_rfl) rfl (fun K hK => ?_)
          go_simp
          rw [← HW4.out]
          refine hK.out _ _ ⟨?_, fun hno => absurd hno (by decide)⟩ (fun hHeld => ?_)
          · exact cell_of HT4.out 1 _ rfl
          clear hK K
          refine wpAnyS_done (by kernel_rfl) ?_ _
          refine NoPanic.normal ?_
          clear hHeld e0 f0 hrun3 hsl t1
          go_wp2_with fail
          rw [← HW5.out]
          go_roundw
          case rel => exact ⟨j + 1, _, _, _, by go_num, by omega, HR5, HCu5, HFo5, HFL5, HO5⟩
          case measure => simp [intOf]; omega
      · have hjk' : ¬ (j : Int) < (KL : Int) := by omega
        have HKq : Hid (KP = 0) := by unfold Hid; rw [HKPv.out, dif_neg (by rw [HKL.out]; exact hjk)]
        have hz0 : ¬ (NL : Int) < 0 := by omega
        go_wp2_with fail
        have HMin : Hid (min (max KP 0).toNat NL = 0) := by unfold Hid; have := HKq.out; omega
        have hkN : 0 ≤ NL := by have := HMin.out; omega
        have hsl : ∀ w', (Instr.slice 31 (.slice ab NL cb) none (some (.int .i64 0)) none).run Try.prog w' = .ok (.slice ab 0 cb) w' := fun w' => (by exact bsl_upto ab NL cb 0 (by omega) w')
        have HCp : Hid (Calls Try.prog 17 #[.slice aa NA ca] W1.drew _) := copy5_any (w := W1.drew) ((HA.out.below HBq.out).below (Below.refl _ _).drew) (by rw [List.length_take]; have := HXb.out; omega)
        refine wp_region_noPanic ?_
        refine wp_region_S 15 (fun w' => w'.cell? ⟨B0, 1, none⟩ = some (.slice ab NL cb)) (fun w' => w'.cell? ⟨B0, 0, none⟩ = some (.slice aa NA ca)) (by kernel_rfl) ?_ ?_ (fun hHeld => ?_)
        · exact cell_of (w := W1.drew) HT1.out 1 _ rfl
        · exact cell_of (w := W1.drew) HT1.out 0 _ rfl
        refine wpAnyS_take (i := 0) (v := .pointer (some ⟨B0, 0, none⟩)) _ rfl (by kernel_rfl) (by kernel_rfl) (by kernel_rfl) (by kernel_rfl) (by kernel_rfl) rfl (fun _ _ _ h => h) (Or.inl ⟨by rfl, ?_⟩) hHeld (fun hHeld => ?_)
        · (intro w1 hSw; have hSw := hSw.1; (try dsimp only at hSw); go_simp)
        simp only [List.getElem_toArray, List.getElem_cons_zero, Act.put, List.setIfInBounds_toArray, List.set_cons_zero, List.set_cons_succ]
        refine wpAnyS_take (i := 1) (v := .pointer (some ⟨B0, 0, none⟩)) _ rfl (by kernel_rfl) (by kernel_rfl) (by kernel_rfl) (by kernel_rfl) (by kernel_rfl) rfl (fun _ _ _ h => h) (Or.inl ⟨by rfl, ?_⟩) hHeld (fun hHeld => ?_)
        · (intro w1 hSw; have hSw := hSw.1; (try dsimp only at hSw); go_simp)
        simp only [List.getElem_toArray, List.getElem_cons_succ, List.getElem_cons_zero, Act.put, List.setIfInBounds_toArray, List.set_cons_zero, List.set_cons_succ]
        refine wpAnyS_take (i := 2) (v := .pointer (some ⟨B0, 0, none⟩)) _ rfl (by kernel_rfl) (by kernel_rfl) (by kernel_rfl) (by kernel_rfl) (by kernel_rfl) rfl (fun _ _ _ h => h) (Or.inl ⟨by rfl, ?_⟩) hHeld (fun hHeld => ?_)
        · (intro w1 hSw; have hSw := hSw.1; (try dsimp only at hSw); go_simp)
        simp only [List.getElem_toArray, List.getElem_cons_succ, List.getElem_cons_zero, Act.put, List.setIfInBounds_toArray, List.set_cons_zero, List.set_cons_succ]
        refine wpAnyS_take (i := 3) (v := .pointer (some ⟨B0, 0, none⟩)) _ rfl (by kernel_rfl) (by kernel_rfl) (by kernel_rfl) (by kernel_rfl) (by kernel_rfl) rfl (fun _ _ _ h => h) (Or.inl ⟨by rfl, ?_⟩) hHeld (fun hHeld => ?_)
        · (intro w1 hSw; have hSw := hSw.1; (try dsimp only at hSw); go_simp)
        simp only [List.getElem_toArray, List.getElem_cons_succ, List.getElem_cons_zero, Act.put, List.setIfInBounds_toArray, List.set_cons_zero, List.set_cons_succ]
        refine wpAnyS_take (i := 4) (v := .slice aa NA ca) true rfl (by kernel_rfl) (by kernel_rfl) (by kernel_rfl) (by kernel_rfl) (by kernel_rfl) (by kernel_rfl) (fun _ _ _ h => h) (Or.inl ⟨by rfl, ?_⟩) hHeld (fun hHeld => ?_)
        · (intro w1 hSw; have hSw2 := hSw.2 rfl; have hSw := hSw.1; (try dsimp only at hSw hSw2); go_simp)
        simp only [List.getElem_toArray, List.getElem_cons_succ, List.getElem_cons_zero, Act.put, List.setIfInBounds_toArray, List.set_cons_zero, List.set_cons_succ]
        refine wpAnyS_take (i := 6) (v := .pointer (some ⟨B0, 0, none⟩)) _ rfl (by kernel_rfl) (by kernel_rfl) (by kernel_rfl) (by kernel_rfl) (by kernel_rfl) rfl (fun _ _ _ h => h) (Or.inl ⟨by rfl, ?_⟩) hHeld (fun hHeld => ?_)
        · (intro w1 hSw; have hSw := hSw.1; (try dsimp only at hSw); go_simp)
        simp only [List.getElem_toArray, List.getElem_cons_succ, List.getElem_cons_zero, Act.put, List.setIfInBounds_toArray, List.set_cons_zero, List.set_cons_succ]
        refine wpAnyS_take (i := 7) (v := .pointer (some ⟨B0, 0, none⟩)) _ rfl (by kernel_rfl) (by kernel_rfl) (by kernel_rfl) (by kernel_rfl) (by kernel_rfl) rfl (fun _ _ _ h => h) (Or.inl ⟨by rfl, ?_⟩) hHeld (fun hHeld => ?_)
        · (intro w1 hSw; have hSw := hSw.1; (try dsimp only at hSw); go_simp)
        simp only [List.getElem_toArray, List.getElem_cons_succ, List.getElem_cons_zero, Act.put, List.setIfInBounds_toArray, List.set_cons_zero, List.set_cons_succ]
        refine wpAnyS_take (i := 8) (v := .pointer (some ⟨B0, 1, none⟩)) _ rfl (by kernel_rfl) (by kernel_rfl) (by kernel_rfl) (by kernel_rfl) (by kernel_rfl) rfl (fun _ _ _ h => h) (Or.inl ⟨by rfl, ?_⟩) hHeld (fun hHeld => ?_)
        · (intro w1 hSw; have hSw := hSw.1; (try dsimp only at hSw); go_simp)
        simp only [List.getElem_toArray, List.getElem_cons_succ, List.getElem_cons_zero, Act.put, List.setIfInBounds_toArray, List.set_cons_zero, List.set_cons_succ]
        refine wpAnyS_take (i := 9) (v := .slice ab NL cb) _ rfl (by kernel_rfl) (by kernel_rfl) (by kernel_rfl) (by kernel_rfl) (by kernel_rfl) rfl (fun _ _ _ h => h) (Or.inl ⟨by rfl, ?_⟩) hHeld (fun hHeld => ?_)
        · (intro w1 hSw; have hSw := hSw.1; (try dsimp only at hSw); go_simp)
        simp only [List.getElem_toArray, List.getElem_cons_succ, List.getElem_cons_zero, Act.put, List.setIfInBounds_toArray, List.set_cons_zero, List.set_cons_succ]
        refine wpAnyS_take (i := 10) (v := .int .i64 0) _ rfl (by kernel_rfl) (by kernel_rfl) (by kernel_rfl) (by kernel_rfl) (by kernel_rfl) rfl (fun _ _ _ h => h) (Or.inl ⟨by rfl, ?_⟩) hHeld (fun hHeld => ?_)
        · (intro w1 hSw; have hSw := hSw.1; (try dsimp only at hSw); go_simp)
        simp only [List.getElem_toArray, List.getElem_cons_succ, List.getElem_cons_zero, Act.put, List.setIfInBounds_toArray, List.set_cons_zero, List.set_cons_succ]
        refine wpAnyS_take (i := 11) (v := .slice ab 0 cb) _ rfl (by kernel_rfl) (by kernel_rfl) (by kernel_rfl) (by kernel_rfl) (by kernel_rfl) rfl (fun _ _ _ h => h) (Or.inl ⟨by rfl, ?_⟩) hHeld (fun hHeld => ?_)
        · (intro w1 hSw; have hSw := hSw.1; (try dsimp only at hSw); go_simp)
        simp only [List.getElem_toArray, List.getElem_cons_succ, List.getElem_cons_zero, Act.put, List.setIfInBounds_toArray, List.set_cons_zero, List.set_cons_succ]
        refine wpAnyS_ready (i := 5) (by kernel_rfl) rfl (fun K hK => ?_)
        go_simp
        refine HCp.out.mono ?_
        clear HCp
        rintro e w2 ⟨v2, rfl, ho2, hb2⟩
        have hb12 : Below W1.heap.size W1 w2 := (Below.refl W1.heap.size W1).drew.trans hb2
        have hr2 : Below wr.heap.size wr w2 := HBq.out.trans (hb12.mono HBq.out.size)
        have HT2 : Hid (w2.heap[B0]? = some (.cells #[.slice aa NA ca, .slice ab NL cb] 79)) := (hr2.block B0 HGB.out.2).trans HBt.out
        have ho2' : Own w2 wr.heap.size v2 (X.take y) := ho2.mono HBq.out.size
        have hrd2 : Reads w2 (.slice ab 0 cb) ((X.drop y).take 0) := (reads_upto HB.out hkN HNL.out.symm).below hr2
        have hJ : X.take (y + 0) = X.take y ++ (X.drop y).take 0 := List.take_add
        obtain ⟨v3, w3, hrun3, ho3, hb3⟩ := run_app 31 wr.heap.size v2 (.slice ab 0 cb) (X.take y) ((X.drop y).take 0) (X.take (y + 0)) hJ ho2' hrd2 (by have h1 := HXb.out; rw [List.length_take, List.length_take, List.length_drop]; omega) hr2.size
        have hr3 : Below wr.heap.size wr w3 := hr2.trans hb3.out
        have HR3 : Hid (Below wr.heap.size wr w3) := hr3
        have HT3 : Hid (w3.heap[B0]? = some (.cells #[.slice aa NA ca, .slice ab NL cb] 79)) := (hr3.block B0 HGB.out.2).trans HBt.out
        have HO3 : Hid (Own w3 wr.heap.size v3 (X.take (y + 0))) := ho3
        obtain ⟨a3, c3, hv3, _⟩ := ho3.form
        obtain ⟨a2, c2, hv2, _⟩ := ho2.form
        obtain ⟨N3, HN3⟩ : ∃ n, Hid ((X.take (y + 0)).length = n) := ⟨_, rfl⟩
        rw [HN3.out] at hv3
        rw [HNA.out] at hv2
        subst hv3
        subst hv2
        obtain ⟨w4, HW4⟩ := hid_ex (w3.setCell ⟨B0, 0, none⟩ (.slice a3 N3 c3))
        have hT4 : w4.heap[B0]? = some (.cells #[.slice a3 N3 c3, .slice ab NL cb] 79) := by
          rw [HW4.out]
          have := cells_set HT3.out 0 (.slice a3 N3 c3); simpa using this
        have HT4 : Hid (w4.heap[B0]? = some (.cells #[.slice a3 N3 c3, .slice ab NL cb] 79)) := hT4
        obtain ⟨w5, HW5⟩ := hid_ex (w4.setCell ⟨B0, 1, none⟩ (.slice none 0 0))
        have hT5 : w5.heap[B0]? = some (.cells #[.slice a3 N3 c3, .slice none 0 0] 79) := by
          rw [HW5.out]
          have := cells_set hT4 1 (.slice none 0 0); simpa using this
        have hk5 : ∀ k, k ≠ B0 → w5.heap[k]? = w3.heap[k]? := fun k hk => by rw [HW5.out, Go.heap_setCell_other _ _ _ _ hk, HW4.out, Go.heap_setCell_other _ _ _ _ hk]
        have hs5 : w5.heap.size = w3.heap.size := by rw [HW5.out, HW4.out]; simp [World.setCell]
        have hon : Onl O w w5 := by
          have hOB : Grw O w wr B0 := by rw [HB0.out]; exact HRr.out.fl.ob I HIx.out
          have h15 : Onl (Grw O w wr) wr w5 := by
            rw [HW5.out, HW4.out]
            exact ((onl_of_below hr3 : Onl (Grw O w wr) wr w3).then (Onl.set hOB _)).then (Onl.set hOB _)
          exact HO.out.trans h15
        have HO5 : Hid (Onl O w w5) := hon
        have hsz3 := hr3.size
        have hszw := HO.out.size
        have HCt : Hid (sfCut (X, y) KP = (X.take (y + 0), y + 0)) := by
          unfold Hid sfCut
          simp only
          rw [← HXb.out.2.2.1, HMin.out]
        have HR5 : Hid (RfAt w5 (Grw O w w5) g (.slice (some ⟨q, 0, none⟩) fls'.length cap) (.slice (some ⟨q4, 0, none⟩) OL c4) (.slice oa OL oc) (.slice none 0 0) (-1) ee fb (updF va' I (.slice a3 N3 c3)) (updF vb' I (.slice none 0 0)) { S2 with fls := fls'.set I (sfCut (X, y) KP) }) := by
          have hr := HRr.out.setI (i := I) (O' := Grw O w w5) (f := (X.take (y + 0), y + 0)) (a' := .slice a3 N3 c3) (b' := .slice none 0 0) (fun k hk => by
            rcases hk with q | q
            · exact .inl q
            · exact .inr (by omega)) (Grw.lt HLt.out hon.size) HIx.out (fun k ho hb _ => (hk5 k (by rw [HB0.out]; exact hb)).trans (hr3.block k (HRr.out.lt k ho))) (by rw [← HB0.out]; exact hT5) (by
              simp only
              rw [List.take_of_length_le (by rw [List.length_take]; omega)]
              have hbo := own_bown HO3.out
              rw [HN3.out.symm] at hbo
              exact GOwn.keep (own_bown HO3.out) fun k hk => hk5 k (fun e => by
                subst e
                obtain ⟨cur, hb⟩ := GOwn.block (own_bown HO3.out) hk
                exact ty_ne hb HT3.out (by decide) rfl)) (by
              simp only
              rw [List.drop_eq_nil_of_le (by rw [List.length_take]; omega)]
              exact GOwn.nil _ _ _) (fun k q => by
                have h1 := own_block HO3.out k q
                have h2 : k < w3.heap.size := by
                  obtain ⟨cur, hb⟩ := GOwn.block (own_bown HO3.out) q
                  exact (Array.getElem?_eq_some_iff.1 hb).1
                exact .inr ⟨h1, .inr (by omega)⟩) (fun k q => by simp [Value.ownBlock] at q) (fun k q => by simp [Value.ownBlock] at q)
          rw [HCt.out]
          exact hr
        have HCu5 : Hid (sfCuts (S2.dir.drop (j + 1)) (ks.drop (j + 1)) (fls'.set I (sfCut (X, y) KP)) = sfCuts S2.dir ks S2.fls) := HStep.out.symm
        have HFo5 : Hid (sfFlOk (fls'.set I (sfCut (X, y) KP))) := by
          rw [HFd.out]
          exact HFo.out.cut I KP
        have HFL5 : Hid ((fls'.set I (sfCut (X, y) KP)).length = S2.fls.length) := by unfold Hid; rw [List.length_set]; exact HFL.out
        have e0 := cell_of HT3.out 0 _ rfl
        have f0 : w3.frozen? ⟨B0, 0, none⟩ = false := by simp [World.frozen?, HT3.out]
        have e1 := cell_of HT4.out 1 _ rfl
        have f1 : w4.frozen? ⟨B0, 1, none⟩ = false := by simp [World.frozen?, HT4.out]
        clear hb2 hb12 hr2 ho2 ho2' hrd2 hJ ho3 hb3 hr3 hT4 hT5 hk5 hs5 hon hsz3 hszw
        go_simp
        refine hK.out _ _ ⟨?_, fun _ => ?_⟩ (fun hHeld => ?_)
        · exact cell_of HT2.out 1 _ rfl
        · exact cell_of HT2.out 0 _ rfl
        clear hK K
        refine wpAnyS_ready (i := 12) (by kernel_rfl) rfl (fun K hK => ?_)
        refine wp_app_runG _ _ _ _ (by rfl) (by rfl) _ _ _ (by rfl) (by rfl) hrun3 ?_
        simp only [List.getElem_toArray, List.getElem_cons_succ, List.getElem_cons_zero, Act.put, List.setIfInBounds_toArray, List.set_cons_zero, List.set_cons_succ]
        refine hK.out _ _ ⟨?_, fun _ => ?_⟩ (fun hHeld => ?_)
        · exact cell_of HT3.out 1 _ rfl
        · exact cell_of HT3.out 0 _ rfl
        clear hK K
        refine wpAnyS_take (i := 13) (v := .pointer (some ⟨B0, 0, none⟩)) _ rfl (by kernel_rfl) (by kernel_rfl) (by kernel_rfl) (by kernel_rfl) (by kernel_rfl) rfl (fun _ _ _ h => h) (Or.inl ⟨by rfl, ?_⟩) hHeld (fun hHeld => ?_)
        · (intro w1 hSw; have hSw := hSw.1; (try dsimp only at hSw); go_simp)
        simp only [List.getElem_toArray, List.getElem_cons_succ, List.getElem_cons_zero, Act.put, List.setIfInBounds_toArray, List.set_cons_zero, List.set_cons_succ]
        refine wpAnyS_take (i := 14) (v := .pointer (some ⟨B0, 0, none⟩)) _ rfl (by kernel_rfl) (by kernel_rfl) (by kernel_rfl) (by kernel_rfl) (by kernel_rfl) rfl (fun _ _ _ h => h) (Or.inl ⟨by rfl, ?_⟩) hHeld (fun hHeld => ?_)
        · (intro w1 hSw; have hSw := hSw.1; (try dsimp only at hSw); go_simp)
        simp only [List.getElem_toArray, List.getElem_cons_succ, List.getElem_cons_zero, Act.put, List.setIfInBounds_toArray, List.set_cons_zero, List.set_cons_succ]
        refine wpAnyS_ready (i := 15) (by kernel_rfl) rfl (fun K hK => ?_)
        go_simp
        rw [← HW4.out]
        refine hK.out _ _ ⟨?_, fun hno => absurd hno (by decide)⟩ (fun hHeld => ?_)
        · exact cell_of HT4.out 1 _ rfl
        clear hK K
        refine wpAnyS_done (by kernel_rfl) ?_ _
        refine NoPanic.normal ?_
        clear hHeld e0 f0 hrun3 hsl t1
        go_wp2_with fail
        rw [← HW5.out]
        go_roundw
        case rel => exact ⟨j + 1, _, _, _, by go_num, by omega, HR5, HCu5, HFo5, HFL5, HO5⟩
        case measure => simp [intOf]; omega
    · have hlt' : ¬ (j : Int) < (OL : Int) := by omega
      have HFin : Hid (fls' = sfCuts S2.dir ks S2.fls) := by
        unfold Hid
        rw [← HCu.out, List.drop_eq_nil_of_le (by rw [HDL.out]; omega)]
        rfl
      clear k1 k3 k4
      go_wp2_with fail
      refine bodyPost_end (results_none rfl _ _ _) rfl ?_
      rw [HRq.out, ← HFin.out]
      exact ⟨⟨_, rfl⟩, ⟨⟨_, _, _, _, _, _, _, _, _, HRr.out⟩, HO.out⟩⟩
end Go.Proofs.Ytijablmejjepaaa
