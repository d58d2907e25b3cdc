/- The document's file system: something is done to the directory. -/
import Derived.Test.YtijablmejjepaaaRG9
import Derived.Test.YtijablmejjepaaaRH
namespace Go.Proofs.Ytijablmejjepaaa
open Go.RowKit Go.Maps Go.Sort

theorem RfC.s2 {w : World} {g : Nat} {r : Int} {vf vd vo vp : Value} {af ee : Int} (h : RfC w g r vf vd vo vp af ee) (x : Value) : RfC (w.setCell ⟨g, 2, none⟩ x) g r vf x vo vp af ee := by
  have := cells_set h 2 x; simpa [RfC] using this
theorem RfC.s3 {w : World} {g : Nat} {r : Int} {vf vd vo vp : Value} {af ee : Int} (h : RfC w g r vf vd vo vp af ee) (x : Value) : RfC (w.setCell ⟨g, 3, none⟩ x) g r vf vd x vp af ee := by
  have := cells_set h 3 x; simpa [RfC] using this
theorem RfC.s4 {w : World} {g : Nat} {r : Int} {vf vd vo vp : Value} {af ee : Int} (h : RfC w g r vf vd vo vp af ee) (x : Value) : RfC (w.setCell ⟨g, 4, none⟩ x) g r vf vd vo x af ee := by
  have := cells_set h 4 x; simpa [RfC] using this
theorem RfC.s1 {w : World} {g : Nat} {r : Int} {vf vd vo vp : Value} {af ee : Int} (h : RfC w g r vf vd vo vp af ee) (x : Value) : RfC (w.setCell ⟨g, 1, none⟩ x) g r x vd vo vp af ee := by
  have := cells_set h 1 x; simpa [RfC] using this
theorem infoAc : (Try.prog.info? 82).map (fun i => (i.zero, i.size, i.bytes)) = some (some (.agg #[.string ⟨#[]⟩, .string ⟨#[]⟩, .int .i64 0]), 3, 40) := by kernel_rfl
theorem run_appAc {w : World} (ty : TypeId) (v vx : Value) (P : List SfA) (a : SfA) (h : GOwn w 82 3 v P.length (P.flatMap acV)) (hx : GSrc w 3 vx 1 (acV a)) (hl : P.length < 1000000) :
    ∃ v' w', (Builtin.append_ #[46, 46] ty #[v, vx]).run Try.prog w = .ok v' w' ∧ GOwn w' 82 3 v' (P ++ [a]).length ((P ++ [a]).flatMap acV) ∧ w.grownBy w' v.ownBlock ∧ (∀ k, v'.ownBlock = some k → v.ownBlock = some k ∨ (w.heap.size ≤ k ∧ k < w'.heap.size)) := by
  obtain ⟨i0, hi, hz0, hz1, hz2⟩ := info_parts infoAc
  obtain ⟨v', w', h1, h2, h3, h4⟩ := run_gapp (P := Try.prog) 46 ty 82 i0 _ 3 40 Try.underlying46 hi hz0 hz1 hz2 rfl v P.length _ h vx 1 (acV a) hx (by
    intro u hu
    simp only [acV, List.mem_cons, List.not_mem_nil, or_false] at hu
    rcases hu with rfl | rfl | rfl <;> rfl) (by simp only [maxLen]; omega) (by omega)
  exact ⟨v', w', h1, by rw [List.length_append, List.flatMap_append]; simpa using h2, h3, h4⟩
set_option maxRecDepth 100000 in
set_option maxHeartbeats 4000000 in
theorem refAct_any {w : World} {O : Nat → Prop} {g : Nat} {vf vd vo vp : Value} {af ee : Int} {fb : Nat → Nat} {va vb : Nat → Value} {s : SfS} (h : RfAt w O g vf vd vo vp af ee fb va vb s) (hw : SfWf s) (a : SfA) (hpn : s.pend.length < 1000000) :
    Calls Try.prog 43 #[.pointer (some ⟨g, 0, none⟩), .agg #[.string ⟨a.gone.toArray⟩, .string ⟨a.name.toArray⟩, .int .i64 (rfN a.file)]] w fun e w' => e = .returned (.int .i64 (sfChange s a).1) ∧ (∃ vd' vp' af' ee', RfAt w' (Grw O w w') g vf vd' vo vp' af' ee' fb va vb (sfChange s a).2) ∧ Onl O w w' := by
  obtain ⟨w0, HW0⟩ := hid_ex (w.alloc (.cells #[.string ⟨a.gone.toArray⟩, .string ⟨a.name.toArray⟩, .int .i64 (rfN a.file)] 82))
  have hb0 : Below w.heap.size w w0 := by rw [HW0.out]; exact (Below.refl _ _).alloc (Nat.le_refl _) _
  have hs0 : w0.heap.size = w.heap.size + 1 := by rw [HW0.out]; simp
  have hx0 : w0.heap[w.heap.size]? = some (.cells #[.string ⟨a.gone.toArray⟩, .string ⟨a.name.toArray⟩, .int .i64 (rfN a.file)] 82) := by rw [HW0.out]; exact heap_alloc_new _ _
  have HX0 : Hid _ := hx0
  have HB0 : Hid (Below w.heap.size w w0) := hb0
  have HR0 : Hid (RfAt w0 O g vf vd vo vp af ee fb va vb s) := h.below hb0
  have HLt : Hid (∀ k, O k → k < w.heap.size) := h.lt
  have HW : Hid (SfWf s) := hw
  have HPl : Hid (Calls Try.prog 44 #[.pointer (some ⟨g, 0, none⟩)] w0 _) := refPlanR HR0.out hw
  have hdl := dir_len hw
  have hde : (sfPlan s).2.dir = s.dir ∧ (sfPlan s).2.pend = s.pend := by unfold sfPlan; split; exact ⟨rfl, rfl⟩; split <;> exact ⟨rfl, rfl⟩
  have HDl : Hid ((sfPlan s).2.dir.length < 1000000 ∧ (sfPlan s).2.pend.length < 1000000) := by unfold Hid; rw [hde.1, hde.2]; omega
  have HCh : Hid (sfChange s a = if (sfPlan s).1 = 0 then (0, { (sfPlan s).2 with dir := sfDo (sfPlan s).2.dir a, pend := (sfPlan s).2.pend ++ [a] }) else sfPlan s) := rfl
  obtain ⟨E, HE⟩ := hid_ex (sfPlan s).1
  obtain ⟨S1, HS1⟩ := hid_ex (sfPlan s).2
  have HPr : Hid (sfPlan s = (E, S1)) := by rw [HE.out, HS1.out]; rfl
  rw [← HE.out, ← HS1.out, HPr.out] at HCh
  rw [← HE.out, ← HS1.out] at HPl
  rw [← HS1.out] at HDl
  obtain ⟨R, HR⟩ := hid_ex (sfChange s a)
  rw [← HR.out] at HCh ⊢
  clear h hw hb0 hx0 hdl hde HE HS1 HPr HR
  go_enter Try.func43, Try.ntmps43
  go_wp2_with fail
  rw [← HW0.out]
  clear HW0
  refine HPl.out.mono ?_
  clear HPl
  rintro e w1 ⟨rfl, ⟨af1, ee1, hr1⟩, ho1, hz1⟩
  have HR1 : Hid (RfAt w1 O g vf vd vo vp af1 ee1 fb va vb S1) := hr1
  have hon1 : Onl O w w1 := (onl_of_below HB0.out : Onl O w w0).then ho1
  have HO1 : Hid (Onl O w w1) := hon1
  have HX1 : Hid (w1.heap[w.heap.size]? = some (.cells #[.string ⟨a.gone.toArray⟩, .string ⟨a.name.toArray⟩, .int .i64 (rfN a.file)] 82)) := (ho1.block w.heap.size (by omega) (fun q => by have := HLt.out _ q; omega)).trans HX0.out
  clear hr1 ho1 hon1 HX0 HB0 HR0
  by_cases hE : E = 0
  · subst hE
    have HRe : Hid (R = (0, { S1 with dir := sfDo S1.dir a, pend := S1.pend ++ [a] })) := by unfold Hid; rw [HCh.out, if_pos rfl]
    clear HCh
    obtain ⟨cf, cd, co, cp, cr⟩ := HR1.out.c1
    have HC1 : Hid (w1.cell? ⟨g, 2, none⟩ = some vd ∧ w1.cell? ⟨g, 4, none⟩ = some vp) := ⟨cd, cp⟩
    have hgl : g < w1.heap.size := HR1.out.lt g HR1.out.og
    have hbx : w.heap.size < w1.heap.size := (Array.getElem?_eq_some_iff.1 HX1.out).1
    have hgb : g ≠ w.heap.size := fun e => by have := HLt.out g HR1.out.og; omega
    obtain ⟨da, dc, hvd, _⟩ := GOwn.form HR1.out.hd
    obtain ⟨pa, pc, hvp, _⟩ := GOwn.form HR1.out.hp
    obtain ⟨DL, HDL⟩ : ∃ n, Hid (S1.dir.length = n) := ⟨_, rfl⟩
    obtain ⟨PL, HPL⟩ : ∃ n, Hid (S1.pend.length = n) := ⟨_, rfl⟩
    rw [HDL.out] at hvd
    rw [HPL.out] at hvp
    subst hvd
    subst hvp
    have HAp : Hid (Calls Try.prog 49 #[.slice da DL dc, .agg #[.string ⟨a.gone.toArray⟩, .string ⟨a.name.toArray⟩, .int .i64 (rfN a.file)]] w1.drew _) := apply_any (w := w1.drew) (show NOwn w1.drew (.slice da DL dc) S1.dir from GOwn.keep HR1.out.hd (fun _ _ => rfl)) a HDl.out.1
    obtain ⟨z, HZ⟩ := hid_ex w.heap.size
    rw [← HZ.out] at HX1 hbx hgb
    have six := fun (u : World) (hu : u.heap[z]? = some (.cells #[.string ⟨a.gone.toArray⟩, .string ⟨a.name.toArray⟩, .int .i64 (rfN a.file)] 82)) => (⟨cell_of hu 0 _ rfl, cell_of hu 1 _ rfl, cell_of hu 2 _ rfl⟩ : u.cell? ⟨z, 0, none⟩ = some (.string ⟨a.gone.toArray⟩) ∧ u.cell? ⟨z, 1, none⟩ = some (.string ⟨a.name.toArray⟩) ∧ u.cell? ⟨z, 2, none⟩ = some (.int .i64 (rfN a.file)))
    have HSix : Hid _ := six
    clear cf cd co cp cr six
    (try rw [← HZ.out])
    go_wp2_with fail
    refine wp_region_noPanic ?_
    refine wp_region_S 9 (fun w' => w'.cell? ⟨z, 0, none⟩ = some (.string ⟨a.gone.toArray⟩) ∧ w'.cell? ⟨z, 1, none⟩ = some (.string ⟨a.name.toArray⟩) ∧ w'.cell? ⟨z, 2, none⟩ = some (.int .i64 (rfN a.file))) (fun w' => w'.cell? ⟨g, 2, none⟩ = some (.slice da DL dc)) (by kernel_rfl) ?_ ?_ (fun hHeld => ?_)
    · exact HSix.out w1.drew HX1.out
    · exact HC1.out.1
    refine wpAnyS_take (i := 0) (v := .pointer (some ⟨g, 0, none⟩)) _ rfl (by kernel_rfl) (by kernel_rfl) (by kernel_rfl) (by kernel_rfl) (by kernel_rfl) rfl (fun _ _ _ h => h) (Or.inl ⟨by rfl, ?_⟩) hHeld (fun hHeld => ?_)
    · (intro w1 hSw; have hSw := hSw.1; (try dsimp only at hSw); go_simp)
    simp only [List.getElem_toArray, List.getElem_cons_zero, Act.put, List.setIfInBounds_toArray, List.set_cons_zero, List.set_cons_succ]
    refine wpAnyS_take (i := 1) (v := .pointer (some ⟨g, 0, none⟩)) _ rfl (by kernel_rfl) (by kernel_rfl) (by kernel_rfl) (by kernel_rfl) (by kernel_rfl) rfl (fun _ _ _ h => h) (Or.inl ⟨by rfl, ?_⟩) hHeld (fun hHeld => ?_)
    · (intro w1 hSw; have hSw := hSw.1; (try dsimp only at hSw); go_simp)
    simp only [List.getElem_toArray, List.getElem_cons_succ, List.getElem_cons_zero, Act.put, List.setIfInBounds_toArray, List.set_cons_zero, List.set_cons_succ]
    refine wpAnyS_take (i := 2) (v := .pointer (some ⟨g, 0, none⟩)) _ rfl (by kernel_rfl) (by kernel_rfl) (by kernel_rfl) (by kernel_rfl) (by kernel_rfl) rfl (fun _ _ _ h => h) (Or.inl ⟨by rfl, ?_⟩) hHeld (fun hHeld => ?_)
    · (intro w1 hSw; have hSw := hSw.1; (try dsimp only at hSw); go_simp)
    simp only [List.getElem_toArray, List.getElem_cons_succ, List.getElem_cons_zero, Act.put, List.setIfInBounds_toArray, List.set_cons_zero, List.set_cons_succ]
    refine wpAnyS_take (i := 3) (v := .pointer (some ⟨g, 2, none⟩)) _ rfl (by kernel_rfl) (by kernel_rfl) (by kernel_rfl) (by kernel_rfl) (by kernel_rfl) rfl (fun _ _ _ h => h) (Or.inl ⟨by rfl, ?_⟩) hHeld (fun hHeld => ?_)
    · (intro w1 hSw; have hSw := hSw.1; (try dsimp only at hSw); go_simp)
    simp only [List.getElem_toArray, List.getElem_cons_succ, List.getElem_cons_zero, Act.put, List.setIfInBounds_toArray, List.set_cons_zero, List.set_cons_succ]
    refine wpAnyS_take (i := 4) (v := .slice da DL dc) true rfl (by kernel_rfl) (by kernel_rfl) (by kernel_rfl) (by kernel_rfl) (by kernel_rfl) (by kernel_rfl) (fun _ _ _ h => h) (Or.inl ⟨by rfl, ?_⟩) hHeld (fun hHeld => ?_)
    · (intro w1 hSw; have hSw2 := hSw.2 rfl; have hSw := hSw.1; (try dsimp only at hSw hSw2); go_simp)
    simp only [List.getElem_toArray, List.getElem_cons_succ, List.getElem_cons_zero, Act.put, List.setIfInBounds_toArray, List.set_cons_zero, List.set_cons_succ]
    refine wpAnyS_take (i := 5) (v := .agg #[.string ⟨a.gone.toArray⟩, .string ⟨a.name.toArray⟩, .int .i64 (rfN a.file)]) _ rfl (by kernel_rfl) (by kernel_rfl) (by kernel_rfl) (by kernel_rfl) (by kernel_rfl) rfl (fun _ _ _ h => h) (Or.inl ⟨by rfl, ?_⟩) hHeld (fun hHeld => ?_)
    · (intro w1 hSw; have hSw := hSw.1; (try dsimp only at hSw); go_simp)
    simp only [List.getElem_toArray, List.getElem_cons_succ, List.getElem_cons_zero, Act.put, List.setIfInBounds_toArray, List.set_cons_zero, List.set_cons_succ]
    refine wpAnyS_ready (i := 6) (by kernel_rfl) rfl (fun K hK => ?_)
    go_simp
    refine HAp.out.mono ?_
    clear HAp
    rintro e w2 ⟨v2, rfl, hn2, hk2, hb2⟩
    have hb12 : Below w1.heap.size w1 w2 := (Below.refl w1.heap.size w1).drew.trans hb2
    have hx2 := (hb12.block z hbx).trans HX1.out
    have HC2 : Hid (w2.cell? ⟨g, 2, none⟩ = some (.slice da DL dc) ∧ w2.frozen? ⟨g, 2, none⟩ = false) := ⟨(hb12.cell (p := ⟨g, 2, none⟩) hgl).trans HC1.out.1, by simp [World.frozen?, (hb12.block g hgl).trans HR1.out.c]⟩
    have HX2 : Hid (w2.heap[z]? = some (.cells #[.string ⟨a.gone.toArray⟩, .string ⟨a.name.toArray⟩, .int .i64 (rfN a.file)] 82)) := hx2
    go_simp
    refine hK.out _ _ ⟨?_, fun _ => ?_⟩ (fun hHeld => ?_)
    · exact HSix.out w2 HX2.out
    · exact HC2.out.1
    clear hK K
    refine wpAnyS_take (i := 7) (v := .pointer (some ⟨g, 0, none⟩)) _ rfl (by kernel_rfl) (by kernel_rfl) (by kernel_rfl) (by kernel_rfl) (by kernel_rfl) rfl (fun _ _ _ h => h) (Or.inl ⟨by rfl, ?_⟩) hHeld (fun hHeld => ?_)
    · (intro w1 hSw; have hSw := hSw.1; (try dsimp only at hSw); go_simp)
    simp only [List.getElem_toArray, List.getElem_cons_succ, List.getElem_cons_zero, Act.put, List.setIfInBounds_toArray, List.set_cons_zero, List.set_cons_succ]
    refine wpAnyS_take (i := 8) (v := .pointer (some ⟨g, 2, none⟩)) _ rfl (by kernel_rfl) (by kernel_rfl) (by kernel_rfl) (by kernel_rfl) (by kernel_rfl) rfl (fun _ _ _ h => h) (Or.inl ⟨by rfl, ?_⟩) hHeld (fun hHeld => ?_)
    · (intro w1 hSw; have hSw := hSw.1; (try dsimp only at hSw); go_simp)
    simp only [List.getElem_toArray, List.getElem_cons_succ, List.getElem_cons_zero, Act.put, List.setIfInBounds_toArray, List.set_cons_zero, List.set_cons_succ]
    obtain ⟨da2, dc2, hv2, _⟩ := GOwn.form hn2
    obtain ⟨D2, HD2⟩ : ∃ n, Hid ((sfDo S1.dir a).length = n) := ⟨_, rfl⟩
    rw [HD2.out] at hv2
    subst hv2
    have hc2 := HC2.out.1
    have hf2 := HC2.out.2
    have HX3 : Hid ((w2.setCell ⟨g, 2, none⟩ (.slice da2 D2 dc2)).heap[z]? = some (.cells #[.string ⟨a.gone.toArray⟩, .string ⟨a.name.toArray⟩, .int .i64 (rfN a.file)] 82)) := (Go.heap_setCell_other _ _ _ _ hgb.symm).trans HX2.out
    refine wpAnyS_ready (i := 9) (by kernel_rfl) rfl (fun K hK => ?_)
    go_simp
    refine hK.out _ _ ⟨?_, fun hno => absurd hno (by decide)⟩ (fun hHeld => ?_)
    · exact HSix.out _ HX3.out
    clear hK K
    refine wpAnyS_done (by kernel_rfl) ?_ _
    refine NoPanic.normal ?_
    obtain ⟨w3, HW3⟩ := hid_ex (w2.setCell ⟨g, 2, none⟩ (.slice da2 D2 dc2))
    have hc3 : RfC w3 g S1.room vf (.slice da2 D2 dc2) vo (.slice pa PL pc) af1 ee1 := by
      rw [HW3.out]
      exact RfC.s2 ((hb12.block g hgl).trans HR1.out.c) _
    have hsz3 : w3.heap.size = w2.heap.size := by rw [HW3.out]; simp [World.setCell]
    have hkp3 : ∀ k, k < w1.heap.size → k ≠ g → w3.heap[k]? = w1.heap[k]? := fun k hk hg => by
      rw [HW3.out, Go.heap_setCell_other _ _ _ _ hg]
      exact hb12.block k hk
    have hp3 : GOwn w3 82 3 (.slice pa PL pc) S1.pend.length (S1.pend.flatMap acV) := HR1.out.hp.keep fun k hk => by
      obtain ⟨cur, hb⟩ := HR1.out.hp.block hk
      exact hkp3 k (HR1.out.lt k (HR1.out.op k hk)) (ty_ne hb HR1.out.c (by decide))
    have hd3 : NOwn w3 (.slice da2 D2 dc2) (sfDo S1.dir a) := GOwn.keep hn2 fun k hk => by
      rw [HW3.out, Go.heap_setCell_other _ _ _ _ (fun e => by subst e; exact absurd hgl (Nat.not_lt.2 (hk2 _ hk).1))]
    have HK3 : Hid (∀ k, (Value.slice da2 D2 dc2).ownBlock = some k → w1.heap.size ≤ k ∧ k < w3.heap.size) := fun k hk => by rw [hsz3]; exact hk2 k hk
    have HC3 : Hid (RfC w3 g S1.room vf (.slice da2 D2 dc2) vo (.slice pa PL pc) af1 ee1) := hc3
    have HP3 : Hid (GOwn w3 82 3 (.slice pa PL pc) S1.pend.length (S1.pend.flatMap acV)) := hp3
    have HD3 : Hid (NOwn w3 (.slice da2 D2 dc2) (sfDo S1.dir a)) := hd3
    have HKp3 : Hid (∀ k, k < w1.heap.size → k ≠ g → w3.heap[k]? = w1.heap[k]?) := hkp3
    have hon3 : Onl O w w3 := by
      have h13 : Onl (fun k => k = g) w1 w3 := by
        rw [HW3.out]
        exact (onl_of_below hb12).trans (Onl.set (Or.inl rfl) _)
      exact HO1.out.trans (h13.mono fun k hk => by subst hk; exact .inl HR1.out.og)
    have HO3 : Hid (Onl O w w3) := hon3
    have hsz13 : w1.heap.size ≤ w3.heap.size := by rw [hsz3]; exact hb12.size
    rw [← HW3.out] at HX3 hHeld ⊢
    have cp3 := cell_of HC3.out 4 _ rfl
    have fp3 : w3.frozen? ⟨g, 4, none⟩ = false := by simp [World.frozen?, show w3.heap[g]? = _ from HC3.out]
    clear hsz3 hHeld hc3 hp3 hd3 hkp3 hon3 HW3 hn2 hk2 hb2 hb12 hx2 HC2 hc2 hf2 HX2 HC1
    go_wp2_with fail
    have HC4 : Hid (w3.drew.cell? ⟨g, 4, none⟩ = some (.slice pa PL pc)) := cp3
    refine wp_region_noPanic ?_
    refine wp_region_S 10 (fun w' => w'.cell? ⟨z, 0, none⟩ = some (.string ⟨a.gone.toArray⟩) ∧ w'.cell? ⟨z, 1, none⟩ = some (.string ⟨a.name.toArray⟩) ∧ w'.cell? ⟨z, 2, none⟩ = some (.int .i64 (rfN a.file))) (fun w' => w'.cell? ⟨g, 4, none⟩ = some (.slice pa PL pc)) (by kernel_rfl) ?_ ?_ (fun hHeld => ?_)
    · exact HSix.out w3.drew HX3.out
    · exact HC4.out
    refine wpAnyS_take (i := 0) (v := .pointer (some ⟨g, 0, none⟩)) _ rfl (by kernel_rfl) (by kernel_rfl) (by kernel_rfl) (by kernel_rfl) (by kernel_rfl) rfl (fun _ _ _ h => h) (Or.inl ⟨by rfl, ?_⟩) hHeld (fun hHeld => ?_)
    · (intro w1 hSw; have hSw := hSw.1; (try dsimp only at hSw); go_simp)
    simp only [List.getElem_toArray, List.getElem_cons_zero, Act.put, List.setIfInBounds_toArray, List.set_cons_zero, List.set_cons_succ]
    refine wpAnyS_take (i := 1) (v := .pointer (some ⟨g, 0, none⟩)) _ rfl (by kernel_rfl) (by kernel_rfl) (by kernel_rfl) (by kernel_rfl) (by kernel_rfl) rfl (fun _ _ _ h => h) (Or.inl ⟨by rfl, ?_⟩) hHeld (fun hHeld => ?_)
    · (intro w1 hSw; have hSw := hSw.1; (try dsimp only at hSw); go_simp)
    simp only [List.getElem_toArray, List.getElem_cons_succ, List.getElem_cons_zero, Act.put, List.setIfInBounds_toArray, List.set_cons_zero, List.set_cons_succ]
    refine wpAnyS_take (i := 2) (v := .pointer (some ⟨g, 0, none⟩)) _ rfl (by kernel_rfl) (by kernel_rfl) (by kernel_rfl) (by kernel_rfl) (by kernel_rfl) rfl (fun _ _ _ h => h) (Or.inl ⟨by rfl, ?_⟩) hHeld (fun hHeld => ?_)
    · (intro w1 hSw; have hSw := hSw.1; (try dsimp only at hSw); go_simp)
    simp only [List.getElem_toArray, List.getElem_cons_succ, List.getElem_cons_zero, Act.put, List.setIfInBounds_toArray, List.set_cons_zero, List.set_cons_succ]
    refine wpAnyS_take (i := 3) (v := .pointer (some ⟨g, 4, none⟩)) _ rfl (by kernel_rfl) (by kernel_rfl) (by kernel_rfl) (by kernel_rfl) (by kernel_rfl) rfl (fun _ _ _ h => h) (Or.inl ⟨by rfl, ?_⟩) hHeld (fun hHeld => ?_)
    · (intro w1 hSw; have hSw := hSw.1; (try dsimp only at hSw); go_simp)
    simp only [List.getElem_toArray, List.getElem_cons_succ, List.getElem_cons_zero, Act.put, List.setIfInBounds_toArray, List.set_cons_zero, List.set_cons_succ]
    refine wpAnyS_take (i := 4) (v := .slice pa PL pc) true rfl (by kernel_rfl) (by kernel_rfl) (by kernel_rfl) (by kernel_rfl) (by kernel_rfl) (by kernel_rfl) (fun _ _ _ h => h) (Or.inl ⟨by rfl, ?_⟩) hHeld (fun hHeld => ?_)
    · (intro w1 hSw; have hSw2 := hSw.2 rfl; have hSw := hSw.1; (try dsimp only at hSw hSw2); go_simp)
    simp only [List.getElem_toArray, List.getElem_cons_succ, List.getElem_cons_zero, Act.put, List.setIfInBounds_toArray, List.set_cons_zero, List.set_cons_succ]
    refine wpAnyS_take (i := 5) (v := .agg #[.string ⟨a.gone.toArray⟩, .string ⟨a.name.toArray⟩, .int .i64 (rfN a.file)]) _ rfl (by kernel_rfl) (by kernel_rfl) (by kernel_rfl) (by kernel_rfl) (by kernel_rfl) rfl (fun _ _ _ h => h) (Or.inl ⟨by rfl, ?_⟩) hHeld (fun hHeld => ?_)
    · (intro w1 hSw; have hSw := hSw.1; (try dsimp only at hSw); go_simp)
    simp only [List.getElem_toArray, List.getElem_cons_succ, List.getElem_cons_zero, Act.put, List.setIfInBounds_toArray, List.set_cons_zero, List.set_cons_succ]
    refine wpAnyS_ready (i := 6) (by kernel_rfl) rfl (fun K hK => ?_)
    go_simp
    obtain ⟨w4, HW4⟩ := hid_ex ((w3.alloc (.cells #[.string ⟨a.gone.toArray⟩, .string ⟨a.name.toArray⟩, .int .i64 (rfN a.file)] 82)).drew)
    have hb34 : Below w3.heap.size w3 w4 := by rw [HW4.out]; exact ((Below.refl _ _).alloc (Nat.le_refl _) _).drew
    have hx4 : w4.heap[w3.heap.size]? = some (.cells #[.string ⟨a.gone.toArray⟩, .string ⟨a.name.toArray⟩, .int .i64 (rfN a.file)] 82) := by rw [HW4.out]; exact heap_alloc_new w3 _
    have hs34 : w4.heap.size = w3.heap.size + 1 := by rw [HW4.out]; simp [World.drew]
    have hp4 : GOwn w4 82 3 (.slice pa PL pc) S1.pend.length (S1.pend.flatMap acV) := HP3.out.keep fun k hk => by
      obtain ⟨cur, hb⟩ := HP3.out.block hk
      exact hb34.block k (Array.getElem?_eq_some_iff.1 hb).1
    have hz3 : z < w3.heap.size := (Array.getElem?_eq_some_iff.1 HX3.out).1
    have hg3 : g < w3.heap.size := (Array.getElem?_eq_some_iff.1 HC3.out).1
    have HX4 : Hid (w4.heap[z]? = some (.cells #[.string ⟨a.gone.toArray⟩, .string ⟨a.name.toArray⟩, .int .i64 (rfN a.file)] 82)) := (hb34.block z hz3).trans HX3.out
    have HC4' : Hid (w4.cell? ⟨g, 4, none⟩ = some (.slice pa PL pc)) := (hb34.cell (p := ⟨g, 4, none⟩) hg3).trans HC4.out
    obtain ⟨v5, w5, hrun, hn5, hgr5, hloc5⟩ := run_appAc (w := w4) 46 (.slice pa PL pc) (.slice (some ⟨w3.heap.size, 0, none⟩) 1 1) S1.pend a hp4 (by
      refine ⟨rfl, .inr ⟨_, _, rfl, fun k u hk => ?_⟩⟩
      match k, hk with
      | 0, hk => simp [acV] at hk; subst hk; exact cell_of hx4 0 _ rfl
      | 1, hk => simp [acV] at hk; subst hk; exact cell_of hx4 1 _ rfl
      | 2, hk => simp [acV] at hk; subst hk; exact cell_of hx4 2 _ rfl) HDl.out.2
    have hvp1 : ∀ k, (Value.slice pa PL pc).ownBlock = some k → O k := HR1.out.op
    have hpz : ∀ k, (Value.slice pa PL pc).ownBlock = some k → k ≠ z ∧ k ≠ g := fun k hk => by
      refine ⟨fun e => ?_, fun e => ?_⟩
      · have := HLt.out k (hvp1 k hk); rw [e, HZ.out] at this; omega
      · obtain ⟨cur, hb⟩ := HR1.out.hp.block hk
        exact ty_ne hb HR1.out.c (by decide) e
    have hk45 : ∀ k, k < w4.heap.size → some k ≠ (Value.slice pa PL pc).ownBlock → w5.heap[k]? = w4.heap[k]? := fun k hk hne => hgr5.block k hk hne
    have HX5 : Hid (w5.heap[z]? = some (.cells #[.string ⟨a.gone.toArray⟩, .string ⟨a.name.toArray⟩, .int .i64 (rfN a.file)] 82)) := (hk45 z (by omega) (fun e => (hpz z e.symm).1 rfl)).trans HX4.out
    have hc5 : RfC w5 g S1.room vf (.slice da2 D2 dc2) vo (.slice pa PL pc) af1 ee1 := (hk45 g (by omega) (fun e => (hpz g e.symm).2 rfl)).trans ((hb34.block g hg3).trans HC3.out)
    have HC5 : Hid (RfC w5 g S1.room vf (.slice da2 D2 dc2) vo (.slice pa PL pc) af1 ee1) := hc5
    have HN5 : Hid (GOwn w5 82 3 v5 (S1.pend ++ [a]).length ((S1.pend ++ [a]).flatMap acV)) := hn5
    have HLoc : Hid (∀ k, v5.ownBlock = some k → (Value.slice pa PL pc).ownBlock = some k ∨ (w3.heap.size ≤ k ∧ k < w5.heap.size)) := fun k hk => by
      rcases hloc5 k hk with q | q
      · exact .inl q
      · exact .inr (by omega)
    have HKp5 : Hid (∀ k, k < w1.heap.size → k ≠ g → some k ≠ (Value.slice pa PL pc).ownBlock → w5.heap[k]? = w1.heap[k]?) := fun k hk hg hp => (hk45 k (by omega) hp).trans ((hb34.block k (by omega)).trans (HKp3.out k hk hg))
    have HD5 : Hid (NOwn w5 (.slice da2 D2 dc2) (sfDo S1.dir a)) := GOwn.keep HD3.out fun k hk => by
      have h1 := HK3.out k hk
      refine (hk45 k (by omega) (fun e => ?_)).trans (hb34.block k (by omega))
      have := HR1.out.lt k (hvp1 k e.symm)
      omega
    have hs45 := hgr5.size
    have HO5 : Hid (Onl O w w5) := by
      have h35 : Onl O w3 w5 := (onl_of_below hb34 : Onl O w3 w4).then (Onl.grown hgr5 hvp1)
      exact HO3.out.then h35
    have HSz5 : Hid (w1.heap.size ≤ w5.heap.size ∧ w3.heap.size ≤ w5.heap.size) := by unfold Hid; omega
    have cp5 := cell_of HC5.out 4 _ rfl
    have fp5 : w5.frozen? ⟨g, 4, none⟩ = false := by simp [World.frozen?, show w5.heap[g]? = _ from HC5.out]
    have HCp5 : Hid (w5.cell? ⟨g, 4, none⟩ = some (.slice pa PL pc)) := cp5
    rw [← HW4.out]
    clear HW4 hb34 hx4 hs34 hp4 hz3 hg3 hn5 hgr5 hloc5 hvp1 hpz hk45 hc5 hs45 cp3 fp3
    refine hK.out _ _ ⟨?_, fun _ => ?_⟩ (fun hHeld => ?_)
    · exact HSix.out w4 HX4.out
    · exact HC4'.out
    clear hK K
    refine wpAnyS_ready (i := 7) (by kernel_rfl) rfl (fun K hK => ?_)
    refine wp_app_runG _ _ _ _ (by rfl) (by rfl) _ _ _ (by rfl) (by rfl) hrun ?_
    simp only [List.getElem_toArray, List.getElem_cons_succ, List.getElem_cons_zero, Act.put, List.setIfInBounds_toArray, List.set_cons_zero, List.set_cons_succ]
    refine hK.out _ _ ⟨?_, fun _ => ?_⟩ (fun hHeld => ?_)
    · exact HSix.out w5 HX5.out
    · exact HCp5.out
    clear hK K
    obtain ⟨pa5, pc5, hv5, _⟩ := GOwn.form HN5.out
    obtain ⟨P5, HP5⟩ : ∃ n, Hid ((S1.pend ++ [a]).length = n) := ⟨_, rfl⟩
    rw [HP5.out] at hv5
    subst hv5
    refine wpAnyS_take (i := 8) (v := .pointer (some ⟨g, 0, none⟩)) _ rfl (by kernel_rfl) (by kernel_rfl) (by kernel_rfl) (by kernel_rfl) (by kernel_rfl) rfl (fun _ _ _ h => h) (Or.inl ⟨by rfl, ?_⟩) hHeld (fun hHeld => ?_)
    · (intro w1 hSw; have hSw := hSw.1; (try dsimp only at hSw); go_simp)
    simp only [List.getElem_toArray, List.getElem_cons_succ, List.getElem_cons_zero, Act.put, List.setIfInBounds_toArray, List.set_cons_zero, List.set_cons_succ]
    refine wpAnyS_take (i := 9) (v := .pointer (some ⟨g, 4, none⟩)) _ rfl (by kernel_rfl) (by kernel_rfl) (by kernel_rfl) (by kernel_rfl) (by kernel_rfl) rfl (fun _ _ _ h => h) (Or.inl ⟨by rfl, ?_⟩) hHeld (fun hHeld => ?_)
    · (intro w1 hSw; have hSw := hSw.1; (try dsimp only at hSw); go_simp)
    simp only [List.getElem_toArray, List.getElem_cons_succ, List.getElem_cons_zero, Act.put, List.setIfInBounds_toArray, List.set_cons_zero, List.set_cons_succ]
    have HX6 : Hid ((w5.setCell ⟨g, 4, none⟩ (.slice pa5 P5 pc5)).heap[z]? = some (.cells #[.string ⟨a.gone.toArray⟩, .string ⟨a.name.toArray⟩, .int .i64 (rfN a.file)] 82)) := (Go.heap_setCell_other _ _ _ _ hgb.symm).trans HX5.out
    refine wpAnyS_ready (i := 10) (by kernel_rfl) rfl (fun K hK => ?_)
    go_simp
    refine hK.out _ _ ⟨?_, fun hno => absurd hno (by decide)⟩ (fun hHeld => ?_)
    · exact HSix.out _ HX6.out
    clear hK K
    refine wpAnyS_done (by kernel_rfl) ?_ _
    refine NoPanic.normal ?_
    obtain ⟨w6, HW6⟩ := hid_ex (w5.setCell ⟨g, 4, none⟩ (.slice pa5 P5 pc5))
    have hs6 : w6.heap.size = w5.heap.size := by rw [HW6.out]; simp [World.setCell]
    have hk6 : ∀ k, k ≠ g → w6.heap[k]? = w5.heap[k]? := fun k hk => by rw [HW6.out, Go.heap_setCell_other _ _ _ _ hk]
    have hc6 : RfC w6 g S1.room vf (.slice da2 D2 dc2) vo (.slice pa5 P5 pc5) af1 ee1 := by rw [HW6.out]; exact HC5.out.s4 _
    have ho6 : Onl O w w6 := by
      rw [HW6.out]
      exact HO5.out.trans (Onl.set (Or.inl HR1.out.og) _)
    have HO6 : Hid (Onl O w w6) := ho6
    have hgr6 : ∀ k, w.heap.size ≤ k ∧ k < w6.heap.size → Grw O w w6 k := fun k hk => .inr hk
    have hzz : z = w.heap.size := HZ.out
    have hw01 : w.heap.size ≤ w1.heap.size := HO1.out.size
    have HEnd : Hid (RfAt w6 (Grw O w w6) g vf (.slice da2 D2 dc2) vo (.slice pa5 P5 pc5) af1 ee1 fb va vb { S1 with dir := sfDo S1.dir a, pend := S1.pend ++ [a] }) := by
      refine HR1.out.re (D := sfDo S1.dir a) (P := S1.old) (A := S1.pend ++ [a]) (L := S1.left) (F := S1.fault) (fun k q => .inl q) (Grw.lt HLt.out ho6.size) (fun k ho hg hp => (hk6 k hg).trans (HKp5.out k (HR1.out.lt k ho) hg hp)) hc6 HR1.out.pl (GOwn.keep HD5.out fun k hk => hk6 k (fun e => ?_)) (GOwn.keep HR1.out.ho fun k hk => ?_) (HN5.out.keep fun k hk => hk6 k (fun e => ?_)) (fun k hk => ?_) (fun k hk => .inl (HR1.out.oo k hk)) (fun k hk => ?_)
      · subst e; have := HK3.out _ hk; omega
      · obtain ⟨cur, hb⟩ := GOwn.block HR1.out.ho hk
        have hkg := ty_ne hb HR1.out.c (by decide)
        refine (hk6 k hkg).trans (HKp5.out k (HR1.out.lt k (HR1.out.oo k hk)) hkg (fun e => ?_))
        obtain ⟨cur2, hb2⟩ := HR1.out.hp.block e.symm
        rw [hb] at hb2
        simp at hb2
      · subst e
        obtain ⟨cur, hb⟩ := HN5.out.block hk
        exact ty_ne hb HC5.out (by decide) rfl
      · have h1 := HK3.out k hk
        have h2 := HSz5.out
        exact .inr (by omega)
      · have h2 := HSz5.out
        rcases HLoc.out k hk with q | q
        · exact .inl (HR1.out.op k q)
        · exact .inr (by omega)
    rw [← HW6.out] at hHeld ⊢
    clear HW6 hs6 hk6 hc6 ho6 hgr6 hHeld cp5 fp5 hrun
    go_wp2_with fail
    go_ret
    rw [HRe.out]
    exact ⟨rfl, ⟨_, _, _, _, HEnd.out⟩, HO6.out⟩
  · have HRe : Hid (R = (E, S1)) := by unfold Hid; rw [HCh.out, if_neg hE]
    clear HCh
    have hEb : (E == 0) = false := by simpa using hE
    go_wp2_with fail
    go_ret
    rw [HRe.out]
    exact ⟨rfl, ⟨_, _, _, _, HR1.out.wider (fun k q => .inl q) (fun k q => Grw.lt HLt.out HO1.out.size k q)⟩, HO1.out⟩
end Go.Proofs.Ytijablmejjepaaa
