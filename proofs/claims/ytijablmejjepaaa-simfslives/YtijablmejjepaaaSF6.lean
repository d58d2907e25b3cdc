/- A file system: the directory is changed. -/
import Derived.Test.YtijablmejjepaaaSF5
namespace Go.Proofs.Ytijablmejjepaaa
open Go.RowKit Go.Maps

theorem wp_app_runG {w w' : World} {o : Oper} {a : Act} {K : Act → World → Prop} {Q : Exit → Act → World → Prop} (s x : Operand) (t ty : TypeId) (ho : o.op = .call { callee := .builtin .append, args := #[s, x], argTypes := #[t, t] }) (hty : o.type = ty) (v vx v' : Value) (hs : a.eval s = v) (hx : a.eval x = vx)
    (hrun : (Builtin.append_ #[t, t] ty #[v, vx]).run Try.prog w = .ok v' w') (h : K (a.put o.dst v') w') : o.wp Try.prog a w K Q := by
  subst hty
  unfold Oper.wp
  simp [execOp, ho, resolve, invoke, builtin, hs, hx, hrun, Result.andThen]
  exact h
theorem sfPlan_dir (s : SfS) : (sfPlan s).2.dir = s.dir := by unfold sfPlan; (split; rfl; split <;> rfl)
theorem sfPlan_old (s : SfS) : (sfPlan s).2.old = s.old := by unfold sfPlan; (split; rfl; split <;> rfl)
theorem sfPlan_pend (s : SfS) : (sfPlan s).2.pend = s.pend := by unfold sfPlan; (split; rfl; split <;> rfl)
theorem sfPlan_fls (s : SfS) : (sfPlan s).2.fls = s.fls := by unfold sfPlan; (split; rfl; split <;> rfl)
theorem sfPlan_room (s : SfS) : (sfPlan s).2.room = s.room := by unfold sfPlan; (split; rfl; split <;> rfl)
theorem SfWf.dl {s : SfS} (h : SfWf s) : s.dir.length ≤ 256 := by have := h.ln s.pend.length; rw [List.take_length, ← h.ap] at this; exact this
theorem infoA : (Try.prog.info? 71).map (fun i => (i.zero, i.size, i.bytes)) = some (some (.agg #[.string ⟨#[]⟩, .string ⟨#[]⟩, .pointer none]), 3, 40) := by kernel_rfl
theorem run_appA {w : World} (ty : TypeId) (bl : Nat → Nat) (v vx : Value) (P : List SfA) (a : SfA) (h : GOwn w 71 3 v P.length (P.flatMap (sfAv bl))) (hx : GSrc w 3 vx 1 (sfAv bl a)) (hl : P.length < 1099511627776) :
    ∃ v' w', (Builtin.append_ #[41, 41] ty #[v, vx]).run Try.prog w = .ok v' w' ∧ GOwn w' 71 3 v' (P ++ [a]).length ((P ++ [a]).flatMap (sfAv bl)) ∧ w.grownBy w' v.ownBlock ∧ (∀ k, v'.ownBlock = some k → v.ownBlock = some k ∨ (w.heap.size ≤ k ∧ k < w'.heap.size)) := by
  obtain ⟨i0, hi, hz0, hz1, hz2⟩ := info_parts infoA
  obtain ⟨v', w', h1, h2, h3, h4⟩ := run_gapp (P := Try.prog) 41 ty 71 i0 _ 3 40 Try.underlying41 hi hz0 hz1 hz2 rfl v P.length _ h vx 1 (sfAv bl a) hx (by
    intro u hu
    obtain ⟨pt, hpt⟩ := sfPv_ptr bl a.file
    simp only [sfAv, hpt, List.mem_cons, List.not_mem_nil, or_false] at hu
    rcases hu with rfl | rfl | rfl <;> rfl) (by simp only [maxLen]; omega) (by omega)
  exact ⟨v', w', h1, by rw [List.length_append, List.flatMap_append]; simpa using h2, h3, h4⟩
theorem change_any {w : World} {O : Nat → Prop} {g m1 m2 : Nat} {pv : Value} {bl : Nat → Nat} {vs : Nat → Value} {s : SfS} (h : FsAt w O g m1 m2 pv bl vs s) (hw : SfWf s) (a : SfA) (h1 : a.gone.length ≤ maxLen) (h2 : a.name.length ≤ maxLen) (hpn : s.pend.length < 1099511627776) :
    Calls Try.prog 35 #[.pointer (some ⟨g, 0, none⟩), .agg #[.string ⟨a.gone.toArray⟩, .string ⟨a.name.toArray⟩, sfPv bl a.file]] w fun e w' => e = .returned (.int .i64 (sfChange s a).1) ∧ (∃ pv', FsAt w' (Grw O w w') g m1 m2 pv' bl vs (sfChange s a).2) ∧ Onl O w w' := by
  obtain ⟨A, HA⟩ := hid_ex a
  obtain ⟨pt, hpt⟩ := sfPv_ptr bl a.file
  rw [hpt]
  have HPT : Hid (sfPv bl a.file = .pointer pt) := hpt
  clear hpt
  have HW : Hid (SfWf s) := hw
  have HF0 : Hid (FsAt w O g m1 m2 pv bl vs s) := h
  have HF1 : Hid (FsAt (w.alloc (.cells #[.string ⟨a.gone.toArray⟩, .string ⟨a.name.toArray⟩, .pointer pt] 71)) O g m1 m2 pv bl vs s) := h.keep (fun k hk => Below.heap_alloc _ _ _ (h.lt k hk)) (by simp)
  have HX : Hid ((w.alloc (.cells #[.string ⟨a.gone.toArray⟩, .string ⟨a.name.toArray⟩, .pointer pt] 71)).heap[w.heap.size]? = some (.cells #[.string ⟨a.gone.toArray⟩, .string ⟨a.name.toArray⟩, .pointer pt] 71)) := heap_alloc_new _ _
  have HO1 : Hid (Onl O w (w.alloc (.cells #[.string ⟨a.gone.toArray⟩, .string ⟨a.name.toArray⟩, .pointer pt] 71))) := Onl.alloc _
  have HNO : Hid (¬ O w.heap.size) := fun q => by have := h.lt _ q; omega
  clear h hw
  unfold sfChange
  by_cases hE : (sfPlan s).1 = 0
  · rw [if_pos hE]
    obtain ⟨S, HS⟩ := hid_ex (sfPlan s).2
    rw [← HS.out]
    go_enter Try.func35, Try.ntmps35
    go_wp2_with fail
    refine (planned_any HF1.out HW.out).mono ?_
    rintro e w2 ⟨rfl, hf2, ho2, hs2⟩
    have HF2 : Hid (FsAt w2 O g m1 m2 pv bl vs (sfPlan s).2) := hf2
    have HO2 : Hid (Onl O w w2) := HO1.out.then ho2
    have HX2 : Hid (w2.heap[w.heap.size]? = some (.cells #[.string ⟨a.gone.toArray⟩, .string ⟨a.name.toArray⟩, .pointer pt] 71)) := (ho2.block _ (by simp) HNO.out).trans HX.out
    clear hf2 ho2 hs2 HF1 HO1 HX
    rw [hE]
    rw [← HS.out] at HF2
    have HD : Hid (S.dir = s.dir) := by show S.dir = _; rw [HS.out]; exact sfPlan_dir s
    have HP : Hid (S.pend = s.pend) := by show S.pend = _; rw [HS.out]; exact sfPlan_pend s
    clear hE
    go_wp2_with fail
    have cm := HF2.out.c1
    have y0 := cell_of HX2.out 0 _ rfl
    have y1 := cell_of HX2.out 1 _ rfl
    have y2 := cell_of HX2.out 2 _ rfl
    have HDO : Hid (Calls Try.prog 48 #[.agg #[.string ⟨a.gone.toArray⟩, .string ⟨a.name.toArray⟩, .pointer pt], .map (some m1)] w2.drew fun e w' => e = .returned (.tuple #[]) ∧ FsAt w' O g m1 m2 pv bl vs { S with dir := sfDo S.dir a } ∧ Onl O w2 w') := by
      have hm1 : SfMap w2.drew m1 bl S.dir := HF2.out.h1
      have := do_any hm1 (by have := HW.out.dl; rw [HD.out]; simp only [maxLen]; omega) a h1 h2
      rw [HPT.out] at this
      refine this.mono ?_
      rintro e w' ⟨he, h1, h2⟩
      refine ⟨he, HF2.out.set1 (w' := w') h2.size (fun k hk hne => h2.block k (HF2.out.lt k hk) hne) h1, ⟨h2.os, h2.tape, h2.output, h2.size, fun k hk ho => h2.block k hk (fun e => ho (e ▸ HF2.out.o1))⟩⟩
    refine wp_region_noPanic ?_
    refine wp_region_S 5 (fun _ => True) (fun w' => w'.cell? ⟨w.heap.size, 0, none⟩ = some (.string ⟨a.gone.toArray⟩) ∧ w'.cell? ⟨w.heap.size, 1, none⟩ = some (.string ⟨a.name.toArray⟩) ∧ w'.cell? ⟨w.heap.size, 2, none⟩ = some (.pointer pt) ∧ w'.cell? ⟨g, 1, none⟩ = some (.map (some m1))) (by kernel_rfl) ?_ ?_ (fun hHeld => ?_)
    · trivial
    · exact ⟨y0, y1, y2, cm⟩
    refine wpAnyS_take (i := 0) (v := .agg #[.string ⟨a.gone.toArray⟩, .string ⟨a.name.toArray⟩, .pointer pt]) true rfl (by kernel_rfl) (by kernel_rfl) (by kernel_rfl) (by kernel_rfl) (by kernel_rfl) (by kernel_rfl) (fun _ _ _ h => h) (Or.inl ⟨by rfl, ?_⟩) hHeld (fun hHeld => ?_)
    · (intro w1 hSw; have hSw2 := hSw.2 rfl; have hSw := hSw.1; (try dsimp only at hSw hSw2); go_simp)
    simp only [List.getElem_toArray, List.getElem_cons_zero, Act.put, List.setIfInBounds_toArray, List.set_cons_zero, List.set_cons_succ]
    refine wpAnyS_take (i := 1) (v := .pointer (some ⟨g, 0, none⟩)) _ rfl (by kernel_rfl) (by kernel_rfl) (by kernel_rfl) (by kernel_rfl) (by kernel_rfl) rfl (fun _ _ _ h => h) (Or.inl ⟨by rfl, ?_⟩) hHeld (fun hHeld => ?_)
    · (intro w1 hSw; have hSw := hSw.1; (try dsimp only at hSw); go_simp)
    simp only [List.getElem_toArray, List.getElem_cons_succ, List.getElem_cons_zero, Act.put, List.setIfInBounds_toArray, List.set_cons_zero, List.set_cons_succ]
    refine wpAnyS_take (i := 2) (v := .pointer (some ⟨g, 0, none⟩)) _ rfl (by kernel_rfl) (by kernel_rfl) (by kernel_rfl) (by kernel_rfl) (by kernel_rfl) rfl (fun _ _ _ h => h) (Or.inl ⟨by rfl, ?_⟩) hHeld (fun hHeld => ?_)
    · (intro w1 hSw; have hSw := hSw.1; (try dsimp only at hSw); go_simp)
    simp only [List.getElem_toArray, List.getElem_cons_succ, List.getElem_cons_zero, Act.put, List.setIfInBounds_toArray, List.set_cons_zero, List.set_cons_succ]
    refine wpAnyS_take (i := 3) (v := .pointer (some ⟨g, 1, none⟩)) _ rfl (by kernel_rfl) (by kernel_rfl) (by kernel_rfl) (by kernel_rfl) (by kernel_rfl) rfl (fun _ _ _ h => h) (Or.inl ⟨by rfl, ?_⟩) hHeld (fun hHeld => ?_)
    · (intro w1 hSw; have hSw := hSw.1; (try dsimp only at hSw); go_simp)
    simp only [List.getElem_toArray, List.getElem_cons_succ, List.getElem_cons_zero, Act.put, List.setIfInBounds_toArray, List.set_cons_zero, List.set_cons_succ]
    refine wpAnyS_take (i := 4) (v := .map (some m1)) true rfl (by kernel_rfl) (by kernel_rfl) (by kernel_rfl) (by kernel_rfl) (by kernel_rfl) (by kernel_rfl) (fun _ _ _ h => h) (Or.inl ⟨by rfl, ?_⟩) hHeld (fun hHeld => ?_)
    · (intro w1 hSw; have hSw2 := hSw.2 rfl; have hSw := hSw.1; (try dsimp only at hSw hSw2); go_simp)
    simp only [List.getElem_toArray, List.getElem_cons_succ, List.getElem_cons_zero, Act.put, List.setIfInBounds_toArray, List.set_cons_zero, List.set_cons_succ]
    refine wpAnyS_ready (i := 5) (by kernel_rfl) rfl (fun K hK => ?_)
    go_simp
    refine HDO.out.mono ?_
    rintro e w3 ⟨rfl, hf3, ho3⟩
    have HF3 := (show Hid (FsAt w3 O g m1 m2 pv bl vs { S with dir := sfDo S.dir a }) from hf3)
    have HO3 : Hid (Onl O w w3) := HO2.out.then ho3
    have HX3 : Hid (w3.heap[w.heap.size]? = some (.cells #[.string ⟨a.gone.toArray⟩, .string ⟨a.name.toArray⟩, .pointer pt] 71)) := (ho3.block _ (Array.getElem?_eq_some_iff.1 HX2.out).1 HNO.out).trans HX2.out
    clear hf3 ho3 HDO HO2 HF2 HX2 y0 y1 y2 cm
    go_simp
    refine hK.out _ _ ⟨?_, fun hno => absurd hno (by decide)⟩ (fun hHeld => ?_)
    · trivial
    clear hK K
    refine wpAnyS_done (by kernel_rfl) ?_ _
    refine NoPanic.normal ?_
    go_wp2_with fail
    have y0 := cell_of HX3.out 0 _ rfl
    have y1 := cell_of HX3.out 1 _ rfl
    have y2 := cell_of HX3.out 2 _ rfl
    have cp := HF3.out.c3
    have fp := HF3.out.fz 3
    obtain ⟨pa, pc, hpv, _⟩ := HF3.out.hp.form
    subst hpv
    generalize hN : S.pend.length = N at *
    have HN : Hid (S.pend.length = N) := hN
    clear hN
    have HF3' : Hid (FsAt w3 O g m1 m2 (.slice pa N pc) bl vs { S with dir := sfDo S.dir a }) := HF3.out
    clear HF3
    obtain ⟨w4, HW4⟩ := hid_ex ((w3.alloc (.cells #[.string ⟨a.gone.toArray⟩, .string ⟨a.name.toArray⟩, .pointer pt] 71)).drew)
    have hk4 : ∀ k, k < w3.heap.size → w4.heap[k]? = w3.heap[k]? := fun k hk => by rw [HW4.out]; exact Below.heap_alloc w3 _ k hk
    have hs4 : w4.heap.size = w3.heap.size + 1 := by rw [HW4.out]; exact World.size_alloc _ _
    obtain ⟨v', w5, hrun, hg5, hgr, hloc⟩ := run_appA (w := w4) 41 bl (.slice pa N pc) (.slice (some ⟨w3.heap.size, 0, none⟩) 1 1) S.pend a (by
      refine HF3'.out.hp.keep fun k hk => hk4 k (HF3'.out.lt k (HF3'.out.op k hk))) (by
      refine ⟨rfl, .inr ⟨_, _, rfl, fun j u hj => ?_⟩⟩
      have hb4 : w4.heap[w3.heap.size]? = some (.cells #[.string ⟨a.gone.toArray⟩, .string ⟨a.name.toArray⟩, .pointer pt] 71) := by rw [HW4.out]; exact heap_alloc_new w3 _
      simp only [sfAv, HPT.out] at hj
      match j, hj with
      | 0, hj => simp at hj; subst hj; exact cell_of hb4 0 _ rfl
      | 1, hj => simp at hj; subst hj; exact cell_of hb4 1 _ rfl
      | 2, hj => simp at hj; subst hj; exact cell_of hb4 2 _ rfl) (by rw [HP.out]; exact hpn)
    have hg3 := (Array.getElem?_eq_some_iff.1 HF3'.out.hg).1
    obtain ⟨va, vc, hv', -⟩ := hg5.form
    obtain ⟨M, HM⟩ := hid_ex ((S.pend ++ [a]).length)
    rw [← HM.out] at hv'
    subst hv'
    have HG5 : Hid (w5.heap[g]? = some (.cells #[.int .i64 S.room, .map (some m1), .map (some m2), .slice pa N pc, .int .i64 S.left, .int .i64 S.fault] 43)) := by
      show w5.heap[g]? = _
      rw [hgr.block g (by omega) (fun e => ?_), hk4 g hg3]
      · exact HF3'.out.hg
      · obtain ⟨cur, hc⟩ := HF3'.out.pvT e.symm
        exact ty_ne hc HF3'.out.hg (by decide) rfl
    have HS5 : Hid (w4.heap.size ≤ w5.heap.size) := hgr.size
    have HGO : Hid (GOwn w5 71 3 (.slice va M vc) (S.pend ++ [a]).length ((S.pend ++ [a]).flatMap (sfAv bl))) := hg5
    have HGR : Hid (w4.grownBy w5 (Value.slice pa N pc).ownBlock) := hgr
    have HLC : Hid (∀ k, (Value.slice va M vc).ownBlock = some k → (Value.slice pa N pc).ownBlock = some k ∨ (w4.heap.size ≤ k ∧ k < w5.heap.size)) := hloc
    have HK4 : Hid (∀ k, k < w3.heap.size → w4.heap[k]? = w3.heap[k]?) := hk4
    have HZ4 : Hid (w4.heap.size = w3.heap.size + 1) := hs4
    have d3 : w5.cell? ⟨g, 3, none⟩ = some (.slice pa N pc) := cell_of HG5.out 3 _ rfl
    have e3 : w5.frozen? ⟨g, 3, none⟩ = false := by simp [World.frozen?, HG5.out]
    have z0 : w4.cell? ⟨w.heap.size, 0, none⟩ = some (.string ⟨a.gone.toArray⟩) := (World.cell?_of_block (hk4 _ (Array.getElem?_eq_some_iff.1 HX3.out).1)).trans y0
    have z1 : w4.cell? ⟨w.heap.size, 1, none⟩ = some (.string ⟨a.name.toArray⟩) := (World.cell?_of_block (hk4 _ (Array.getElem?_eq_some_iff.1 HX3.out).1)).trans y1
    have z2 : w4.cell? ⟨w.heap.size, 2, none⟩ = some (.pointer pt) := (World.cell?_of_block (hk4 _ (Array.getElem?_eq_some_iff.1 HX3.out).1)).trans y2
    have z3 : w4.cell? ⟨g, 3, none⟩ = some (.slice pa N pc) := (World.cell?_of_block (hk4 _ hg3)).trans cp
    have hb5 : w5.heap[w.heap.size]? = w4.heap[w.heap.size]? := hgr.block _ (by have := (Array.getElem?_eq_some_iff.1 HX3.out).1; omega) (fun e => HNO.out (HF3'.out.op _ e.symm))
    have u0 := (World.cell?_of_block (a := ⟨w.heap.size, 0, none⟩) hb5).trans z0
    have u1 := (World.cell?_of_block (a := ⟨w.heap.size, 1, none⟩) hb5).trans z1
    have u2 := (World.cell?_of_block (a := ⟨w.heap.size, 2, none⟩) hb5).trans z2
    clear hg5 hgr hloc hk4 hs4 hb5
    refine wp_region_noPanic ?_
    refine wp_region_S 7 (fun w' => w'.cell? ⟨w.heap.size, 0, none⟩ = some (.string ⟨a.gone.toArray⟩) ∧ w'.cell? ⟨w.heap.size, 1, none⟩ = some (.string ⟨a.name.toArray⟩) ∧ w'.cell? ⟨w.heap.size, 2, none⟩ = some (.pointer pt)) (fun w' => w'.cell? ⟨g, 3, none⟩ = some (.slice pa N pc)) (by kernel_rfl) ?_ ?_ (fun hHeld => ?_)
    · exact ⟨y0, y1, y2⟩
    · exact cp
    refine wpAnyS_take (i := 0) (v := .pointer (some ⟨g, 0, none⟩)) _ rfl (by kernel_rfl) (by kernel_rfl) (by kernel_rfl) (by kernel_rfl) (by kernel_rfl) rfl (fun _ _ _ h => h) (Or.inl ⟨by rfl, ?_⟩) hHeld (fun hHeld => ?_)
    · (intro w1 hSw; have hSw := hSw.1; (try dsimp only at hSw); go_simp)
    simp only [List.getElem_toArray, List.getElem_cons_zero, Act.put, List.setIfInBounds_toArray, List.set_cons_zero, List.set_cons_succ]
    refine wpAnyS_take (i := 1) (v := .pointer (some ⟨g, 0, none⟩)) _ rfl (by kernel_rfl) (by kernel_rfl) (by kernel_rfl) (by kernel_rfl) (by kernel_rfl) rfl (fun _ _ _ h => h) (Or.inl ⟨by rfl, ?_⟩) hHeld (fun hHeld => ?_)
    · (intro w1 hSw; have hSw := hSw.1; (try dsimp only at hSw); go_simp)
    simp only [List.getElem_toArray, List.getElem_cons_succ, List.getElem_cons_zero, Act.put, List.setIfInBounds_toArray, List.set_cons_zero, List.set_cons_succ]
    refine wpAnyS_take (i := 2) (v := .pointer (some ⟨g, 0, none⟩)) _ rfl (by kernel_rfl) (by kernel_rfl) (by kernel_rfl) (by kernel_rfl) (by kernel_rfl) rfl (fun _ _ _ h => h) (Or.inl ⟨by rfl, ?_⟩) hHeld (fun hHeld => ?_)
    · (intro w1 hSw; have hSw := hSw.1; (try dsimp only at hSw); go_simp)
    simp only [List.getElem_toArray, List.getElem_cons_succ, List.getElem_cons_zero, Act.put, List.setIfInBounds_toArray, List.set_cons_zero, List.set_cons_succ]
    refine wpAnyS_take (i := 3) (v := .pointer (some ⟨g, 3, none⟩)) _ rfl (by kernel_rfl) (by kernel_rfl) (by kernel_rfl) (by kernel_rfl) (by kernel_rfl) rfl (fun _ _ _ h => h) (Or.inl ⟨by rfl, ?_⟩) hHeld (fun hHeld => ?_)
    · (intro w1 hSw; have hSw := hSw.1; (try dsimp only at hSw); go_simp)
    simp only [List.getElem_toArray, List.getElem_cons_succ, List.getElem_cons_zero, Act.put, List.setIfInBounds_toArray, List.set_cons_zero, List.set_cons_succ]
    refine wpAnyS_take (i := 4) (v := .slice pa N pc) true rfl (by kernel_rfl) (by kernel_rfl) (by kernel_rfl) (by kernel_rfl) (by kernel_rfl) (by kernel_rfl) (fun _ _ _ h => h) (Or.inl ⟨by rfl, ?_⟩) hHeld (fun hHeld => ?_)
    · (intro w1 hSw; have hSw2 := hSw.2 rfl; have hSw := hSw.1; (try dsimp only at hSw hSw2); go_simp)
    simp only [List.getElem_toArray, List.getElem_cons_succ, List.getElem_cons_zero, Act.put, List.setIfInBounds_toArray, List.set_cons_zero, List.set_cons_succ]
    refine wpAnyS_take (i := 5) (v := .agg #[.string ⟨a.gone.toArray⟩, .string ⟨a.name.toArray⟩, .pointer pt]) _ rfl (by kernel_rfl) (by kernel_rfl) (by kernel_rfl) (by kernel_rfl) (by kernel_rfl) rfl (fun _ _ _ h => h) (Or.inl ⟨by rfl, ?_⟩) hHeld (fun hHeld => ?_)
    · (intro w1 hSw; have hSw := hSw.1; (try dsimp only at hSw); go_simp)
    simp only [List.getElem_toArray, List.getElem_cons_succ, List.getElem_cons_zero, Act.put, List.setIfInBounds_toArray, List.set_cons_zero, List.set_cons_succ]
    clear y0 y1 y2 cp fp
    refine wpAnyS_ready (i := 6) (by kernel_rfl) rfl (fun K hK => ?_)
    go_simp
    rw [← HW4.out]
    refine hK.out _ _ ⟨?_, fun _ => ?_⟩ (fun hHeld => ?_)
    · exact ⟨z0, z1, z2⟩
    · exact z3
    clear hK K
    refine wpAnyS_ready (i := 7) (by kernel_rfl) rfl (fun K hK => ?_)
    refine wp_app_runG (.tmp 21) (.tmp 23) 41 41 rfl rfl _ _ _ (by simp [Act.eval]) (by simp [Act.eval]) hrun ?_
    simp only [List.getElem_toArray, List.getElem_cons_succ, List.getElem_cons_zero, Act.put, List.setIfInBounds_toArray, List.set_cons_zero, List.set_cons_succ]
    refine hK.out _ _ ⟨?_, fun hno => absurd hno (by decide)⟩ (fun hHeld => ?_)
    · exact ⟨u0, u1, u2⟩
    clear hK K
    clear z0 z1 z2 z3
    refine wpAnyS_take (i := 8) (v := .pointer (some ⟨g, 0, none⟩)) _ rfl (by kernel_rfl) (by kernel_rfl) (by kernel_rfl) (by kernel_rfl) (by kernel_rfl) rfl (fun _ _ _ h => h) (Or.inl ⟨by rfl, ?_⟩) hHeld (fun hHeld => ?_)
    · (intro w1 hSw; have hSw := hSw.1; (try dsimp only at hSw); go_simp)
    simp only [List.getElem_toArray, List.getElem_cons_succ, List.getElem_cons_zero, Act.put, List.setIfInBounds_toArray, List.set_cons_zero, List.set_cons_succ]
    refine wpAnyS_take (i := 9) (v := .pointer (some ⟨g, 3, none⟩)) _ rfl (by kernel_rfl) (by kernel_rfl) (by kernel_rfl) (by kernel_rfl) (by kernel_rfl) rfl (fun _ _ _ h => h) (Or.inl ⟨by rfl, ?_⟩) hHeld (fun hHeld => ?_)
    · (intro w1 hSw; have hSw := hSw.1; (try dsimp only at hSw); go_simp)
    simp only [List.getElem_toArray, List.getElem_cons_succ, List.getElem_cons_zero, Act.put, List.setIfInBounds_toArray, List.set_cons_zero, List.set_cons_succ]
    refine wpAnyS_ready (i := 10) (by kernel_rfl) rfl (fun K hK => ?_)
    go_simp
    refine hK.out _ _ ⟨?_, fun hno => absurd hno (by decide)⟩ (fun hHeld => ?_)
    · exact ⟨(World.cell?_setCell_other _ _ _ _ (by simp)).trans u0, (World.cell?_setCell_other _ _ _ _ (by simp)).trans u1, (World.cell?_setCell_other _ _ _ _ (by simp)).trans u2⟩
    clear hK K
    refine wpAnyS_done (by kernel_rfl) ?_ _
    refine NoPanic.normal ?_
    go_wp2_with fail
    go_ret
    refine ⟨rfl, ⟨.slice va M vc, ?_⟩, ?_⟩
    · refine FsAt.setG (s := { S with dir := sfDo S.dir a }) HF3'.out (fun _ q => .inl q) (fun k q => ?_) (fun k ho hk hp => ?_) ?_ (HGO.out.keep fun k hk => ?_) (fun k hk => ?_)
      · have : k < w5.heap.size := by
          have h3 := HO3.out.size
          rcases q with q | q
          · have := HF3'.out.lt k q; have := HS5.out; have := HZ4.out; omega
          · simpa [World.setCell] using q.2
        simpa [World.setCell] using this
      · rw [Below.heap_setCell _ _ _ _ hk, HGR.out.block k (by have := HF3'.out.lt k ho; have := HZ4.out; omega) hp, HK4.out k (HF3'.out.lt k ho)]
      · have := cells_set HG5.out 3 (.slice va M vc); simpa using this
      · obtain ⟨cur, hc⟩ := HGO.out.block hk
        exact Below.heap_setCell _ _ _ _ (ty_ne hc HG5.out (by decide))
      · rcases HLC.out k hk with q | q
        · exact .inl (HF3'.out.op k q)
        · exact .inr ⟨by have := HO3.out.size; have := HZ4.out; omega, by simpa [World.setCell] using q.2⟩
    · refine HO3.out.then ⟨?_, ?_, ?_, ?_, fun k hk ho => ?_⟩
      · show w5.os = _; rw [HGR.out.os, HW4.out]; rfl
      · show w5.tape = _; rw [HGR.out.tape, HW4.out]; rfl
      · show w5.output = _; rw [HGR.out.output, HW4.out]; rfl
      · have := HS5.out; have := HZ4.out; simp [World.setCell]; omega
      · have hne : k ≠ g := fun e => ho (e ▸ HF3'.out.og)
        rw [Below.heap_setCell _ _ _ _ hne, HGR.out.block k (by have := HZ4.out; omega) (fun e => ho (HF3'.out.op k e.symm)), HK4.out k hk]
  · rw [if_neg hE]
    have hE' : ((sfPlan s).1 == 0) = false := by simpa using hE
    go_enter Try.func35, Try.ntmps35
    go_wp2_with fail
    refine (planned_any HF1.out HW.out).mono ?_
    rintro e w2 ⟨rfl, hf2, ho2, hs2⟩
    have HF2 : Hid (FsAt w2 O g m1 m2 pv bl vs (sfPlan s).2) := hf2
    have HO2 : Hid (Onl O w w2) := HO1.out.then ho2
    have HX2 : Hid (w2.heap[w.heap.size]? = some (.cells #[.string ⟨a.gone.toArray⟩, .string ⟨a.name.toArray⟩, .pointer pt] 71)) := (ho2.block _ (by simp) HNO.out).trans HX.out
    clear hf2 ho2 hs2 HF1 HO1 HX
    go_wp2_with fail
    go_ret
    exact ⟨rfl, ⟨pv, HF2.out.wider (fun _ q => .inl q) (Grw.lt HF0.out.lt HO2.out.size)⟩, HO2.out⟩
end Go.Proofs.Ytijablmejjepaaa
