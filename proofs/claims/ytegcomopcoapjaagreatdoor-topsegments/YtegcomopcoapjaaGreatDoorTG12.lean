/- SF5 SF6 SF7 CP0 SF8, joined. -/
import Derived.Test.YtegcomopcoapjaaGreatDoorTG1
import Derived.Test.YtegcomopcoapjaaGreatDoorTG11
import Derived.Laws.CopyOwn
import Derived.Laws.OwnMore
/- A file system: acts are settled; the directory is changed. -/
namespace Go.Proofs.YtegcomopcoapjaaGreatDoor
open Go.RowKit Go.Maps

theorem elemA : Tryz.prog.elem 48 = 88 := by kernel_rfl
theorem run_slice_u (a : Option Addr) (n cap N : Nat) (h : N ≤ cap) (w : World) : (Instr.slice 48 (.slice a n cap) none (some (.int .i64 (N : Int))) none).run Tryz.prog w = .ok (.slice a N cap) w := by
  have ha : (Option.map (fun x : Addr => x.add 0) a) = a := by cases a <;> simp [add_zero']
  simp [Instr.slice, run_underlying Tryz.underlying48, Instr.sliceBounds, Instr.sliceBound, asIntOf, h, Result.andThen, ha]
theorem flat3 {α : Type} (f : α → List Value) (hf : ∀ a, (f a).length = 3) : ∀ (l : List α) (j : Nat) (hj : j < l.length) (i : Nat), i < 3 → (l.flatMap f)[j * 3 + i]? = (f l[j])[i]?
  | a :: l, 0, _, i, hi => by
    rw [List.flatMap_cons, List.getElem?_append_left (by rw [hf]; omega)]
    simp
  | a :: l, j + 1, hj, i, hi => by
    rw [List.flatMap_cons, List.getElem?_append_right (by rw [hf]; omega), hf]
    have := flat3 f hf l j (by simpa using hj) i hi
    rw [show (j + 1) * 3 + i - 3 = j * 3 + i by omega, this]
    simp
theorem GOwn.at3 {α : Type} {w : World} {e : TypeId} {q n cap : Nat} {l : List α} {f : α → List Value} (h : GOwn w e 3 (.slice (some ⟨q, 0, none⟩) n cap) l.length (l.flatMap f)) (hf : ∀ a, (f a).length = 3) (j : Nat) (hj : j < l.length) (i : Nat) (u : Value) (hi : (f l[j])[i]? = some u) : w.cell? ⟨q, j * 3 + i, none⟩ = some u := by
  have hi3 : i < 3 := by have := (List.getElem?_eq_some_iff.1 hi).1; rw [hf] at this; exact this
  have := h.cells (g := q) rfl (j * 3 + i) u (by rw [flat3 f hf l j hj i hi3]; exact hi)
  have ea : (⟨q, 0, none⟩ : Addr).add (j * 3 + i) = ⟨q, j * 3 + i, none⟩ := by simp [Addr.add]; omega
  rw [ea] at this
  exact this
theorem foldl_take_succ {l : List SfA} {j : Nat} (hj : j < l.length) (o : List (List UInt8 × Nat)) : (l.take (j + 1)).foldl sfDo o = sfDo ((l.take j).foldl sfDo o) l[j] := by
  rw [List.take_add_one, List.getElem?_eq_getElem hj, List.foldl_append]; rfl
theorem sfPv_ptr (bl : Nat → Nat) (o : Option Nat) : ∃ pt, sfPv bl o = .pointer pt := by cases o <;> exact ⟨_, rfl⟩
theorem cell_of {w : World} {b : Nat} {cs : Array Value} {T : TypeId} (h : w.heap[b]? = some (.cells cs T)) (i : Nat) (v : Value) (hv : cs[i]? = some v) : w.cell? ⟨b, i, none⟩ = some v := by
  obtain ⟨hi, rfl⟩ := Array.getElem?_eq_some_iff.1 hv
  simp [World.cell?, h, hi]
theorem settle_any {w : World} {O : Nat → Prop} {g m1 m2 : Nat} {pv : Value} {bl : Nat → Nat} {vs : Nat → Value} {s : SfS} (h : FsAt w O g m1 m2 pv bl vs s) (hw : SfWf s) (k : Nat) (hk : k ≤ s.pend.length) :
    Calls Tryz.prog 27 #[.pointer (some ⟨g, 0, none⟩), .int .i64 (k : Int)] w fun e w' => e = .returned (.tuple #[]) ∧ FsAt w' O g m1 m2 (.slice none 0 0) bl vs (sfSettle s k) ∧ Onl O w w' := by
  obtain ⟨a, cap, rfl, hc1, hc2, hc3, hc4⟩ := h.hp.form
  have c3 := h.c3
  have hsl := run_slice_u a s.pend.length cap k (by omega)
  have hkb : (k : Int) ≤ 9223372036854775807 := by simp only [maxLen] at hc2; omega
  have HF : Hid (FsAt w O g m1 m2 (.slice a s.pend.length cap) bl vs s) := h
  have HW : Hid (SfWf s) := hw
  clear h hw
  go_enter Tryz.func27, Tryz.ntmps27
  go_wp2_with fail
  clear c3 hsl
  go_loopw [13] (fun i wr => ∃ j : Nat, i = .int .i64 (j : Int) ∧ j ≤ k ∧ Hid (FsAt wr O g m1 m2 (.slice a s.pend.length cap) bl vs { s with old := (s.pend.take j).foldl sfDo s.old }) ∧ Hid (Onl O w wr)) (fun i _ => k - (intOf i).toNat)
  case atStart => exact ⟨0, rfl, by omega, HF, Onl.refl _ _⟩
  case round =>
    obtain ⟨j, rfl, hj, HR, HO⟩ := hrel
    by_cases hlt : j < k
    · have hlt' : (j : Int) < (k : Int) := by omega
      cases a with
      | none => have := (hc4 rfl).1; omega
      | some q =>
        obtain ⟨q, rfl⟩ : ∃ b : Nat, q = ⟨b, 0, none⟩ := ⟨_, hc3 q rfl⟩
        have hjl : j < s.pend.length := by omega
        obtain ⟨A, HA⟩ := hid_ex (s.pend[j])
        have hp := HR.out.hp
        have x0 := hp.at3 (fun _ => rfl) j hjl 0 (.string ⟨A.gone.toArray⟩) (by rw [HA.out]; rfl)
        have x1 := hp.at3 (fun _ => rfl) j hjl 1 (.string ⟨A.name.toArray⟩) (by rw [HA.out]; rfl)
        have x2 := hp.at3 (fun _ => rfl) j hjl 2 (sfPv bl A.file) (by rw [HA.out]; rfl)
        rw [Nat.add_zero] at x0
        obtain ⟨pt, hpt⟩ := sfPv_ptr bl A.file
        have HPT : Hid (sfPv bl A.file = .pointer pt) := hpt
        rw [hpt] at x2
        clear hp hpt
        go_wp2_with fail
        clear x0 x1 x2
        have HX : Hid ((wr.alloc (.cells #[.string ⟨A.gone.toArray⟩, .string ⟨A.name.toArray⟩, .pointer pt] 88)).heap[wr.heap.size]? = some (.cells #[.string ⟨A.gone.toArray⟩, .string ⟨A.name.toArray⟩, .pointer pt] 88)) := heap_alloc_new _ _
        have HR1 : Hid (FsAt (wr.alloc (.cells #[.string ⟨A.gone.toArray⟩, .string ⟨A.name.toArray⟩, .pointer pt] 88)) O g m1 m2 (.slice (some ⟨q, 0, none⟩) s.pend.length cap) bl vs { s with old := (s.pend.take j).foldl sfDo s.old }) := HR.out.keep (fun k hk => Below.heap_alloc _ _ _ (HR.out.lt k hk)) (by simp)
        have HO1 : Hid (Onl O w (wr.alloc (.cells #[.string ⟨A.gone.toArray⟩, .string ⟨A.name.toArray⟩, .pointer pt] 88))) := HO.out.then (Onl.alloc _)
        clear HR HO
        generalize (wr.alloc (.cells #[.string ⟨A.gone.toArray⟩, .string ⟨A.name.toArray⟩, .pointer pt] 88)) = w1 at *
        have cm := HR1.out.c2
        have y0 := cell_of HX.out 0 _ rfl
        have y1 := cell_of HX.out 1 _ rfl
        have y2 := cell_of HX.out 2 _ rfl
        have HDO : Hid (Calls Tryz.prog 48 #[.agg #[.string ⟨A.gone.toArray⟩, .string ⟨A.name.toArray⟩, .pointer pt], .map (some m2)] w1.drew fun e w' => e = .returned (.tuple #[]) ∧ FsAt w' O g m1 m2 (.slice (some ⟨q, 0, none⟩) s.pend.length cap) bl vs { s with old := (s.pend.take (j + 1)).foldl sfDo s.old } ∧ Onl O w1 w') := by
          have hA := HW.out.pi A (by rw [HA.out]; exact List.getElem_mem hjl)
          have hm2 : SfMap w1.drew m2 bl ((s.pend.take j).foldl sfDo s.old) := HR1.out.h2
          have := do_any hm2 (by have := HW.out.ln j; simp only [maxLen]; omega) A (by simp only [maxLen]; omega) (by simp only [maxLen]; omega)
          rw [HPT.out] at this
          refine this.mono ?_
          rintro e w' ⟨he, h1, h2⟩
          refine ⟨he, ?_, ⟨h2.os, h2.tape, h2.output, h2.size, fun k hk ho => h2.block k hk (fun e => ho (e ▸ HR1.out.o2))⟩⟩
          rw [foldl_take_succ hjl, ← HA.out]
          exact HR1.out.set2 (w' := w') h2.size (fun k hk hne => h2.block k (HR1.out.lt k hk) hne) h1
        refine wp_region_noPanic ?_
        refine wp_region_S 5 (fun _ => True) (fun w' => w'.cell? ⟨wr.heap.size, 0, none⟩ = some (.string ⟨A.gone.toArray⟩) ∧ w'.cell? ⟨wr.heap.size, 1, none⟩ = some (.string ⟨A.name.toArray⟩) ∧ w'.cell? ⟨wr.heap.size, 2, none⟩ = some (.pointer pt) ∧ w'.cell? ⟨g, 2, none⟩ = some (.map (some m2))) (by kernel_rfl) ?_ ?_ (fun hHeld => ?_)
        · trivial
        · exact ⟨y0, y1, y2, cm⟩
        refine wpAnyS_take (i := 0) (v := .agg #[.string ⟨A.gone.toArray⟩, .string ⟨A.name.toArray⟩, .pointer pt]) true rfl (by kernel_rfl) (by kernel_rfl) (by kernel_rfl) (by kernel_rfl) (by kernel_rfl) (by kernel_rfl) (fun _ _ _ h => h) (Or.inl ⟨by rfl, ?_⟩) hHeld (fun hHeld => ?_)
        · (intro w1 hSw; have hSw2 := hSw.2 rfl; have hSw := hSw.1; (try dsimp only at hSw hSw2); go_simp)
        simp only [List.getElem_toArray, List.getElem_cons_zero, Act.put, List.setIfInBounds_toArray, List.set_cons_zero, List.set_cons_succ]
        refine wpAnyS_take (i := 1) (v := .pointer (some ⟨g, 0, none⟩)) _ rfl (by kernel_rfl) (by kernel_rfl) (by kernel_rfl) (by kernel_rfl) (by kernel_rfl) rfl (fun _ _ _ h => h) (Or.inl ⟨by rfl, ?_⟩) hHeld (fun hHeld => ?_)
        · (intro w1 hSw; have hSw := hSw.1; (try dsimp only at hSw); go_simp)
        simp only [List.getElem_toArray, List.getElem_cons_succ, List.getElem_cons_zero, Act.put, List.setIfInBounds_toArray, List.set_cons_zero, List.set_cons_succ]
        refine wpAnyS_take (i := 2) (v := .pointer (some ⟨g, 0, none⟩)) _ rfl (by kernel_rfl) (by kernel_rfl) (by kernel_rfl) (by kernel_rfl) (by kernel_rfl) rfl (fun _ _ _ h => h) (Or.inl ⟨by rfl, ?_⟩) hHeld (fun hHeld => ?_)
        · (intro w1 hSw; have hSw := hSw.1; (try dsimp only at hSw); go_simp)
        simp only [List.getElem_toArray, List.getElem_cons_succ, List.getElem_cons_zero, Act.put, List.setIfInBounds_toArray, List.set_cons_zero, List.set_cons_succ]
        refine wpAnyS_take (i := 3) (v := .pointer (some ⟨g, 2, none⟩)) _ rfl (by kernel_rfl) (by kernel_rfl) (by kernel_rfl) (by kernel_rfl) (by kernel_rfl) rfl (fun _ _ _ h => h) (Or.inl ⟨by rfl, ?_⟩) hHeld (fun hHeld => ?_)
        · (intro w1 hSw; have hSw := hSw.1; (try dsimp only at hSw); go_simp)
        simp only [List.getElem_toArray, List.getElem_cons_succ, List.getElem_cons_zero, Act.put, List.setIfInBounds_toArray, List.set_cons_zero, List.set_cons_succ]
        refine wpAnyS_take (i := 4) (v := .map (some m2)) true rfl (by kernel_rfl) (by kernel_rfl) (by kernel_rfl) (by kernel_rfl) (by kernel_rfl) (by kernel_rfl) (fun _ _ _ h => h) (Or.inl ⟨by rfl, ?_⟩) hHeld (fun hHeld => ?_)
        · (intro w1 hSw; have hSw2 := hSw.2 rfl; have hSw := hSw.1; (try dsimp only at hSw hSw2); go_simp)
        simp only [List.getElem_toArray, List.getElem_cons_succ, List.getElem_cons_zero, Act.put, List.setIfInBounds_toArray, List.set_cons_zero, List.set_cons_succ]
        refine wpAnyS_ready (i := 5) (by kernel_rfl) rfl (fun K hK => ?_)
        go_simp
        refine HDO.out.mono ?_
        rintro e w2 ⟨rfl, hf2, ho2⟩
        have HR2 := (show Hid (FsAt w2 O g m1 m2 (.slice (some ⟨q, 0, none⟩) s.pend.length cap) bl vs { s with old := (s.pend.take (j + 1)).foldl sfDo s.old }) from hf2)
        have HO2 : Hid (Onl O w w2) := HO1.out.then ho2
        clear hf2 ho2 HDO HO1 HR1 HX y0 y1 y2 cm
        go_simp
        refine hK.out _ _ ⟨?_, fun hno => absurd hno (by decide)⟩ (fun hHeld => ?_)
        · trivial
        clear hK K
        refine wpAnyS_done (by kernel_rfl) ?_ _
        refine NoPanic.normal ?_
        go_wp2_with fail
        go_roundw
        case rel => exact ⟨j + 1, by go_num, by omega, HR2, HO2⟩
        case measure => simp [intOf]; omega
    · have hlt' : ¬ (j : Int) < (k : Int) := by omega
      obtain rfl : j = k := by omega
      have fz := HR.out.fz 3
      have c3 := HR.out.c3
      go_wp2_with fail
      refine bodyPost_end (results_none rfl _ _ _) rfl ?_
      refine ⟨rfl, ?_, HO.out.then (Onl.set (a := ⟨g, 3, none⟩) HR.out.og _)⟩
      refine FsAt.setG (s := { s with old := (s.pend.take j).foldl sfDo s.old }) HR.out (fun _ q => q) (fun k q => by have := HR.out.lt k q; simp [World.setCell]; exact this) (fun k _ hk _ => Below.heap_setCell _ _ _ _ hk) ?_ (GOwn.nil _ _ _) (fun k hk => by simp [Value.ownBlock] at hk)
      have := cells_set HR.out.hg 3 (.slice none 0 0); simpa using this
end Go.Proofs.YtegcomopcoapjaaGreatDoor

/- A file system: the directory is changed. -/
namespace Go.Proofs.YtegcomopcoapjaaGreatDoor
open Go.RowKit Go.Maps

theorem wp_app_runG {w w' : World} {o : Oper} {a : Act} {K : Act → World → Prop} {Q : Exit → Act → World → Prop} (s x : Operand) (t ty : TypeId) (ho : o.op = .call { callee := .builtin .append, args := #[s, x], argTypes := #[t, t] }) (hty : o.type = ty) (v vx v' : Value) (hs : a.eval s = v) (hx : a.eval x = vx)
    (hrun : (Builtin.append_ #[t, t] ty #[v, vx]).run Tryz.prog w = .ok v' w') (h : K (a.put o.dst v') w') : o.wp Tryz.prog a w K Q := by
  subst hty
  unfold Oper.wp
  simp [execOp, ho, resolve, invoke, builtin, hs, hx, hrun, Result.andThen]
  exact h
theorem sfPlan_dir (s : SfS) : (sfPlan s).2.dir = s.dir := by unfold sfPlan; (split; rfl; split <;> rfl)
theorem sfPlan_old (s : SfS) : (sfPlan s).2.old = s.old := by unfold sfPlan; (split; rfl; split <;> rfl)
theorem sfPlan_pend (s : SfS) : (sfPlan s).2.pend = s.pend := by unfold sfPlan; (split; rfl; split <;> rfl)
theorem sfPlan_fls (s : SfS) : (sfPlan s).2.fls = s.fls := by unfold sfPlan; (split; rfl; split <;> rfl)
theorem sfPlan_room (s : SfS) : (sfPlan s).2.room = s.room := by unfold sfPlan; (split; rfl; split <;> rfl)
theorem SfWf.dl {s : SfS} (h : SfWf s) : s.dir.length ≤ 256 := by have := h.ln s.pend.length; rw [List.take_length, ← h.ap] at this; exact this
theorem infoA : (Tryz.prog.info? 88).map (fun i => (i.zero, i.size, i.bytes)) = some (some (.agg #[.string ⟨#[]⟩, .string ⟨#[]⟩, .pointer none]), 3, 40) := by kernel_rfl
theorem run_appA {w : World} (ty : TypeId) (bl : Nat → Nat) (v vx : Value) (P : List SfA) (a : SfA) (h : GOwn w 88 3 v P.length (P.flatMap (sfAv bl))) (hx : GSrc w 3 vx 1 (sfAv bl a)) (hl : P.length < 1099511627776) :
    ∃ v' w', (Builtin.append_ #[48, 48] ty #[v, vx]).run Tryz.prog w = .ok v' w' ∧ GOwn w' 88 3 v' (P ++ [a]).length ((P ++ [a]).flatMap (sfAv bl)) ∧ w.grownBy w' v.ownBlock ∧ (∀ k, v'.ownBlock = some k → v.ownBlock = some k ∨ (w.heap.size ≤ k ∧ k < w'.heap.size)) := by
  obtain ⟨i0, hi, hz0, hz1, hz2⟩ := info_parts infoA
  obtain ⟨v', w', h1, h2, h3, h4⟩ := run_gapp (P := Tryz.prog) 48 ty 88 i0 _ 3 40 Tryz.underlying48 hi hz0 hz1 hz2 rfl v P.length _ h vx 1 (sfAv bl a) hx (by
    intro u hu
    obtain ⟨pt, hpt⟩ := sfPv_ptr bl a.file
    simp only [sfAv, hpt, List.mem_cons, List.not_mem_nil, or_false] at hu
    rcases hu with rfl | rfl | rfl <;> rfl) (by simp only [maxLen]; omega) (by omega)
  exact ⟨v', w', h1, by rw [List.length_append, List.flatMap_append]; simpa using h2, h3, h4⟩
theorem change_any {w : World} {O : Nat → Prop} {g m1 m2 : Nat} {pv : Value} {bl : Nat → Nat} {vs : Nat → Value} {s : SfS} (h : FsAt w O g m1 m2 pv bl vs s) (hw : SfWf s) (a : SfA) (h1 : a.gone.length ≤ maxLen) (h2 : a.name.length ≤ maxLen) (hpn : s.pend.length < 1099511627776) :
    Calls Tryz.prog 39 #[.pointer (some ⟨g, 0, none⟩), .agg #[.string ⟨a.gone.toArray⟩, .string ⟨a.name.toArray⟩, sfPv bl a.file]] w fun e w' => e = .returned (.int .i64 (sfChange s a).1) ∧ (∃ pv', FsAt w' (Grw O w w') g m1 m2 pv' bl vs (sfChange s a).2) ∧ Onl O w w' := by
  obtain ⟨A, HA⟩ := hid_ex a
  obtain ⟨pt, hpt⟩ := sfPv_ptr bl a.file
  rw [hpt]
  have HPT : Hid (sfPv bl a.file = .pointer pt) := hpt
  clear hpt
  have HW : Hid (SfWf s) := hw
  have HF0 : Hid (FsAt w O g m1 m2 pv bl vs s) := h
  have HF1 : Hid (FsAt (w.alloc (.cells #[.string ⟨a.gone.toArray⟩, .string ⟨a.name.toArray⟩, .pointer pt] 88)) O g m1 m2 pv bl vs s) := h.keep (fun k hk => Below.heap_alloc _ _ _ (h.lt k hk)) (by simp)
  have HX : Hid ((w.alloc (.cells #[.string ⟨a.gone.toArray⟩, .string ⟨a.name.toArray⟩, .pointer pt] 88)).heap[w.heap.size]? = some (.cells #[.string ⟨a.gone.toArray⟩, .string ⟨a.name.toArray⟩, .pointer pt] 88)) := heap_alloc_new _ _
  have HO1 : Hid (Onl O w (w.alloc (.cells #[.string ⟨a.gone.toArray⟩, .string ⟨a.name.toArray⟩, .pointer pt] 88))) := Onl.alloc _
  have HNO : Hid (¬ O w.heap.size) := fun q => by have := h.lt _ q; omega
  clear h hw
  unfold sfChange
  by_cases hE : (sfPlan s).1 = 0
  · rw [if_pos hE]
    obtain ⟨S, HS⟩ := hid_ex (sfPlan s).2
    rw [← HS.out]
    go_enter Tryz.func39, Tryz.ntmps39
    go_wp2_with fail
    refine (planned_any HF1.out HW.out).mono ?_
    rintro e w2 ⟨rfl, hf2, ho2, hs2⟩
    have HF2 : Hid (FsAt w2 O g m1 m2 pv bl vs (sfPlan s).2) := hf2
    have HO2 : Hid (Onl O w w2) := HO1.out.then ho2
    have HX2 : Hid (w2.heap[w.heap.size]? = some (.cells #[.string ⟨a.gone.toArray⟩, .string ⟨a.name.toArray⟩, .pointer pt] 88)) := (ho2.block _ (by simp) HNO.out).trans HX.out
    clear hf2 ho2 hs2 HF1 HO1 HX
    rw [hE]
    rw [← HS.out] at HF2
    have HD : Hid (S.dir = s.dir) := by show S.dir = _; rw [HS.out]; exact sfPlan_dir s
    have HP : Hid (S.pend = s.pend) := by show S.pend = _; rw [HS.out]; exact sfPlan_pend s
    clear hE
    go_wp2_with fail
    have cm := HF2.out.c1
    have y0 := cell_of HX2.out 0 _ rfl
    have y1 := cell_of HX2.out 1 _ rfl
    have y2 := cell_of HX2.out 2 _ rfl
    have HDO : Hid (Calls Tryz.prog 48 #[.agg #[.string ⟨a.gone.toArray⟩, .string ⟨a.name.toArray⟩, .pointer pt], .map (some m1)] w2.drew fun e w' => e = .returned (.tuple #[]) ∧ FsAt w' O g m1 m2 pv bl vs { S with dir := sfDo S.dir a } ∧ Onl O w2 w') := by
      have hm1 : SfMap w2.drew m1 bl S.dir := HF2.out.h1
      have := do_any hm1 (by have := HW.out.dl; rw [HD.out]; simp only [maxLen]; omega) a h1 h2
      rw [HPT.out] at this
      refine this.mono ?_
      rintro e w' ⟨he, h1, h2⟩
      refine ⟨he, HF2.out.set1 (w' := w') h2.size (fun k hk hne => h2.block k (HF2.out.lt k hk) hne) h1, ⟨h2.os, h2.tape, h2.output, h2.size, fun k hk ho => h2.block k hk (fun e => ho (e ▸ HF2.out.o1))⟩⟩
    refine wp_region_noPanic ?_
    refine wp_region_S 5 (fun _ => True) (fun w' => w'.cell? ⟨w.heap.size, 0, none⟩ = some (.string ⟨a.gone.toArray⟩) ∧ w'.cell? ⟨w.heap.size, 1, none⟩ = some (.string ⟨a.name.toArray⟩) ∧ w'.cell? ⟨w.heap.size, 2, none⟩ = some (.pointer pt) ∧ w'.cell? ⟨g, 1, none⟩ = some (.map (some m1))) (by kernel_rfl) ?_ ?_ (fun hHeld => ?_)
    · trivial
    · exact ⟨y0, y1, y2, cm⟩
    refine wpAnyS_take (i := 0) (v := .agg #[.string ⟨a.gone.toArray⟩, .string ⟨a.name.toArray⟩, .pointer pt]) true rfl (by kernel_rfl) (by kernel_rfl) (by kernel_rfl) (by kernel_rfl) (by kernel_rfl) (by kernel_rfl) (fun _ _ _ h => h) (Or.inl ⟨by rfl, ?_⟩) hHeld (fun hHeld => ?_)
    · (intro w1 hSw; have hSw2 := hSw.2 rfl; have hSw := hSw.1; (try dsimp only at hSw hSw2); go_simp)
    simp only [List.getElem_toArray, List.getElem_cons_zero, Act.put, List.setIfInBounds_toArray, List.set_cons_zero, List.set_cons_succ]
    refine wpAnyS_take (i := 1) (v := .pointer (some ⟨g, 0, none⟩)) _ rfl (by kernel_rfl) (by kernel_rfl) (by kernel_rfl) (by kernel_rfl) (by kernel_rfl) rfl (fun _ _ _ h => h) (Or.inl ⟨by rfl, ?_⟩) hHeld (fun hHeld => ?_)
    · (intro w1 hSw; have hSw := hSw.1; (try dsimp only at hSw); go_simp)
    simp only [List.getElem_toArray, List.getElem_cons_succ, List.getElem_cons_zero, Act.put, List.setIfInBounds_toArray, List.set_cons_zero, List.set_cons_succ]
    refine wpAnyS_take (i := 2) (v := .pointer (some ⟨g, 0, none⟩)) _ rfl (by kernel_rfl) (by kernel_rfl) (by kernel_rfl) (by kernel_rfl) (by kernel_rfl) rfl (fun _ _ _ h => h) (Or.inl ⟨by rfl, ?_⟩) hHeld (fun hHeld => ?_)
    · (intro w1 hSw; have hSw := hSw.1; (try dsimp only at hSw); go_simp)
    simp only [List.getElem_toArray, List.getElem_cons_succ, List.getElem_cons_zero, Act.put, List.setIfInBounds_toArray, List.set_cons_zero, List.set_cons_succ]
    refine wpAnyS_take (i := 3) (v := .pointer (some ⟨g, 1, none⟩)) _ rfl (by kernel_rfl) (by kernel_rfl) (by kernel_rfl) (by kernel_rfl) (by kernel_rfl) rfl (fun _ _ _ h => h) (Or.inl ⟨by rfl, ?_⟩) hHeld (fun hHeld => ?_)
    · (intro w1 hSw; have hSw := hSw.1; (try dsimp only at hSw); go_simp)
    simp only [List.getElem_toArray, List.getElem_cons_succ, List.getElem_cons_zero, Act.put, List.setIfInBounds_toArray, List.set_cons_zero, List.set_cons_succ]
    refine wpAnyS_take (i := 4) (v := .map (some m1)) true rfl (by kernel_rfl) (by kernel_rfl) (by kernel_rfl) (by kernel_rfl) (by kernel_rfl) (by kernel_rfl) (fun _ _ _ h => h) (Or.inl ⟨by rfl, ?_⟩) hHeld (fun hHeld => ?_)
    · (intro w1 hSw; have hSw2 := hSw.2 rfl; have hSw := hSw.1; (try dsimp only at hSw hSw2); go_simp)
    simp only [List.getElem_toArray, List.getElem_cons_succ, List.getElem_cons_zero, Act.put, List.setIfInBounds_toArray, List.set_cons_zero, List.set_cons_succ]
    refine wpAnyS_ready (i := 5) (by kernel_rfl) rfl (fun K hK => ?_)
    go_simp
    refine HDO.out.mono ?_
    rintro e w3 ⟨rfl, hf3, ho3⟩
    have HF3 := (show Hid (FsAt w3 O g m1 m2 pv bl vs { S with dir := sfDo S.dir a }) from hf3)
    have HO3 : Hid (Onl O w w3) := HO2.out.then ho3
    have HX3 : Hid (w3.heap[w.heap.size]? = some (.cells #[.string ⟨a.gone.toArray⟩, .string ⟨a.name.toArray⟩, .pointer pt] 88)) := (ho3.block _ (Array.getElem?_eq_some_iff.1 HX2.out).1 HNO.out).trans HX2.out
    clear hf3 ho3 HDO HO2 HF2 HX2 y0 y1 y2 cm
    go_simp
    refine hK.out _ _ ⟨?_, fun hno => absurd hno (by decide)⟩ (fun hHeld => ?_)
    · trivial
    clear hK K
    refine wpAnyS_done (by kernel_rfl) ?_ _
    refine NoPanic.normal ?_
    go_wp2_with fail
    have y0 := cell_of HX3.out 0 _ rfl
    have y1 := cell_of HX3.out 1 _ rfl
    have y2 := cell_of HX3.out 2 _ rfl
    have cp := HF3.out.c3
    have fp := HF3.out.fz 3
    obtain ⟨pa, pc, hpv, _⟩ := HF3.out.hp.form
    subst hpv
    generalize hN : S.pend.length = N at *
    have HN : Hid (S.pend.length = N) := hN
    clear hN
    have HF3' : Hid (FsAt w3 O g m1 m2 (.slice pa N pc) bl vs { S with dir := sfDo S.dir a }) := HF3.out
    clear HF3
    obtain ⟨w4, HW4⟩ := hid_ex ((w3.alloc (.cells #[.string ⟨a.gone.toArray⟩, .string ⟨a.name.toArray⟩, .pointer pt] 88)).drew)
    have hk4 : ∀ k, k < w3.heap.size → w4.heap[k]? = w3.heap[k]? := fun k hk => by rw [HW4.out]; exact Below.heap_alloc w3 _ k hk
    have hs4 : w4.heap.size = w3.heap.size + 1 := by rw [HW4.out]; exact World.size_alloc _ _
    obtain ⟨v', w5, hrun, hg5, hgr, hloc⟩ := run_appA (w := w4) 48 bl (.slice pa N pc) (.slice (some ⟨w3.heap.size, 0, none⟩) 1 1) S.pend a (by
      refine HF3'.out.hp.keep fun k hk => hk4 k (HF3'.out.lt k (HF3'.out.op k hk))) (by
      refine ⟨rfl, .inr ⟨_, _, rfl, fun j u hj => ?_⟩⟩
      have hb4 : w4.heap[w3.heap.size]? = some (.cells #[.string ⟨a.gone.toArray⟩, .string ⟨a.name.toArray⟩, .pointer pt] 88) := by rw [HW4.out]; exact heap_alloc_new w3 _
      simp only [sfAv, HPT.out] at hj
      match j, hj with
      | 0, hj => simp at hj; subst hj; exact cell_of hb4 0 _ rfl
      | 1, hj => simp at hj; subst hj; exact cell_of hb4 1 _ rfl
      | 2, hj => simp at hj; subst hj; exact cell_of hb4 2 _ rfl) (by rw [HP.out]; exact hpn)
    have hg3 := (Array.getElem?_eq_some_iff.1 HF3'.out.hg).1
    obtain ⟨va, vc, hv', -⟩ := hg5.form
    obtain ⟨M, HM⟩ := hid_ex ((S.pend ++ [a]).length)
    rw [← HM.out] at hv'
    subst hv'
    have HG5 : Hid (w5.heap[g]? = some (.cells #[.int .i64 S.room, .map (some m1), .map (some m2), .slice pa N pc, .int .i64 S.left, .int .i64 S.fault] 50)) := by
      show w5.heap[g]? = _
      rw [hgr.block g (by omega) (fun e => ?_), hk4 g hg3]
      · exact HF3'.out.hg
      · obtain ⟨cur, hc⟩ := HF3'.out.pvT e.symm
        exact ty_ne hc HF3'.out.hg (by decide) rfl
    have HS5 : Hid (w4.heap.size ≤ w5.heap.size) := hgr.size
    have HGO : Hid (GOwn w5 88 3 (.slice va M vc) (S.pend ++ [a]).length ((S.pend ++ [a]).flatMap (sfAv bl))) := hg5
    have HGR : Hid (w4.grownBy w5 (Value.slice pa N pc).ownBlock) := hgr
    have HLC : Hid (∀ k, (Value.slice va M vc).ownBlock = some k → (Value.slice pa N pc).ownBlock = some k ∨ (w4.heap.size ≤ k ∧ k < w5.heap.size)) := hloc
    have HK4 : Hid (∀ k, k < w3.heap.size → w4.heap[k]? = w3.heap[k]?) := hk4
    have HZ4 : Hid (w4.heap.size = w3.heap.size + 1) := hs4
    have d3 : w5.cell? ⟨g, 3, none⟩ = some (.slice pa N pc) := cell_of HG5.out 3 _ rfl
    have e3 : w5.frozen? ⟨g, 3, none⟩ = false := by simp [World.frozen?, HG5.out]
    have z0 : w4.cell? ⟨w.heap.size, 0, none⟩ = some (.string ⟨a.gone.toArray⟩) := (World.cell?_of_block (hk4 _ (Array.getElem?_eq_some_iff.1 HX3.out).1)).trans y0
    have z1 : w4.cell? ⟨w.heap.size, 1, none⟩ = some (.string ⟨a.name.toArray⟩) := (World.cell?_of_block (hk4 _ (Array.getElem?_eq_some_iff.1 HX3.out).1)).trans y1
    have z2 : w4.cell? ⟨w.heap.size, 2, none⟩ = some (.pointer pt) := (World.cell?_of_block (hk4 _ (Array.getElem?_eq_some_iff.1 HX3.out).1)).trans y2
    have z3 : w4.cell? ⟨g, 3, none⟩ = some (.slice pa N pc) := (World.cell?_of_block (hk4 _ hg3)).trans cp
    have hb5 : w5.heap[w.heap.size]? = w4.heap[w.heap.size]? := hgr.block _ (by have := (Array.getElem?_eq_some_iff.1 HX3.out).1; omega) (fun e => HNO.out (HF3'.out.op _ e.symm))
    have u0 := (World.cell?_of_block (a := ⟨w.heap.size, 0, none⟩) hb5).trans z0
    have u1 := (World.cell?_of_block (a := ⟨w.heap.size, 1, none⟩) hb5).trans z1
    have u2 := (World.cell?_of_block (a := ⟨w.heap.size, 2, none⟩) hb5).trans z2
    clear hg5 hgr hloc hk4 hs4 hb5
    refine wp_region_noPanic ?_
    refine wp_region_S 7 (fun w' => w'.cell? ⟨w.heap.size, 0, none⟩ = some (.string ⟨a.gone.toArray⟩) ∧ w'.cell? ⟨w.heap.size, 1, none⟩ = some (.string ⟨a.name.toArray⟩) ∧ w'.cell? ⟨w.heap.size, 2, none⟩ = some (.pointer pt)) (fun w' => w'.cell? ⟨g, 3, none⟩ = some (.slice pa N pc)) (by kernel_rfl) ?_ ?_ (fun hHeld => ?_)
    · exact ⟨y0, y1, y2⟩
    · exact cp
    refine wpAnyS_take (i := 0) (v := .pointer (some ⟨g, 0, none⟩)) _ rfl (by kernel_rfl) (by kernel_rfl) (by kernel_rfl) (by kernel_rfl) (by kernel_rfl) rfl (fun _ _ _ h => h) (Or.inl ⟨by rfl, ?_⟩) hHeld (fun hHeld => ?_)
    · (intro w1 hSw; have hSw := hSw.1; (try dsimp only at hSw); go_simp)
    simp only [List.getElem_toArray, List.getElem_cons_zero, Act.put, List.setIfInBounds_toArray, List.set_cons_zero, List.set_cons_succ]
    refine wpAnyS_take (i := 1) (v := .pointer (some ⟨g, 0, none⟩)) _ rfl (by kernel_rfl) (by kernel_rfl) (by kernel_rfl) (by kernel_rfl) (by kernel_rfl) rfl (fun _ _ _ h => h) (Or.inl ⟨by rfl, ?_⟩) hHeld (fun hHeld => ?_)
    · (intro w1 hSw; have hSw := hSw.1; (try dsimp only at hSw); go_simp)
    simp only [List.getElem_toArray, List.getElem_cons_succ, List.getElem_cons_zero, Act.put, List.setIfInBounds_toArray, List.set_cons_zero, List.set_cons_succ]
    refine wpAnyS_take (i := 2) (v := .pointer (some ⟨g, 0, none⟩)) _ rfl (by kernel_rfl) (by kernel_rfl) (by kernel_rfl) (by kernel_rfl) (by kernel_rfl) rfl (fun _ _ _ h => h) (Or.inl ⟨by rfl, ?_⟩) hHeld (fun hHeld => ?_)
    · (intro w1 hSw; have hSw := hSw.1; (try dsimp only at hSw); go_simp)
    simp only [List.getElem_toArray, List.getElem_cons_succ, List.getElem_cons_zero, Act.put, List.setIfInBounds_toArray, List.set_cons_zero, List.set_cons_succ]
    refine wpAnyS_take (i := 3) (v := .pointer (some ⟨g, 3, none⟩)) _ rfl (by kernel_rfl) (by kernel_rfl) (by kernel_rfl) (by kernel_rfl) (by kernel_rfl) rfl (fun _ _ _ h => h) (Or.inl ⟨by rfl, ?_⟩) hHeld (fun hHeld => ?_)
    · (intro w1 hSw; have hSw := hSw.1; (try dsimp only at hSw); go_simp)
    simp only [List.getElem_toArray, List.getElem_cons_succ, List.getElem_cons_zero, Act.put, List.setIfInBounds_toArray, List.set_cons_zero, List.set_cons_succ]
    refine wpAnyS_take (i := 4) (v := .slice pa N pc) true rfl (by kernel_rfl) (by kernel_rfl) (by kernel_rfl) (by kernel_rfl) (by kernel_rfl) (by kernel_rfl) (fun _ _ _ h => h) (Or.inl ⟨by rfl, ?_⟩) hHeld (fun hHeld => ?_)
    · (intro w1 hSw; have hSw2 := hSw.2 rfl; have hSw := hSw.1; (try dsimp only at hSw hSw2); go_simp)
    simp only [List.getElem_toArray, List.getElem_cons_succ, List.getElem_cons_zero, Act.put, List.setIfInBounds_toArray, List.set_cons_zero, List.set_cons_succ]
    refine wpAnyS_take (i := 5) (v := .agg #[.string ⟨a.gone.toArray⟩, .string ⟨a.name.toArray⟩, .pointer pt]) _ rfl (by kernel_rfl) (by kernel_rfl) (by kernel_rfl) (by kernel_rfl) (by kernel_rfl) rfl (fun _ _ _ h => h) (Or.inl ⟨by rfl, ?_⟩) hHeld (fun hHeld => ?_)
    · (intro w1 hSw; have hSw := hSw.1; (try dsimp only at hSw); go_simp)
    simp only [List.getElem_toArray, List.getElem_cons_succ, List.getElem_cons_zero, Act.put, List.setIfInBounds_toArray, List.set_cons_zero, List.set_cons_succ]
    clear y0 y1 y2 cp fp
    refine wpAnyS_ready (i := 6) (by kernel_rfl) rfl (fun K hK => ?_)
    go_simp
    rw [← HW4.out]
    refine hK.out _ _ ⟨?_, fun _ => ?_⟩ (fun hHeld => ?_)
    · exact ⟨z0, z1, z2⟩
    · exact z3
    clear hK K
    refine wpAnyS_ready (i := 7) (by kernel_rfl) rfl (fun K hK => ?_)
    refine wp_app_runG (.tmp 21) (.tmp 23) 48 48 rfl rfl _ _ _ (by simp [Act.eval]) (by simp [Act.eval]) hrun ?_
    simp only [List.getElem_toArray, List.getElem_cons_succ, List.getElem_cons_zero, Act.put, List.setIfInBounds_toArray, List.set_cons_zero, List.set_cons_succ]
    refine hK.out _ _ ⟨?_, fun hno => absurd hno (by decide)⟩ (fun hHeld => ?_)
    · exact ⟨u0, u1, u2⟩
    clear hK K
    clear z0 z1 z2 z3
    refine wpAnyS_take (i := 8) (v := .pointer (some ⟨g, 0, none⟩)) _ rfl (by kernel_rfl) (by kernel_rfl) (by kernel_rfl) (by kernel_rfl) (by kernel_rfl) rfl (fun _ _ _ h => h) (Or.inl ⟨by rfl, ?_⟩) hHeld (fun hHeld => ?_)
    · (intro w1 hSw; have hSw := hSw.1; (try dsimp only at hSw); go_simp)
    simp only [List.getElem_toArray, List.getElem_cons_succ, List.getElem_cons_zero, Act.put, List.setIfInBounds_toArray, List.set_cons_zero, List.set_cons_succ]
    refine wpAnyS_take (i := 9) (v := .pointer (some ⟨g, 3, none⟩)) _ rfl (by kernel_rfl) (by kernel_rfl) (by kernel_rfl) (by kernel_rfl) (by kernel_rfl) rfl (fun _ _ _ h => h) (Or.inl ⟨by rfl, ?_⟩) hHeld (fun hHeld => ?_)
    · (intro w1 hSw; have hSw := hSw.1; (try dsimp only at hSw); go_simp)
    simp only [List.getElem_toArray, List.getElem_cons_succ, List.getElem_cons_zero, Act.put, List.setIfInBounds_toArray, List.set_cons_zero, List.set_cons_succ]
    refine wpAnyS_ready (i := 10) (by kernel_rfl) rfl (fun K hK => ?_)
    go_simp
    refine hK.out _ _ ⟨?_, fun hno => absurd hno (by decide)⟩ (fun hHeld => ?_)
    · exact ⟨(World.cell?_setCell_other _ _ _ _ (by simp)).trans u0, (World.cell?_setCell_other _ _ _ _ (by simp)).trans u1, (World.cell?_setCell_other _ _ _ _ (by simp)).trans u2⟩
    clear hK K
    refine wpAnyS_done (by kernel_rfl) ?_ _
    refine NoPanic.normal ?_
    go_wp2_with fail
    go_ret
    refine ⟨rfl, ⟨.slice va M vc, ?_⟩, ?_⟩
    · refine FsAt.setG (s := { S with dir := sfDo S.dir a }) HF3'.out (fun _ q => .inl q) (fun k q => ?_) (fun k ho hk hp => ?_) ?_ (HGO.out.keep fun k hk => ?_) (fun k hk => ?_)
      · have : k < w5.heap.size := by
          have h3 := HO3.out.size
          rcases q with q | q
          · have := HF3'.out.lt k q; have := HS5.out; have := HZ4.out; omega
          · simpa [World.setCell] using q.2
        simpa [World.setCell] using this
      · rw [Below.heap_setCell _ _ _ _ hk, HGR.out.block k (by have := HF3'.out.lt k ho; have := HZ4.out; omega) hp, HK4.out k (HF3'.out.lt k ho)]
      · have := cells_set HG5.out 3 (.slice va M vc); simpa using this
      · obtain ⟨cur, hc⟩ := HGO.out.block hk
        exact Below.heap_setCell _ _ _ _ (ty_ne hc HG5.out (by decide))
      · rcases HLC.out k hk with q | q
        · exact .inl (HF3'.out.op k q)
        · exact .inr ⟨by have := HO3.out.size; have := HZ4.out; omega, by simpa [World.setCell] using q.2⟩
    · refine HO3.out.then ⟨?_, ?_, ?_, ?_, fun k hk ho => ?_⟩
      · show w5.os = _; rw [HGR.out.os, HW4.out]; rfl
      · show w5.tape = _; rw [HGR.out.tape, HW4.out]; rfl
      · show w5.output = _; rw [HGR.out.output, HW4.out]; rfl
      · have := HS5.out; have := HZ4.out; simp [World.setCell]; omega
      · have hne : k ≠ g := fun e => ho (e ▸ HF3'.out.og)
        rw [Below.heap_setCell _ _ _ _ hne, HGR.out.block k (by have := HZ4.out; omega) (fun e => ho (HF3'.out.op k e.symm)), HK4.out k hk]
  · rw [if_neg hE]
    have hE' : ((sfPlan s).1 == 0) = false := by simpa using hE
    go_enter Tryz.func39, Tryz.ntmps39
    go_wp2_with fail
    refine (planned_any HF1.out HW.out).mono ?_
    rintro e w2 ⟨rfl, hf2, ho2, hs2⟩
    have HF2 : Hid (FsAt w2 O g m1 m2 pv bl vs (sfPlan s).2) := hf2
    have HO2 : Hid (Onl O w w2) := HO1.out.then ho2
    have HX2 : Hid (w2.heap[w.heap.size]? = some (.cells #[.string ⟨a.gone.toArray⟩, .string ⟨a.name.toArray⟩, .pointer pt] 88)) := (ho2.block _ (by simp) HNO.out).trans HX.out
    clear hf2 ho2 hs2 HF1 HO1 HX
    go_wp2_with fail
    go_ret
    exact ⟨rfl, ⟨pv, HF2.out.wider (fun _ q => .inl q) (Grw.lt HF0.out.lt HO2.out.size)⟩, HO2.out⟩
end Go.Proofs.YtegcomopcoapjaaGreatDoor

/- A file system: how many bytes all files have. -/
namespace Go.Proofs.YtegcomopcoapjaaGreatDoor
open Go.RowKit Go.Maps

theorem keyS_inv {key : Value} {kl : Lit} (h : keyOf Tryz.prog 9 key = some kl) : ∃ s : List UInt8, key = .string ⟨s.toArray⟩ ∧ kl = .string s ∧ s.length ≤ maxLen := by
  rw [keyOf_string Tryz.underlying9] at h
  cases key <;> simp [mapKey, Tryz.underlying9] at h
  obtain ⟨h1, rfl⟩ := h
  rename_i b
  obtain ⟨d⟩ := b
  exact ⟨d.toList, by rw [Array.toArray_toList], rfl, by simpa [ByteArray.size] using h1⟩
theorem SfMap.apart {w : World} {m : Nat} {bl : Nat → Nat} {l : List (List UInt8 × Nat)} (h : SfMap w m bl l) : l.Pairwise (fun p q => bytesBefore p.1 q.1 = true) := by
  obtain ⟨es, he, hp, _⟩ := World.ownsMap.canon h keyedS
  unfold sfD at he
  cases he
  exact (List.pairwise_map.1 hp)
theorem bb_irrefl (a : List UInt8) : bytesBefore a a = false := by
  have := WideShapes.before_irrefl (Lit.string a)
  exact this
theorem sorted_ne {l : List (List UInt8 × Nat)} (h : l.Pairwise (fun p q => bytesBefore p.1 q.1 = true)) : l.Pairwise (fun p q => p.1 ≠ q.1) := h.imp fun {a b} hab e => by rw [e, bb_irrefl] at hab; cases hab
theorem look_mem {s : List UInt8} {i : Nat} : ∀ {l : List (List UInt8 × Nat)}, sfLook s l = some i → (s, i) ∈ l
  | y :: r, h => by
    unfold sfLook at h
    rw [List.find?_cons] at h
    by_cases e : y.1 == s
    · rw [e] at h
      simp at h e
      subst h e
      simp
    · rw [Bool.not_eq_true] at e
      rw [e] at h
      exact List.mem_cons_of_mem _ (look_mem h)
theorem mem_look {l : List (List UInt8 × Nat)} (hp : l.Pairwise (fun p q => p.1 ≠ q.1)) {p : List UInt8 × Nat} (h : p ∈ l) : sfLook p.1 l = some p.2 := by
  induction l with
  | nil => cases h
  | cons y r ih =>
    obtain ⟨h1, h2⟩ := List.pairwise_cons.1 hp
    unfold sfLook
    rw [List.find?_cons]
    rcases List.mem_cons.1 h with rfl | hm
    · simp
    · have : (y.1 == p.1) = false := by simpa using h1 p hm
      rw [this]
      exact ih h2 hm
/-- The step of a range over a directory. -/
theorem wpList_next_sf {w : World} {ops : Array Oper} {rest : List Oper} {o : Oper} {a : Act} {Q : Exit → Act → World → Prop} (hg : o.guard = none) (it : Operand) (hop : o.op = Op.next it false) (m r n : Nat) (bl : Nat → Nat) (l : List (List UInt8 × Nat)) (left : Lit → Bool) (cnt : Nat)
    (hit : a.eval it = .pointer (some ⟨r, 0, none⟩)) (h : w.ranges Tryz.prog 9 ptrE m r n (sfD bl l) left cnt)
    (hDone : (∀ kl, left kl = false) → wpList Tryz.prog ops Q rest (a.put o.dst (.tuple #[.bool false])) w)
    (hMore : ∀ (s : List UInt8) (i : Nat) (w' : World) (cnt' : Nat), s.length ≤ maxLen → sfLook s l = some i → left (.string s) = true → w'.ranges Tryz.prog 9 ptrE m r n (sfD bl l) (fun z => left z && !z.sameKey (.string s)) cnt' → cnt' < cnt →
      w.grownBy w' (some r) → w'.heap.size = w.heap.size → (Instr.entry (.pointer (some ⟨r, 0, none⟩))).run Tryz.prog w' = .ok (.tuple #[.string ⟨s.toArray⟩, .pointer (some ⟨bl i, 0, none⟩)]) w' → wpList Tryz.prog ops Q rest (a.put o.dst (.tuple #[.bool true, .string ⟨s.toArray⟩, .pointer (some ⟨bl i, 0, none⟩)])) w') :
    wpList Tryz.prog ops Q (o :: rest) a w := by
  refine wpList_plain hg fun K' hK' => ?_
  unfold Oper.wp
  rcases h.next keyedS o.type with ⟨h0, hl, hrun⟩ | ⟨key, v, kl, y, w', cnt', hkey, hlk, hv, hat, hrun, hrg, hlt, hgr, hsz, hen⟩
  · simp [execOp, hop, hit, hrun, Result.andThen]
    exact hK' _ _ (hDone hl)
  · obtain ⟨s, rfl, rfl, hs⟩ := keyS_inv hkey
    have h1 := hat .nil
    have h2 := hat (.lit (.bool true))
    rw [sfD_at] at h1 h2
    cases hk : sfLook s l with
    | none => rw [hk] at h1 h2; rw [← h1] at h2; cases h2
    | some i =>
      rw [hk] at h1
      have hpv : v = .pointer (some ⟨bl i, 0, none⟩) := by
        refine ptrE_pv (bl := bl) (o := some i) (ps := y.2) ?_
        rw [hv]
        exact congrArg some (Prod.ext h1.symm rfl)
      subst hpv
      simp [execOp, hop, hit, hrun, Result.andThen]
      exact hK' _ _ (hMore s i w' cnt' hs hk hlk hrg hlt hgr hsz hen)
def sumL (F : Nat → Nat) (left : Lit → Bool) (l : List (List UInt8 × Nat)) : Nat := (l.map fun p => if left (.string p.1) = true then 0 else F p.2).sum
theorem sumL_congr {F : Nat → Nat} {left left' : Lit → Bool} {l : List (List UInt8 × Nat)} (h : ∀ p ∈ l, left (.string p.1) = left' (.string p.1)) : sumL F left l = sumL F left' l := by
  unfold sumL
  rw [List.map_congr_left fun p hp => by rw [h p hp]]
theorem sumL_step {F : Nat → Nat} {left : Lit → Bool} {s : List UInt8} {i : Nat} : ∀ {l : List (List UInt8 × Nat)}, l.Pairwise (fun p q => p.1 ≠ q.1) → sfLook s l = some i → left (.string s) = true → sumL F (fun z => left z && !z.sameKey (.string s)) l = sumL F left l + F i
  | y :: r, hp, hl, hleft => by
    obtain ⟨h1, h2⟩ := List.pairwise_cons.1 hp
    have hsk : ∀ a : List UInt8, (Lit.string a).sameKey (.string s) = (a == s) := fun _ => rfl
    unfold sfLook at hl
    rw [List.find?_cons] at hl
    by_cases e : y.1 == s
    · rw [e] at hl
      simp at hl e
      subst hl e
      have hr : sumL F (fun z => left z && !z.sameKey (.string y.1)) r = sumL F left r := sumL_congr fun p hp' => by
        have : (p.1 == y.1) = false := by simpa using Ne.symm (h1 p hp')
        show (left _ && !(p.1 == y.1)) = _
        rw [this]; simp
      have c1 : sumL F (fun z => left z && !z.sameKey (.string y.1)) (y :: r) = F y.2 + sumL F (fun z => left z && !z.sameKey (.string y.1)) r := by
        simp [sumL, hsk]
      have c2 : sumL F left (y :: r) = 0 + sumL F left r := by simp [sumL, hleft]
      rw [c1, c2, hr]; omega
    · rw [Bool.not_eq_true] at e
      rw [e] at hl
      have ih := sumL_step (F := F) h2 hl hleft
      have c1 : sumL F (fun z => left z && !z.sameKey (.string s)) (y :: r) = (if left (.string y.1) = true then 0 else F y.2) + sumL F (fun z => left z && !z.sameKey (.string s)) r := by
        simp only [sumL, List.map_cons, List.sum_cons, hsk, e, Bool.not_false, Bool.and_true]
      have c2 : sumL F left (y :: r) = (if left (.string y.1) = true then 0 else F y.2) + sumL F left r := by simp [sumL]
      rw [c1, c2, ih]; omega
theorem sumL_le {F : Nat → Nat} {B : Nat} (left : Lit → Bool) : ∀ {l : List (List UInt8 × Nat)}, (∀ p ∈ l, F p.2 ≤ B) → sumL F left l ≤ l.length * B
  | [], _ => by simp [sumL]
  | y :: r, h => by
    have ih := sumL_le left (l := r) fun p hp => h p (by simp [hp])
    have c2 : sumL F left (y :: r) = (if left (.string y.1) = true then 0 else F y.2) + sumL F left r := by simp [sumL]
    have h0 := h y (by simp)
    rw [c2, List.length_cons, Nat.succ_mul]
    split <;> omega
theorem sumL_start {F : Nat → Nat} (bl : Nat → Nat) {l : List (List UInt8 × Nat)} (hp : l.Pairwise (fun p q => p.1 ≠ q.1)) : sumL F (Maps.has (sfD bl l)) l = 0 := by
  have : sumL F (Maps.has (sfD bl l)) l = sumL F (fun _ => true) l := sumL_congr fun p hp' => by rw [sfD_has, mem_look hp hp']; rfl
  rw [this]
  unfold sumL
  clear this hp
  induction l with
  | nil => rfl
  | cons y r ih => simpa using ih
theorem sumL_end {F : Nat → Nat} {left : Lit → Bool} (h : ∀ kl, left kl = false) (l : List (List UInt8 × Nat)) : sumL F left l = (l.map fun p => F p.2).sum := by
  unfold sumL
  rw [List.map_congr_left fun p _ => by rw [h, if_neg (by simp)]]
theorem SfWf.fl32 {s : SfS} (h : SfWf s) (i : Nat) : (s.fl i).1.length ≤ 1048576 ∧ (s.fl i).2 ≤ (s.fl i).1.length := by
  unfold SfS.fl
  rw [List.getD_eq_getElem?_getD]
  cases hf : s.fls[i]? with
  | none => simp
  | some f => have := h.sy i f hf; exact ⟨this.2, this.1⟩
theorem FsAt.file {w : World} {O : Nat → Prop} {g m1 m2 : Nat} {pv : Value} {bl : Nat → Nat} {vs : Nat → Value} {s : SfS} (h : FsAt w O g m1 m2 pv bl vs s) {i : Nat} (hi : i < s.fls.length) :
    w.heap[bl i]? = some (.cells #[vs i, .int .i64 ((s.fl i).2 : Int)] 83) ∧ BOwn w (vs i) (s.fl i).1 := by
  have e : s.fls[i]? = some (s.fl i) := by unfold SfS.fl; rw [List.getD_eq_getElem?_getD, List.getElem?_eq_getElem hi]; rfl
  exact ⟨h.fl.hf i _ e, h.fl.hb i _ e⟩
theorem used_any {w : World} {O : Nat → Prop} {g m1 m2 : Nat} {pv : Value} {bl : Nat → Nat} {vs : Nat → Value} {s : SfS} (h : FsAt w O g m1 m2 pv bl vs s) (hw : SfWf s) :
    Calls Tryz.prog 16 #[.pointer (some ⟨g, 0, none⟩)] w fun e w' => e = .returned (.int .i64 (sfUsed s : Int)) ∧ Below w.heap.size w w' := by
  have c0 := h.c0
  have c1 := h.c1
  have hm := h.h1
  have h1 := hw.r1
  have HAP : Hid (s.dir.Pairwise (fun p q => p.1 ≠ q.1)) := sorted_ne h.h1.apart
  have HF : Hid (FsAt w O g m1 m2 pv bl vs s) := h
  have HW : Hid (SfWf s) := hw
  have HU : Hid (∀ left, sumL (fun i => (s.fl i).1.length) left s.dir ≤ 268435456) := fun left => by
    have := sumL_le (F := fun i => (s.fl i).1.length) (B := 1048576) left (l := s.dir) fun p _ => (hw.fl32 p.2).1
    have := hw.dl
    omega
  clear h hw
  go_enter Tryz.func16, Tryz.ntmps16
  go_wp2_with (first
    | (go_at_call 17; refine (made_cell _ c0 h1).mono ?_; rintro e w' ⟨rfl, hw'⟩; subst w')
    | (at_range; refine wpList_range_own _ rfl _ 47 rfl 9 68 keyedS Tryz.underlying47 ptrE m1 s.dir.length (sfD bl s.dir) rfl hm ?_; intro w0 hrg0 hg0 hs0))
  go_frame
  have HB0 : Hid (Below w.heap.size w w0) := (Below.refl _ _).grown hg0 (Nat.le_refl _) (fun k hk => by cases hk)
  have HR0 : Hid (w0.ranges Tryz.prog 9 ptrE m1 w.heap.size s.dir.length (sfD bl s.dir) (Maps.has (sfD bl s.dir)) (Maps.size (sfD bl s.dir))) := hrg0
  clear hrg0 hg0 hs0 c0 c1 hm
  go_loopw [3] (fun v wr => ∃ left cnt, Hid (wr.ranges Tryz.prog 9 ptrE m1 w.heap.size s.dir.length (sfD bl s.dir) left cnt) ∧ v = .int .i64 ((sumL (fun i => (s.fl i).1.length) left s.dir : Nat) : Int) ∧ Hid (Below w.heap.size w wr)) (fun _ wr => wr.rangeLeft m1 w.heap.size)
  case atStart => exact ⟨_, _, HR0, by rw [sumL_start bl HAP.out]; rfl, HB0⟩
  case round =>
    obtain ⟨left, cnt, HR, rfl, HB⟩ := hrel
    have hu := HU.out left
    go_wp2_with (at_next; refine wpList_next_sf rfl _ rfl m1 w.heap.size s.dir.length bl s.dir left cnt rfl HR.out ?_ ?_)
    · intro hl0
      have HE : Hid (((sumL (fun i => (s.fl i).1.length) left s.dir : Nat) : Int) = (sfUsed s : Int)) := by
        show ((_ : Nat) : Int) = _
        rw [sumL_end hl0]; rfl
      clear hl0 HR
      go_wp2_with fail
      go_ret
      exact ⟨by rw [← HE.out]; rfl, HB.out⟩
    · intro nm i w1 cnt1 hnl hlook hleft hrg1 hlt hg1 hs1 hen
      have hi : i < s.fls.length := (HW.out.di _ (look_mem hlook)).1
      have HB1 : Hid (Below w.heap.size w w1) := HB.out.grown hg1 (HB.out.size) (fun k hk => by cases hk; exact Nat.le_refl _)
      obtain ⟨hf, hb⟩ := HF.out.file hi
      obtain ⟨va, vc, hv, -⟩ := hb.form
      have x0 : w1.cell? ⟨bl i, 0, none⟩ = some (.slice va (s.fl i).1.length vc) := by
        have h0 := HB1.out.block _ (Array.getElem?_eq_some_iff.1 hf).1
        rw [← hv]
        exact cell_of (h0.trans hf) 0 _ rfl
      have HST : Hid (sumL (fun i => (s.fl i).1.length) (fun z => left z && !z.sameKey (.string nm)) s.dir = sumL (fun i => (s.fl i).1.length) left s.dir + (s.fl i).1.length) := sumL_step HAP.out hlook hleft
      have hu1 := HU.out (fun z => left z && !z.sameKey (.string nm))
      rw [HST.out] at hu1
      have HR1 : Hid (w1.ranges Tryz.prog 9 ptrE m1 w.heap.size s.dir.length (sfD bl s.dir) (fun z => left z && !z.sameKey (.string nm)) cnt1) := hrg1
      have HLT : Hid (cnt1 < cnt) := hlt
      clear hrg1 hlt hg1 hs1 hlook hleft hf hb hv hnl
      generalize hq : sumL (fun i => (s.fl i).1.length) left s.dir = U at *
      have HQ : Hid (sumL (fun i => (s.fl i).1.length) left s.dir = U) := hq
      clear hq
      generalize hq : (s.fl i).1.length = L at *
      clear hq
      go_wp2_with fail
      go_roundw
      case rel => exact ⟨_, _, HR1, by rw [HST.out]; congr 1, HB1⟩
      case measure => rw [HR1.out.left_eq, HR.out.left_eq]; exact HLT.out
end Go.Proofs.YtegcomopcoapjaaGreatDoor

/- Bytes that are copied into bytes of one's own; bytes just made. -/
namespace Go.Proofs.YtegcomopcoapjaaGreatDoor
open Go.RowKit

theorem copy_own {w : World} {base g n off : Nat} {L l : List UInt8} {v : Value} (ty : TypeId) (hO : Own w base (.slice (some ⟨g, 0, none⟩) n n) L) (hR : Reads w v l) (h0 : 0 < l.length) (hl : off + l.length = n) :
    ∃ w3, (Builtin.copy_ #[61, 61] ty #[.slice (some ⟨g, off, none⟩) (n - off) (n - off), v]).run Tryz.prog w = .ok (goInt l.length) w3 ∧ Own w3 base (.slice (some ⟨g, 0, none⟩) n n) (L.take off ++ l) ∧ Hid (Below base w w3) ∧ Hid (w.grownBy w3 (some g)) := by
  obtain ⟨i0, hi, hz0, hz1, hz2⟩ := info_parts info5
  have hLn : L.length = n := by
    obtain ⟨a, cap, hv, _⟩ := hO.form
    simp at hv; omega
  have hOw := hO
  obtain ⟨h1, h2⟩ := hO
  rcases h2 with ⟨h2, _⟩ | ⟨g', cap, cur, hv, hg, hw, hn, hm, hs, ht⟩
  · simp at h2
  · simp at hv
    obtain ⟨rfl, hv2, rfl⟩ := hv
    rcases hR with ⟨rfl, _⟩ | ⟨b, o, cp, rfl, r2, r3, r4, r5, r6⟩
    · simp at h0
    · have hcl : cur.toList = L.map bc := by
        rw [← ht, List.take_of_length_le (by simp; omega)]
      have hrun := run_copy_row (P := Tryz.prog) w 61 61 ty 5 g off (n - off) (n - off) ⟨b, o, none⟩ l.length cp cur 5 (l.map bc) Tryz.underlying61 (by rw [hi]; simp [hz1]) hw (by rw [List.length_map]; exact (Nat.min_eq_left (by omega)).symm) (newsR r6) (by simp; omega) one_bc
      rw [List.length_map] at hrun
      refine ⟨_, hrun, ?_, below_setRow (Below.refl _ _) hg _, ?_⟩
      · have hheap := setRow_heap w g cur (cur.toList.take off ++ l.map bc ++ cur.toList.drop (off + l.length)).toArray 5 (0, 0) hw
        have e1 : cur.toList.take off ++ l.map bc ++ cur.toList.drop (off + l.length) = (L.take off ++ l).map bc := by
          rw [hcl, hl, List.drop_of_length_le (by simp; omega), List.append_nil, List.map_append, List.map_take]
        rw [e1] at hheap ⊢
        have hlen : (L.take off ++ l).length = n := by simp; omega
        refine ⟨by simp, .inr ⟨g, n, _, by rw [hlen], hg, hheap, by omega, hm, by simp; omega, ?_⟩⟩
        rw [hlen, List.toList_toArray, Nat.mul_one]; exact List.take_of_length_le (by rw [List.length_map]; omega)
      · have hb := below_setRow (Below.refl 0 w) (Nat.zero_le g) (cur.toList.take off ++ l.map bc ++ cur.toList.drop (off + l.length)).toArray
        refine ⟨rfl, rfl, rfl, hb.size, fun k hk hne => ?_⟩
        show (w.heap.modify g _)[k]? = _
        rw [Array.getElem?_modify, if_neg (fun e => hne (by rw [e]))]
/-- The same, at one operation. -/
theorem wp_copy {w : World} {o : Oper} {a : Act} {K : Act → World → Prop} {Q : Exit → Act → World → Prop} (d s : Operand)
    (ho : o.op = .call { callee := .builtin .copy, args := #[d, s], argTypes := #[61, 61] }) (base g n off m : Nat) (L l : List UInt8) (v : Value) (hm : n - off = m)
    (hd : a.eval d = .slice (some ⟨g, off, none⟩) m m) (hs : a.eval s = v) (hO : Own w base (.slice (some ⟨g, 0, none⟩) n n) L) (hR : Reads w v l) (h0 : 0 < l.length) (hl : off + l.length = n)
    (h : ∀ w', Own w' base (.slice (some ⟨g, 0, none⟩) n n) (L.take off ++ l) → Hid (Below base w w') → Hid (w.grownBy w' (some g)) → K (a.put o.dst (goInt l.length)) w') : o.wp Tryz.prog a w K Q := by
  subst hm
  obtain ⟨w', hrun, h1, h2, h3⟩ := copy_own (w := w) (off := off) o.type hO hR h0 hl
  unfold Oper.wp
  simp [execOp, ho, resolve, invoke, builtin, hd, hs, hrun, Result.andThen]
  exact h w' h1 h2 h3
theorem own_zeros {w2 : World} {base g n cap : Nat} (h : w2.ownsRow base 5 1 (.slice (some ⟨g, 0, none⟩) n cap) n (madeCells (Value.int .u8 0).cells n).toList) : Own w2 base (.slice (some ⟨g, 0, none⟩) n cap) (List.replicate n 0) := by
  have e0 : (Value.int .u8 0).cells = #[.int .u8 0] := rfl
  rw [e0, toList_madeCells_one] at h
  unfold Own; simpa [bc] using h
end Go.Proofs.YtegcomopcoapjaaGreatDoor

/- A file system: its calls in memory. -/
namespace Go.Proofs.YtegcomopcoapjaaGreatDoor
open Go.RowKit Go.Maps

/-- What a call leaves: it is this file system, and nothing else has turned. -/
def FsTo (w : World) (O : Nat → Prop) (g m1 m2 : Nat) (s : SfS) (w' : World) : Prop := (∃ pv bl vs, FsAt w' (Grw O w w') g m1 m2 pv bl vs s) ∧ Onl O w w'
theorem FsAt.to {w w' : World} {O : Nat → Prop} {g m1 m2 : Nat} {pv : Value} {bl : Nat → Nat} {vs : Nat → Value} {s : SfS} (h : FsAt w' O g m1 m2 pv bl vs s) (h0 : ∀ k, O k → k < w.heap.size) (ho : Onl O w w') : FsTo w O g m1 m2 s w' :=
  ⟨⟨pv, bl, vs, h.wider (fun _ q => .inl q) (Grw.lt h0 ho.size)⟩, ho⟩
theorem FsAt.newF {w : World} {O : Nat → Prop} {g m1 m2 : Nat} {pv : Value} {bl : Nat → Nat} {vs : Nat → Value} {s : SfS} (h : FsAt w O g m1 m2 pv bl vs s) (hw : SfWf s) :
    FsAt (w.alloc (.cells #[.slice none 0 0, .int .i64 0] 83)) (Grw O w (w.alloc (.cells #[.slice none 0 0, .int .i64 0] 83))) g m1 m2 pv (updF bl s.fls.length w.heap.size) (updF vs s.fls.length (.slice none 0 0)) (sfNew s) := by
  have hk : ∀ k, O k → (w.alloc (.cells #[.slice none 0 0, .int .i64 0] 83)).heap[k]? = w.heap[k]? := fun k q => Below.heap_alloc _ _ _ (h.lt k q)
  have hu : ∀ i, i < s.fls.length → updF bl s.fls.length w.heap.size i = bl i := fun i hi => updF_ne _ _ (by omega)
  have hpe : s.pend.flatMap (sfAv bl) = s.pend.flatMap (sfAv (updF bl s.fls.length w.heap.size)) := by
    simp only [List.flatMap_def]
    congr 1
    refine List.map_congr_left fun a ha => ?_
    unfold sfAv
    cases hf : a.file with
    | none => rfl
    | some i => rw [sfPv, sfPv, hu i ((hw.pi a ha).1 i hf)]
  refine ⟨Grw.lt h.lt (by simp), .inl h.og, .inl h.o1, .inl h.o2, h.ne, (hk _ h.og).trans h.hg, (h.h1.keep (hk _ h.o1)).congr fun p hp => (hu _ (hw.di p hp).1).symm, (h.h2.keep (hk _ h.o2)).congr fun p hp => (hu _ (hw.oi p hp).1).symm, ?_, fun k q => .inl (h.op k q), ?_⟩
  · have := h.hp.keep (w' := w.alloc (.cells #[.slice none 0 0, .int .i64 0] 83)) (fun k q => hk k (h.op k q))
    rw [hpe] at this
    exact this
  · have hl : (sfNew s).fls.length = s.fls.length + 1 := by simp [sfNew]
    have hcase : ∀ i, i < (sfNew s).fls.length → i < s.fls.length ∨ i = s.fls.length := fun i hi => by omega
    have hold : ∀ i f, i < s.fls.length → (sfNew s).fls[i]? = some f → s.fls[i]? = some f := fun i f hi hf => by
      rw [sfNew, List.getElem?_append_left hi] at hf; exact hf
    refine ⟨fun i hi => ?_, fun i j hi hj e => ?_, fun i f hf => ?_, fun i f hf => ?_, fun i hi k q => ?_, fun i j hi hj k q1 q2 => ?_⟩
    · rcases hcase i hi with q | rfl
      · rw [hu i q]; exact .inl (h.fl.ob i q)
      · rw [updF_same]; exact .inr ⟨Nat.le_refl _, by simp⟩
    · rcases hcase i hi with q | rfl
      · rcases hcase j hj with r | rfl
        · rw [hu i q, hu j r] at e; exact h.fl.nd i j q r e
        · rw [hu i q, updF_same] at e; have := h.lt _ (h.fl.ob i q); omega
      · rcases hcase j hj with r | rfl
        · rw [hu j r, updF_same] at e; have := h.lt _ (h.fl.ob j r); omega
        · rfl
    · have hi := (List.getElem?_eq_some_iff.1 hf).1
      rcases hcase i hi with q | rfl
      · rw [hu i q, updF_ne _ _ (by omega)]
        exact (hk _ (h.fl.ob i q)).trans (h.fl.hf i f (hold i f q hf))
      · have : f = ([], 0) := by simp [sfNew] at hf; exact hf.symm
        subst this
        rw [updF_same, updF_same]
        exact heap_alloc_new _ _
    · have hi := (List.getElem?_eq_some_iff.1 hf).1
      rcases hcase i hi with q | rfl
      · rw [updF_ne _ _ (by omega)]
        exact (h.fl.hb i f (hold i f q hf)).keep fun k r => hk k (h.fl.ov i q k r)
      · have : f = ([], 0) := by simp [sfNew] at hf; exact hf.symm
        subst this
        rw [updF_same]
        exact GOwn.nil _ _ _
    · rcases hcase i hi with r | rfl
      · rw [updF_ne _ _ (by omega)] at q; exact .inl (h.fl.ov i r k q)
      · rw [updF_same] at q; simp [Value.ownBlock] at q
    · rcases hcase i hi with r | rfl
      · rcases hcase j hj with t | rfl
        · rw [updF_ne _ _ (by omega)] at q1 q2; exact h.fl.nv i j r t k q1 q2
        · rw [updF_same] at q2; simp [Value.ownBlock] at q2
      · rw [updF_same] at q1; simp [Value.ownBlock] at q1
theorem SfWf.new {s : SfS} (h : SfWf s) : SfWf (sfNew s) := by
  refine ⟨h.r1, h.r2, h.l1, h.l2, fun p hp => ⟨?_, (h.di p hp).2⟩, fun p hp => ⟨?_, (h.oi p hp).2⟩, fun a ha => ⟨fun i hi => ?_, (h.pi a ha).2⟩, h.ap, h.ln, fun i f hf => ?_⟩
  · have := (h.di p hp).1; simp [sfNew]; omega
  · have := (h.oi p hp).1; simp [sfNew]; omega
  · have := (h.pi a ha).1 i hi; simp [sfNew]; omega
  · rw [sfNew] at hf
    rcases Nat.lt_or_ge i s.fls.length with q | q
    · rw [List.getElem?_append_left q] at hf; exact h.sy i f hf
    · rw [List.getElem?_append_right q] at hf
      rcases Nat.eq_zero_or_pos (i - s.fls.length) with z | z
      · rw [z] at hf; simp at hf; subst hf; simp
      · rw [List.getElem?_eq_none (by simp; omega)] at hf; cases hf
set_option maxRecDepth 100000 in
theorem create_any {w : World} {O : Nat → Prop} {g m1 m2 : Nat} {pv : Value} {bl : Nat → Nat} {vs : Nat → Value} {s : SfS} (h : FsAt w O g m1 m2 pv bl vs s) (hw : SfWf s) (n : List UInt8) (hn : n.length ≤ maxLen) (hpn : s.pend.length < 1099511627776) :
    Calls Tryz.prog 20 #[.pointer (some ⟨g, 0, none⟩), .string ⟨n.toArray⟩] w fun e w' => e = .returned (.int .i64 (sfCreate s n).1) ∧ FsTo w O g m1 m2 (sfCreate s n).2 w' := by
  have HF : Hid (FsAt w O g m1 m2 pv bl vs s) := h
  have HW : Hid (SfWf s) := hw
  have HEnd : Hid (FsTo w O g m1 m2 s w) := h.to h.lt (Onl.refl _ _)
  have h1 := hw.r1
  have c0 := h.c0
  have c1 := h.c1
  have hlk := h.h1.look n hn
  have hln : ∀ ty, (Builtin.len_ #[47] ty #[.map (some m1)]).run Tryz.prog w = .ok (.int .i64 (s.dir.length : Int)) w := h.h1.len
  clear h hw
  unfold sfCreate
  cases hN : sfName n with
  | false =>
    rw [if_pos rfl]
    go_enter Tryz.func20, Tryz.ntmps20
    go_wp2_with (first
      | (go_at_call 17; refine (made_cell _ c0 h1).mono ?_; rintro e w' ⟨rfl, hw'⟩; subst w')
      | (go_at_call 38; refine (isName_any n _).mono ?_; rw [hN]; rintro e w' ⟨rfl, hw'⟩; subst w'))
    go_ret
    exact ⟨rfl, HEnd.out⟩
  | true =>
    rw [if_neg (by simp)]
    cases hL : sfLook n s.dir with
    | some i =>
      rw [if_pos (show (some i).isSome = true from rfl)]
      rw [hL] at hlk
      simp only [sfPv] at hlk
      go_enter Tryz.func20, Tryz.ntmps20
      go_wp2_with (first
        | (go_at_call 17; refine (made_cell _ c0 h1).mono ?_; rintro e w' ⟨rfl, hw'⟩; subst w')
        | (go_at_call 38; refine (isName_any n _).mono ?_; rw [hN]; rintro e w' ⟨rfl, hw'⟩; subst w'))
      go_ret
      exact ⟨rfl, HEnd.out⟩
    | none =>
      rw [if_neg (by simp)]
      rw [hL] at hlk
      simp only [sfPv] at hlk
      by_cases h256 : 256 ≤ s.dir.length
      · rw [if_pos h256]
        have h256' : (256 : Int) ≤ (s.dir.length : Int) := by omega
        go_enter Tryz.func20, Tryz.ntmps20
        go_wp2_with (first
          | (go_at_call 17; refine (made_cell _ c0 h1).mono ?_; rintro e w' ⟨rfl, hw'⟩; subst w')
          | (go_at_call 38; refine (isName_any n _).mono ?_; rw [hN]; rintro e w' ⟨rfl, hw'⟩; subst w'))
        go_ret
        exact ⟨rfl, HEnd.out⟩
      · rw [if_neg h256]
        have h256' : ¬ (256 : Int) ≤ (s.dir.length : Int) := by omega
        have HC : Hid (Calls Tryz.prog 39 #[.pointer (some ⟨g, 0, none⟩), .agg #[.string ⟨#[]⟩, .string ⟨n.toArray⟩, .pointer (some ⟨w.heap.size, 0, none⟩)]] (w.alloc (.cells #[.slice none 0 0, .int .i64 0] 83)) fun e w' => e = .returned (.int .i64 (sfChange (sfNew s) ⟨[], n, some s.fls.length⟩).1) ∧ FsTo w O g m1 m2 (sfChange (sfNew s) ⟨[], n, some s.fls.length⟩).2 w') := by
          have := change_any (HF.out.newF HW.out) HW.out.new ⟨[], n, some s.fls.length⟩ (by simp) hn hpn
          have e : sfPv (updF bl s.fls.length w.heap.size) (some s.fls.length) = .pointer (some ⟨w.heap.size, 0, none⟩) := by rw [sfPv, updF_same]
          rw [e] at this
          refine this.mono ?_
          rintro e w' ⟨he, ⟨pv', hf⟩, ho⟩
          refine ⟨he, ⟨pv', _, _, hf.wider (Grw.trans (by simp) ho.size) (Grw.lt HF.out.lt ?_)⟩, (Onl.alloc _).trans ho⟩
          have := ho.size; simp at this; omega
        go_enter Tryz.func20, Tryz.ntmps20
        go_wp2_with (first
          | (go_at_call 17; refine (made_cell _ c0 h1).mono ?_; rintro e w' ⟨rfl, hw'⟩; subst w')
          | (go_at_call 38; refine (isName_any n _).mono ?_; rw [hN]; rintro e w' ⟨rfl, hw'⟩; subst w')
          | (go_at_call 39; refine HC.out.mono ?_; rintro e w2 ⟨rfl, hto⟩))
        go_ret
        exact ⟨rfl, hto⟩
theorem fail_any {w : World} {O : Nat → Prop} {g m1 m2 : Nat} {pv : Value} {bl : Nat → Nat} {vs : Nat → Value} {s : SfS} (h : FsAt w O g m1 m2 pv bl vs s) (hw : SfWf s) (n e : Int) :
    Calls Tryz.prog 6 #[.pointer (some ⟨g, 0, none⟩), .int .i64 n, .int .i64 e] w fun e' w' => e' = .returned (.int .i64 (sfFail s n e).1) ∧ FsTo w O g m1 m2 (sfFail s n e).2 w' := by
  have HF : Hid (FsAt w O g m1 m2 pv bl vs s) := h
  have HEnd : Hid (FsTo w O g m1 m2 s w) := h.to h.lt (Onl.refl _ _)
  have h1 := hw.r1
  have c0 := h.c0
  have c4 := h.c4
  have c5 := h.c5
  have f4 := h.fz 4
  have f5 := h.fz 5
  clear h hw
  have HP : Hid (∀ w' : World, (∀ k, k ≠ g → w'.heap[k]? = w.heap[k]?) → GOwn w' 88 3 pv s.pend.length (s.pend.flatMap (sfAv bl))) := fun w' hk => HF.out.hp.keep fun k hk' => by
    obtain ⟨cur, hc⟩ := HF.out.pvT hk'
    exact hk k (ty_ne hc HF.out.hg (by decide))
  unfold sfFail
  by_cases he : e ≠ 81 ∧ e ≠ 82
  · rw [if_pos he]
    have e1 : (e != 81) = true := by simpa using he.1
    have e2 : (e != 82) = true := by simpa using he.2
    clear he
    go_enter Tryz.func6, Tryz.ntmps6
    go_wp2_with (go_at_call 17; refine (made_cell _ c0 h1).mono ?_; rintro e w' ⟨rfl, hw'⟩; subst w')
    go_ret
    exact ⟨rfl, HEnd.out⟩
  · rw [if_neg he]
    have he' : e = 81 ∨ e = 82 := by omega
    clear he
    by_cases hn : n < 0
    · rw [if_pos hn]
      have HT : Hid (FsTo w O g m1 m2 { s with fault := 0 } (w.setCell ⟨g, 5, none⟩ (.int .i64 0))) := by
        refine FsAt.to (pv := pv) (bl := bl) (vs := vs) ?_ HF.out.lt (Onl.set (a := ⟨g, 5, none⟩) HF.out.og _)
        refine HF.out.setG (fun _ q => q) (fun k q => by have := HF.out.lt k q; simp [World.setCell]; exact this) (fun k _ hk _ => Below.heap_setCell _ _ _ _ hk) ?_ (HP.out _ fun k hk => Below.heap_setCell _ _ _ _ hk) HF.out.op
        have := cells_set HF.out.hg 5 (.int .i64 0); simpa using this
      rcases he' with rfl | rfl
      · go_enter Tryz.func6, Tryz.ntmps6
        go_wp2_with (go_at_call 17; refine (made_cell _ c0 h1).mono ?_; rintro e w' ⟨rfl, hw'⟩; subst w')
        go_ret
        exact ⟨rfl, HT.out⟩
      · go_enter Tryz.func6, Tryz.ntmps6
        go_wp2_with (go_at_call 17; refine (made_cell _ c0 h1).mono ?_; rintro e w' ⟨rfl, hw'⟩; subst w')
        go_ret
        exact ⟨rfl, HT.out⟩
    · rw [if_neg hn]
      have HT : Hid (FsTo w O g m1 m2 { s with left := n, fault := e } ((w.setCell ⟨g, 4, none⟩ (.int .i64 n)).setCell ⟨g, 5, none⟩ (.int .i64 e))) := by
        refine FsAt.to (pv := pv) (bl := bl) (vs := vs) ?_ HF.out.lt ((Onl.set (a := ⟨g, 4, none⟩) HF.out.og _).then (Onl.set (a := ⟨g, 5, none⟩) HF.out.og _))
        have hk2 : ∀ k, k ≠ g → ((w.setCell ⟨g, 4, none⟩ (.int .i64 n)).setCell ⟨g, 5, none⟩ (.int .i64 e)).heap[k]? = w.heap[k]? := fun k hk => by rw [Below.heap_setCell _ _ _ _ hk, Below.heap_setCell _ _ _ _ hk]
        refine HF.out.setG (fun _ q => q) (fun k q => by have := HF.out.lt k q; simp [World.setCell]; exact this) (fun k _ hk _ => hk2 k hk) ?_ (HP.out _ hk2) HF.out.op
        have g1 := cells_set HF.out.hg 4 (.int .i64 n)
        have := cells_set g1 5 (.int .i64 e); simpa using this
      rcases he' with rfl | rfl
      · go_enter Tryz.func6, Tryz.ntmps6
        go_wp2_with (go_at_call 17; refine (made_cell _ c0 h1).mono ?_; rintro e w' ⟨rfl, hw'⟩; subst w')
        go_ret
        exact ⟨rfl, HT.out⟩
      · go_enter Tryz.func6, Tryz.ntmps6
        go_wp2_with (go_at_call 17; refine (made_cell _ c0 h1).mono ?_; rintro e w' ⟨rfl, hw'⟩; subst w')
        go_ret
        exact ⟨rfl, HT.out⟩
theorem FsAt.plan_to {w w' : World} {O : Nat → Prop} {g m1 m2 : Nat} {pv : Value} {bl : Nat → Nat} {vs : Nat → Value} {s s' : SfS} (h : FsAt w' O g m1 m2 pv bl vs s') (h0 : FsAt w O g m1 m2 pv bl vs s) (ho : Onl O w w') : FsTo w O g m1 m2 s' w' := h.to h0.lt ho
theorem sync_any {w : World} {O : Nat → Prop} {g m1 m2 : Nat} {pv : Value} {bl : Nat → Nat} {vs : Nat → Value} {s : SfS} (h : FsAt w O g m1 m2 pv bl vs s) (hw : SfWf s) (n : List UInt8) (hn : n.length ≤ maxLen) :
    Calls Tryz.prog 26 #[.pointer (some ⟨g, 0, none⟩), .string ⟨n.toArray⟩] w fun e w' => e = .returned (.int .i64 (sfSync s n).1) ∧ FsTo w O g m1 m2 (sfSync s n).2 w' := by
  have HF : Hid (FsAt w O g m1 m2 pv bl vs s) := h
  have HEnd : Hid (FsTo w O g m1 m2 s w) := h.to h.lt (Onl.refl _ _)
  have hfd := find_any h hw n hn
  have hpl := planned_any h hw
  have hdi := hw.di
  clear h hw
  unfold sfSync
  cases hL : sfLook n s.dir with
  | none =>
    rw [hL] at hfd
    simp only [sfPv, sfFe] at hfd
    go_enter Tryz.func26, Tryz.ntmps26
    go_wp2_with (go_at_call 47; refine hfd.mono ?_; rintro e w' ⟨rfl, hw'⟩; subst w')
    go_ret
    exact ⟨rfl, HEnd.out⟩
  | some i =>
    rw [hL] at hfd
    simp only [sfPv, sfFe] at hfd
    have hi : i < s.fls.length := (hdi _ (look_mem hL)).1
    simp only []
    by_cases hE : (sfPlan s).1 = 0
    · rw [if_pos hE]
      rw [hE] at hpl
      obtain ⟨S, HS⟩ := hid_ex (sfPlan s).2
      rw [← HS.out] at hpl ⊢
      have HFL : Hid (S.fls = s.fls) := by show S.fls = _; rw [HS.out]; exact sfPlan_fls s
      have HFI : Hid (S.fl i = s.fl i) := by show S.fl i = _; unfold SfS.fl; rw [HFL.out]
      rw [← HFI.out]
      have hi' : i < S.fls.length := by rw [HFL.out]; exact hi
      clear hE hL hi hdi
      go_enter Tryz.func26, Tryz.ntmps26
      go_wp2_with (go_at_call 47; refine hfd.mono ?_; rintro e w' ⟨rfl, hw'⟩; subst w')
      refine hpl.mono ?_
      rintro e w2 ⟨rfl, hf2, ho2, hs2⟩
      have HF2 : Hid (FsAt w2 O g m1 m2 pv bl vs S) := hf2
      have HO2 : Hid (Onl O w w2) := ho2
      clear hf2 ho2 hs2
      obtain ⟨hf, hb⟩ := HF2.out.file hi'
      obtain ⟨va, vc, hv, -⟩ := hb.form
      rw [hv] at hf
      have x0 := cell_of hf 0 _ rfl
      have x1 := cell_of hf 1 _ rfl
      have z1 : w2.frozen? ⟨bl i, 1, none⟩ = false := by simp [World.frozen?, hf]
      have HFF := (show Hid (w2.heap[bl i]? = some (.cells #[.slice va (S.fl i).1.length vc, .int .i64 ((S.fl i).2 : Int)] 83)) from hf)
      have HBB := (show Hid (BOwn w2 (vs i) (S.fl i).1) from hb)
      have HVV := (show Hid (vs i = .slice va (S.fl i).1.length vc) from hv)
      clear hf hb hv hfd hpl
      go_wp2_with fail
      go_ret
      refine ⟨rfl, FsAt.to (pv := pv) (bl := bl) (vs := updF vs i (vs i)) ?_ HF.out.lt (HO2.out.then (Onl.set (a := ⟨bl i, 1, none⟩) (HF2.out.fl.ob i hi') _))⟩
      refine HF2.out.setI (fun _ q => q) (fun k q => by have := HF2.out.lt k q; simp [World.setCell]; exact this) hi' (fun k _ hk _ => Below.heap_setCell _ _ _ _ hk) (v := vs i) ?_ (HBB.out.keep fun k hk => ?_) (fun k hk => .inl hk)
      · have := cells_set HFF.out 1 (.int .i64 ((S.fl i).1.length : Int))
        rw [HVV.out]
        simpa using this
      · obtain ⟨cur, hc⟩ := HBB.out.block hk
        exact Below.heap_setCell _ _ _ _ (ty_ne hc HFF.out (by decide))
    · rw [if_neg hE]
      have hE' : ((sfPlan s).1 == 0) = false := by simpa using hE
      go_enter Tryz.func26, Tryz.ntmps26
      go_wp2_with (first
        | (go_at_call 47; refine hfd.mono ?_; rintro e w' ⟨rfl, hw'⟩; subst w')
        | (go_at_call 40; refine hpl.mono ?_; rintro e w2 ⟨rfl, hf2, ho2, hs2⟩))
      go_ret
      exact ⟨rfl, hf2.to HF.out.lt ho2⟩
theorem syncDir_any {w : World} {O : Nat → Prop} {g m1 m2 : Nat} {pv : Value} {bl : Nat → Nat} {vs : Nat → Value} {s : SfS} (h : FsAt w O g m1 m2 pv bl vs s) (hw : SfWf s) :
    Calls Tryz.prog 21 #[.pointer (some ⟨g, 0, none⟩)] w fun e w' => e = .returned (.int .i64 (sfSyncDir s).1) ∧ FsTo w O g m1 m2 (sfSyncDir s).2 w' := by
  have HF : Hid (FsAt w O g m1 m2 pv bl vs s) := h
  have hpl := planned_any h hw
  have HW : Hid (SfWf s) := hw
  have h1 := hw.r1
  have c0 := h.c0
  clear h hw
  unfold sfSyncDir
  by_cases hE : (sfPlan s).1 = 0
  · rw [if_pos hE]
    rw [hE] at hpl
    obtain ⟨S, HS⟩ := hid_ex (sfPlan s).2
    rw [← HS.out] at hpl ⊢
    have HPE : Hid (S.pend = s.pend) := by show S.pend = _; rw [HS.out]; exact sfPlan_pend s
    have HWS : Hid (SfWf S) := by
      show SfWf S
      rw [HS.out]
      unfold sfPlan
      have q := HW.out
      split
      · exact q
      · split
        · exact ⟨q.r1, q.r2, by show _ ≤ s.left - 1; omega, by show s.left - 1 < _; have := q.l2; omega, q.di, q.oi, q.pi, q.ap, q.ln, q.sy⟩
        · exact ⟨q.r1, q.r2, q.l1, q.l2, q.di, q.oi, q.pi, q.ap, q.ln, q.sy⟩
    rw [← HPE.out]
    clear hE
    go_enter Tryz.func21, Tryz.ntmps21
    go_wp2_with (go_at_call 17; refine (made_cell _ c0 h1).mono ?_; rintro e w' ⟨rfl, hw'⟩; subst w')
    refine hpl.mono ?_
    rintro e w2 ⟨rfl, hf2, ho2, hs2⟩
    have HF2 : Hid (FsAt w2 O g m1 m2 pv bl vs S) := hf2
    have HO2 : Hid (Onl O w w2) := ho2
    clear hf2 ho2 hs2 hpl
    obtain ⟨pa, pc, hpv, -⟩ := HF2.out.hp.form
    have c3 := HF2.out.c3
    rw [hpv] at c3
    have hst := settle_any HF2.out HWS.out S.pend.length (Nat.le_refl _)
    clear hpv
    go_wp2_with (go_at_call 27; refine hst.mono ?_; rintro e w3 ⟨rfl, hf3, ho3⟩)
    go_ret
    exact ⟨rfl, hf3.to HF.out.lt (HO2.out.then ho3)⟩
  · rw [if_neg hE]
    have hE' : ((sfPlan s).1 == 0) = false := by simpa using hE
    go_enter Tryz.func21, Tryz.ntmps21
    go_wp2_with (first
      | (go_at_call 17; refine (made_cell _ c0 h1).mono ?_; rintro e w' ⟨rfl, hw'⟩; subst w')
      | (go_at_call 40; refine hpl.mono ?_; rintro e w2 ⟨rfl, hf2, ho2, hs2⟩))
    go_ret
    exact ⟨rfl, hf2.to HF.out.lt ho2⟩
end Go.Proofs.YtegcomopcoapjaaGreatDoor
