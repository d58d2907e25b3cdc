/- A file system: acts are settled; the directory is changed. -/
import Derived.Test.YtijablmejjepaaaSF4
import Derived.Test.YtijablmejjepaaaRH
namespace Go.Proofs.Ytijablmejjepaaa
open Go.RowKit Go.Maps

theorem elemA : Try.prog.elem 41 = 71 := by kernel_rfl
theorem run_slice_u (a : Option Addr) (n cap N : Nat) (h : N ≤ cap) (w : World) : (Instr.slice 41 (.slice a n cap) none (some (.int .i64 (N : Int))) none).run Try.prog w = .ok (.slice a N cap) w := by
  have ha : (Option.map (fun x : Addr => x.add 0) a) = a := by cases a <;> simp [add_zero']
  simp [Instr.slice, run_underlying Try.underlying41, Instr.sliceBounds, Instr.sliceBound, asIntOf, h, Result.andThen, ha]
theorem flat3 {α : Type} (f : α → List Value) (hf : ∀ a, (f a).length = 3) : ∀ (l : List α) (j : Nat) (hj : j < l.length) (i : Nat), i < 3 → (l.flatMap f)[j * 3 + i]? = (f l[j])[i]?
  | a :: l, 0, _, i, hi => by
    rw [List.flatMap_cons, List.getElem?_append_left (by rw [hf]; omega)]
    simp
  | a :: l, j + 1, hj, i, hi => by
    rw [List.flatMap_cons, List.getElem?_append_right (by rw [hf]; omega), hf]
    have := flat3 f hf l j (by simpa using hj) i hi
    rw [show (j + 1) * 3 + i - 3 = j * 3 + i by omega, this]
    simp
theorem GOwn.at3 {α : Type} {w : World} {e : TypeId} {q n cap : Nat} {l : List α} {f : α → List Value} (h : GOwn w e 3 (.slice (some ⟨q, 0, none⟩) n cap) l.length (l.flatMap f)) (hf : ∀ a, (f a).length = 3) (j : Nat) (hj : j < l.length) (i : Nat) (u : Value) (hi : (f l[j])[i]? = some u) : w.cell? ⟨q, j * 3 + i, none⟩ = some u := by
  have hi3 : i < 3 := by have := (List.getElem?_eq_some_iff.1 hi).1; rw [hf] at this; exact this
  have := h.cells (g := q) rfl (j * 3 + i) u (by rw [flat3 f hf l j hj i hi3]; exact hi)
  have ea : (⟨q, 0, none⟩ : Addr).add (j * 3 + i) = ⟨q, j * 3 + i, none⟩ := by simp [Addr.add]; omega
  rw [ea] at this
  exact this
theorem foldl_take_succ {l : List SfA} {j : Nat} (hj : j < l.length) (o : List (List UInt8 × Nat)) : (l.take (j + 1)).foldl sfDo o = sfDo ((l.take j).foldl sfDo o) l[j] := by
  rw [List.take_add_one, List.getElem?_eq_getElem hj, List.foldl_append]; rfl
theorem sfPv_ptr (bl : Nat → Nat) (o : Option Nat) : ∃ pt, sfPv bl o = .pointer pt := by cases o <;> exact ⟨_, rfl⟩
theorem cell_of {w : World} {b : Nat} {cs : Array Value} {T : TypeId} (h : w.heap[b]? = some (.cells cs T)) (i : Nat) (v : Value) (hv : cs[i]? = some v) : w.cell? ⟨b, i, none⟩ = some v := by
  obtain ⟨hi, rfl⟩ := Array.getElem?_eq_some_iff.1 hv
  simp [World.cell?, h, hi]
theorem settle_any {w : World} {O : Nat → Prop} {g m1 m2 : Nat} {pv : Value} {bl : Nat → Nat} {vs : Nat → Value} {s : SfS} (h : FsAt w O g m1 m2 pv bl vs s) (hw : SfWf s) (k : Nat) (hk : k ≤ s.pend.length) :
    Calls Try.prog 38 #[.pointer (some ⟨g, 0, none⟩), .int .i64 (k : Int)] w fun e w' => e = .returned (.tuple #[]) ∧ FsAt w' O g m1 m2 (.slice none 0 0) bl vs (sfSettle s k) ∧ Onl O w w' := by
  obtain ⟨a, cap, rfl, hc1, hc2, hc3, hc4⟩ := h.hp.form
  have c3 := h.c3
  have hsl := run_slice_u a s.pend.length cap k (by omega)
  have hkb : (k : Int) ≤ 9223372036854775807 := by simp only [maxLen] at hc2; omega
  have HF : Hid (FsAt w O g m1 m2 (.slice a s.pend.length cap) bl vs s) := h
  have HW : Hid (SfWf s) := hw
  clear h hw
  go_enter Try.func38, Try.ntmps38
  go_wp2_with fail
  clear c3 hsl
  go_loopw [13] (fun i wr => ∃ j : Nat, i = .int .i64 (j : Int) ∧ j ≤ k ∧ Hid (FsAt wr O g m1 m2 (.slice a s.pend.length cap) bl vs { s with old := (s.pend.take j).foldl sfDo s.old }) ∧ Hid (Onl O w wr)) (fun i _ => k - (intOf i).toNat)
  case atStart => exact ⟨0, rfl, by omega, HF, Onl.refl _ _⟩
  case round =>
    obtain ⟨j, rfl, hj, HR, HO⟩ := hrel
    by_cases hlt : j < k
    · have hlt' : (j : Int) < (k : Int) := by omega
      cases a with
      | none => have := (hc4 rfl).1; omega
      | some q =>
        obtain ⟨q, rfl⟩ : ∃ b : Nat, q = ⟨b, 0, none⟩ := ⟨_, hc3 q rfl⟩
        have hjl : j < s.pend.length := by omega
        obtain ⟨A, HA⟩ := hid_ex (s.pend[j])
        have hp := HR.out.hp
        have x0 := hp.at3 (fun _ => rfl) j hjl 0 (.string ⟨A.gone.toArray⟩) (by rw [HA.out]; rfl)
        have x1 := hp.at3 (fun _ => rfl) j hjl 1 (.string ⟨A.name.toArray⟩) (by rw [HA.out]; rfl)
        have x2 := hp.at3 (fun _ => rfl) j hjl 2 (sfPv bl A.file) (by rw [HA.out]; rfl)
        rw [Nat.add_zero] at x0
        obtain ⟨pt, hpt⟩ := sfPv_ptr bl A.file
        have HPT : Hid (sfPv bl A.file = .pointer pt) := hpt
        rw [hpt] at x2
        clear hp hpt
        go_wp2_with fail
        clear x0 x1 x2
        have HX : Hid ((wr.alloc (.cells #[.string ⟨A.gone.toArray⟩, .string ⟨A.name.toArray⟩, .pointer pt] 71)).heap[wr.heap.size]? = some (.cells #[.string ⟨A.gone.toArray⟩, .string ⟨A.name.toArray⟩, .pointer pt] 71)) := heap_alloc_new _ _
        have HR1 : Hid (FsAt (wr.alloc (.cells #[.string ⟨A.gone.toArray⟩, .string ⟨A.name.toArray⟩, .pointer pt] 71)) O g m1 m2 (.slice (some ⟨q, 0, none⟩) s.pend.length cap) bl vs { s with old := (s.pend.take j).foldl sfDo s.old }) := HR.out.keep (fun k hk => Below.heap_alloc _ _ _ (HR.out.lt k hk)) (by simp)
        have HO1 : Hid (Onl O w (wr.alloc (.cells #[.string ⟨A.gone.toArray⟩, .string ⟨A.name.toArray⟩, .pointer pt] 71))) := HO.out.then (Onl.alloc _)
        clear HR HO
        generalize (wr.alloc (.cells #[.string ⟨A.gone.toArray⟩, .string ⟨A.name.toArray⟩, .pointer pt] 71)) = w1 at *
        have cm := HR1.out.c2
        have y0 := cell_of HX.out 0 _ rfl
        have y1 := cell_of HX.out 1 _ rfl
        have y2 := cell_of HX.out 2 _ rfl
        have HDO : Hid (Calls Try.prog 48 #[.agg #[.string ⟨A.gone.toArray⟩, .string ⟨A.name.toArray⟩, .pointer pt], .map (some m2)] w1.drew fun e w' => e = .returned (.tuple #[]) ∧ FsAt w' O g m1 m2 (.slice (some ⟨q, 0, none⟩) s.pend.length cap) bl vs { s with old := (s.pend.take (j + 1)).foldl sfDo s.old } ∧ Onl O w1 w') := by
          have hA := HW.out.pi A (by rw [HA.out]; exact List.getElem_mem hjl)
          have hm2 : SfMap w1.drew m2 bl ((s.pend.take j).foldl sfDo s.old) := HR1.out.h2
          have := do_any hm2 (by have := HW.out.ln j; simp only [maxLen]; omega) A (by simp only [maxLen]; omega) (by simp only [maxLen]; omega)
          rw [HPT.out] at this
          refine this.mono ?_
          rintro e w' ⟨he, h1, h2⟩
          refine ⟨he, ?_, ⟨h2.os, h2.tape, h2.output, h2.size, fun k hk ho => h2.block k hk (fun e => ho (e ▸ HR1.out.o2))⟩⟩
          rw [foldl_take_succ hjl, ← HA.out]
          exact HR1.out.set2 (w' := w') h2.size (fun k hk hne => h2.block k (HR1.out.lt k hk) hne) h1
        refine wp_region_noPanic ?_
        refine wp_region_S 5 (fun _ => True) (fun w' => w'.cell? ⟨wr.heap.size, 0, none⟩ = some (.string ⟨A.gone.toArray⟩) ∧ w'.cell? ⟨wr.heap.size, 1, none⟩ = some (.string ⟨A.name.toArray⟩) ∧ w'.cell? ⟨wr.heap.size, 2, none⟩ = some (.pointer pt) ∧ w'.cell? ⟨g, 2, none⟩ = some (.map (some m2))) (by kernel_rfl) ?_ ?_ (fun hHeld => ?_)
        · trivial
        · exact ⟨y0, y1, y2, cm⟩
        refine wpAnyS_take (i := 0) (v := .agg #[.string ⟨A.gone.toArray⟩, .string ⟨A.name.toArray⟩, .pointer pt]) true rfl (by kernel_rfl) (by kernel_rfl) (by kernel_rfl) (by kernel_rfl) (by kernel_rfl) (by kernel_rfl) (fun _ _ _ h => h) (Or.inl ⟨by rfl, ?_⟩) hHeld (fun hHeld => ?_)
        · (intro w1 hSw; have hSw2 := hSw.2 rfl; have hSw := hSw.1; (try dsimp only at hSw hSw2); go_simp)
        simp only [List.getElem_toArray, List.getElem_cons_zero, Act.put, List.setIfInBounds_toArray, List.set_cons_zero, List.set_cons_succ]
        refine wpAnyS_take (i := 1) (v := .pointer (some ⟨g, 0, none⟩)) _ rfl (by kernel_rfl) (by kernel_rfl) (by kernel_rfl) (by kernel_rfl) (by kernel_rfl) rfl (fun _ _ _ h => h) (Or.inl ⟨by rfl, ?_⟩) hHeld (fun hHeld => ?_)
        · (intro w1 hSw; have hSw := hSw.1; (try dsimp only at hSw); go_simp)
        simp only [List.getElem_toArray, List.getElem_cons_succ, List.getElem_cons_zero, Act.put, List.setIfInBounds_toArray, List.set_cons_zero, List.set_cons_succ]
        refine wpAnyS_take (i := 2) (v := .pointer (some ⟨g, 0, none⟩)) _ rfl (by kernel_rfl) (by kernel_rfl) (by kernel_rfl) (by kernel_rfl) (by kernel_rfl) rfl (fun _ _ _ h => h) (Or.inl ⟨by rfl, ?_⟩) hHeld (fun hHeld => ?_)
        · (intro w1 hSw; have hSw := hSw.1; (try dsimp only at hSw); go_simp)
        simp only [List.getElem_toArray, List.getElem_cons_succ, List.getElem_cons_zero, Act.put, List.setIfInBounds_toArray, List.set_cons_zero, List.set_cons_succ]
        refine wpAnyS_take (i := 3) (v := .pointer (some ⟨g, 2, none⟩)) _ rfl (by kernel_rfl) (by kernel_rfl) (by kernel_rfl) (by kernel_rfl) (by kernel_rfl) rfl (fun _ _ _ h => h) (Or.inl ⟨by rfl, ?_⟩) hHeld (fun hHeld => ?_)
        · (intro w1 hSw; have hSw := hSw.1; (try dsimp only at hSw); go_simp)
        simp only [List.getElem_toArray, List.getElem_cons_succ, List.getElem_cons_zero, Act.put, List.setIfInBounds_toArray, List.set_cons_zero, List.set_cons_succ]
        refine wpAnyS_take (i := 4) (v := .map (some m2)) true rfl (by kernel_rfl) (by kernel_rfl) (by kernel_rfl) (by kernel_rfl) (by kernel_rfl) (by kernel_rfl) (fun _ _ _ h => h) (Or.inl ⟨by rfl, ?_⟩) hHeld (fun hHeld => ?_)
        · (intro w1 hSw; have hSw2 := hSw.2 rfl; have hSw := hSw.1; (try dsimp only at hSw hSw2); go_simp)
        simp only [List.getElem_toArray, List.getElem_cons_succ, List.getElem_cons_zero, Act.put, List.setIfInBounds_toArray, List.set_cons_zero, List.set_cons_succ]
        refine wpAnyS_ready (i := 5) (by kernel_rfl) rfl (fun K hK => ?_)
        go_simp
        refine HDO.out.mono ?_
        rintro e w2 ⟨rfl, hf2, ho2⟩
        have HR2 := (show Hid (FsAt w2 O g m1 m2 (.slice (some ⟨q, 0, none⟩) s.pend.length cap) bl vs { s with old := (s.pend.take (j + 1)).foldl sfDo s.old }) from hf2)
        have HO2 : Hid (Onl O w w2) := HO1.out.then ho2
        clear hf2 ho2 HDO HO1 HR1 HX y0 y1 y2 cm
        go_simp
        refine hK.out _ _ ⟨?_, fun hno => absurd hno (by decide)⟩ (fun hHeld => ?_)
        · trivial
        clear hK K
        refine wpAnyS_done (by kernel_rfl) ?_ _
        refine NoPanic.normal ?_
        go_wp2_with fail
        go_roundw
        case rel => exact ⟨j + 1, by go_num, by omega, HR2, HO2⟩
        case measure => simp [intOf]; omega
    · have hlt' : ¬ (j : Int) < (k : Int) := by omega
      obtain rfl : j = k := by omega
      have fz := HR.out.fz 3
      have c3 := HR.out.c3
      go_wp2_with fail
      refine bodyPost_end (results_none rfl _ _ _) rfl ?_
      refine ⟨rfl, ?_, HO.out.then (Onl.set (a := ⟨g, 3, none⟩) HR.out.og _)⟩
      refine FsAt.setG (s := { s with old := (s.pend.take j).foldl sfDo s.old }) HR.out (fun _ q => q) (fun k q => by have := HR.out.lt k q; simp [World.setCell]; exact this) (fun k _ hk _ => Below.heap_setCell _ _ _ _ hk) ?_ (GOwn.nil _ _ _) (fun k hk => by simp [Value.ownBlock] at hk)
      have := cells_set HR.out.hg 3 (.slice none 0 0); simpa using this
end Go.Proofs.Ytijablmejjepaaa
