/- MG2x, joined. -/
import Derived.Test.YtapbojjmfakonaaDoorMH15
/- law13: As. -/
namespace Go.Proofs.YtapbojjmfakonaaDoor
open Go.RowKit Go.Shelf

set_option maxRecDepth 100000 in
set_option maxHeartbeats 4000000 in
theorem as13_any (rv : Value) (s : St) (w : World) (h : RuR w rv s.ru) (hl : s.ru.length ≤ 100000) :
    Calls Tryd.prog 7 #[.agg #[rv, .int .i64 s.lo, .int .i64 s.ne, .int .i64 s.ma]] w fun e w' => ∃ v', e = .returned (.agg #[v', .int .i64 s.lo, .int .i64 s.ne, .int .i64 s.ma]) ∧ RuR w' v' s.ru ∧ Below w.heap.size w w' := by
  obtain ⟨aa, ac, rfl, hm2⟩ := h.form
  have HE : Hid (RuR w (.slice aa s.ru.length ac) s.ru) := h
  clear h
  go_enter Tryd.func7, Tryd.ntmps7
  go_wp2_with fail
  obtain ⟨W, HW⟩ := hid_ex (((w.alloc (.cells #[.slice aa s.ru.length ac, .int .i64 s.lo, .int .i64 s.ne, .int .i64 s.ma] 24)).alloc (.cells #[.slice none 0 0, .int .i64 0, .int .i64 0, .int .i64 0] 35)).drew)
  have HB0 : Hid (Below w.heap.size w W) := by rw [HW.out]; exact (((Below.refl _ _).alloc (Nat.le_refl _) _).alloc (by simp) _).drew
  have hsz : w.heap.size + 1 < W.heap.size := by rw [HW.out]; simp [World.drew]
  have HX : Hid (W.heap[w.heap.size]? = some (.cells #[.slice aa s.ru.length ac, .int .i64 s.lo, .int .i64 s.ne, .int .i64 s.ma] 24)) := by
    unfold Hid; rw [HW.out]; exact (Below.heap_alloc _ _ _ (by simp)).trans (heap_alloc_new _ _)
  have HZ : Hid (W.heap[w.heap.size + 1]? = some (.cells #[.slice none 0 0, .int .i64 0, .int .i64 0, .int .i64 0] 35)) := by
    unfold Hid; rw [HW.out]; have := heap_alloc_new (w.alloc (.cells #[.slice aa s.ru.length ac, .int .i64 s.lo, .int .i64 s.ne, .int .i64 s.ma] 24)) (.cells #[.slice none 0 0, .int .i64 0, .int .i64 0, .int .i64 0] 35); rw [World.size_alloc] at this; exact this
  have c := four13 HX.out
  refine wp_region_noPanic ?_
  refine wp_region_held_drew (S := fun w' => w'.cell? ⟨w.heap.size, 0, none⟩ = some (.slice aa s.ru.length ac) ∧ w'.cell? ⟨w.heap.size, 1, none⟩ = some (.int .i64 s.lo) ∧ w'.cell? ⟨w.heap.size, 2, none⟩ = some (.int .i64 s.ne) ∧ w'.cell? ⟨w.heap.size, 3, none⟩ = some (.int .i64 s.ma)) (by kernel_rfl) ?_ (fun hHeld => ?_)
  · (rw [← HW.out]; exact c)
  rw [← HW.out]
  clear HW
  refine wpAnyH_take (i := 0) (v := .pointer (some ⟨w.heap.size, 0, none⟩)) rfl (by kernel_rfl) (by kernel_rfl) (by kernel_rfl) (fun _ _ _ h => h) (Or.inl ⟨by rfl, ?_⟩) (by assumption) ?_
  · (intro w1 hSw; (try dsimp only at hSw); go_simp)
  simp only [List.getElem_toArray, List.getElem_cons_zero, Act.put, List.setIfInBounds_toArray, List.set_cons_zero, List.set_cons_succ]
  refine wpAnyH_take (i := 1) (v := .slice aa s.ru.length ac) rfl (by kernel_rfl) (by kernel_rfl) (by kernel_rfl) (fun _ _ _ h => h) (Or.inl ⟨by rfl, ?_⟩) (by assumption) ?_
  · (intro w1 hSw; (try dsimp only at hSw); go_simp)
  simp only [List.getElem_toArray, List.getElem_cons_succ, List.getElem_cons_zero, Act.put, List.setIfInBounds_toArray, List.set_cons_zero, List.set_cons_succ]
  refine wpAnyH_take (i := 3) (v := .pointer (some ⟨w.heap.size, 1, none⟩)) rfl (by kernel_rfl) (by kernel_rfl) (by kernel_rfl) (fun _ _ _ h => h) (Or.inl ⟨by rfl, ?_⟩) (by assumption) ?_
  · (intro w1 hSw; (try dsimp only at hSw); go_simp)
  simp only [List.getElem_toArray, List.getElem_cons_succ, List.getElem_cons_zero, Act.put, List.setIfInBounds_toArray, List.set_cons_zero, List.set_cons_succ]
  refine wpAnyH_take (i := 4) (v := .int .i64 s.lo) rfl (by kernel_rfl) (by kernel_rfl) (by kernel_rfl) (fun _ _ _ h => h) (Or.inl ⟨by rfl, ?_⟩) (by assumption) ?_
  · (intro w1 hSw; (try dsimp only at hSw); go_simp)
  simp only [List.getElem_toArray, List.getElem_cons_succ, List.getElem_cons_zero, Act.put, List.setIfInBounds_toArray, List.set_cons_zero, List.set_cons_succ]
  refine wpAnyH_take (i := 5) (v := .pointer (some ⟨w.heap.size, 2, none⟩)) rfl (by kernel_rfl) (by kernel_rfl) (by kernel_rfl) (fun _ _ _ h => h) (Or.inl ⟨by rfl, ?_⟩) (by assumption) ?_
  · (intro w1 hSw; (try dsimp only at hSw); go_simp)
  simp only [List.getElem_toArray, List.getElem_cons_succ, List.getElem_cons_zero, Act.put, List.setIfInBounds_toArray, List.set_cons_zero, List.set_cons_succ]
  refine wpAnyH_take (i := 6) (v := .int .i64 s.ne) rfl (by kernel_rfl) (by kernel_rfl) (by kernel_rfl) (fun _ _ _ h => h) (Or.inl ⟨by rfl, ?_⟩) (by assumption) ?_
  · (intro w1 hSw; (try dsimp only at hSw); go_simp)
  simp only [List.getElem_toArray, List.getElem_cons_succ, List.getElem_cons_zero, Act.put, List.setIfInBounds_toArray, List.set_cons_zero, List.set_cons_succ]
  refine wpAnyH_take (i := 7) (v := .pointer (some ⟨w.heap.size, 3, none⟩)) rfl (by kernel_rfl) (by kernel_rfl) (by kernel_rfl) (fun _ _ _ h => h) (Or.inl ⟨by rfl, ?_⟩) (by assumption) ?_
  · (intro w1 hSw; (try dsimp only at hSw); go_simp)
  simp only [List.getElem_toArray, List.getElem_cons_succ, List.getElem_cons_zero, Act.put, List.setIfInBounds_toArray, List.set_cons_zero, List.set_cons_succ]
  refine wpAnyH_take (i := 8) (v := .int .i64 s.ma) rfl (by kernel_rfl) (by kernel_rfl) (by kernel_rfl) (fun _ _ _ h => h) (Or.inl ⟨by rfl, ?_⟩) (by assumption) ?_
  · (intro w1 hSw; (try dsimp only at hSw); go_simp)
  simp only [List.getElem_toArray, List.getElem_cons_succ, List.getElem_cons_zero, Act.put, List.setIfInBounds_toArray, List.set_cons_zero, List.set_cons_succ]
  clear c
  refine wpAnyH_ready (rs := [2]) (by kernel_rfl) (by simp) ?_
  refine AllReadyH.cons (o := _) rfl (fun K hK => ?_) AllReadyH.nil
  go_simp
  refine (runs13_any _ s.ru W (HE.out.below HB0.out) hl).mono ?_
  rintro e W2 ⟨v2, rfl, hr2, hav2, hb2⟩
  obtain ⟨va, vc, hv2, _⟩ := hr2.form
  subst hv2
  have HR2 : Hid (RuR W2 (.slice va s.ru.length vc) s.ru) := hr2
  have HB2 : Hid (Below W.heap.size W W2) := hb2
  have HAV : Hid (AboveV W.heap.size (.slice va s.ru.length vc)) := hav2
  have HX2 : Hid (W2.heap[w.heap.size]? = some (.cells #[.slice aa s.ru.length ac, .int .i64 s.lo, .int .i64 s.ne, .int .i64 s.ma] 24)) := (hb2.block _ (by omega)).trans HX.out
  have HZ2 : Hid (W2.heap[w.heap.size + 1]? = some (.cells #[.slice none 0 0, .int .i64 0, .int .i64 0, .int .i64 0] 35)) := (hb2.block _ (by omega)).trans HZ.out
  have HOne : Hid (([.slice va s.ru.length vc, .int .i64 s.lo, .int .i64 s.ne, .int .i64 s.ma] : List Value).toArray.all (·.oneCell') = true) := by unfold Hid; kernel_rfl
  clear hr2 hb2 hav2
  go_simp
  refine hK.out _ _ ?_ (fun hHeld => ?_)
  · exact four13 HX2.out
  clear hK K
  refine wpAnyH_take (i := 9) (v := .agg #[.slice va s.ru.length vc, .int .i64 s.lo, .int .i64 s.ne, .int .i64 s.ma]) rfl (by kernel_rfl) (by kernel_rfl) (by kernel_rfl) (fun _ _ _ h => h) (Or.inl ⟨by rfl, ?_⟩) (by assumption) ?_
  · (intro w1 hSw; (try dsimp only at hSw); go_simp)
  simp only [List.getElem_toArray, List.getElem_cons_succ, List.getElem_cons_zero, Act.put, List.setIfInBounds_toArray, List.set_cons_zero, List.set_cons_succ]
  refine wpAnyH_ready (rs := [10]) (by kernel_rfl) (by simp) ?_
  refine AllReadyH.cons (o := _) rfl (fun K hK => ?_) AllReadyH.nil
  refine wp_storeN _ _ _ rfl (w.heap.size + 1) 0 [.slice va s.ru.length vc, .int .i64 s.lo, .int .i64 s.ne, .int .i64 s.ma] rfl rfl _ _ HZ2.out (by simp) (by kernel_rfl) HOne.out (fun W9 hW9 => ?_)
  have HK9 := stW_all hW9 (by simp)
  have HB9 : Hid (Below w.heap.size W2 W9) := hW9.b _ (by omega)
  have HO9 : Hid (∀ k, k ≠ w.heap.size + 1 → W9.heap[k]? = W2.heap[k]?) := hW9.o
  clear hW9
  refine hK.out _ _ ?_ (fun hHeld => ?_)
  · exact four13 ((HO9.out _ (by omega)).trans HX2.out)
  clear hK K
  refine wpAnyH_done (by kernel_rfl) ?_ _
  refine NoPanic.normal ?_
  go_wp2_with fail
  refine bodyPost_ret (results_1c rfl _ _ (w.heap.size + 1) _ rfl (run_loadVar_row _ (w.heap.size + 1) _ _ _ (0, 0) _ HK9 Tryd.underlying35 rfl (by kernel_rfl))) rfl ?_
  exact ⟨_, rfl, HR2.out.keepB fun b off n c e => HO9.out b (by have := HAV.out b off n c e; omega), HB0.out.trans ((HB2.out.mono HB0.out.size).trans HB9.out)⟩
end Go.Proofs.YtapbojjmfakonaaDoor
