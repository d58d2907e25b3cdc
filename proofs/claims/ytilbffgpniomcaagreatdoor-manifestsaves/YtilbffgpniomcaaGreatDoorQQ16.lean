/- MG2x MA1x MA2x MA3x, joined. -/
import Derived.Test.YtilbffgpniomcaaGreatDoorQQ9
import Derived.Test.YtilbffgpniomcaaGreatDoorQQ15
/- law13: As. -/
namespace Go.Proofs.YtilbffgpniomcaaGreatDoor
open Go.RowKit Go.Shelf

set_option maxRecDepth 100000 in
set_option maxHeartbeats 4000000 in
theorem as13_any (rv : Value) (s : St) (w : World) (h : RuR w rv s.ru) (hl : s.ru.length ≤ 100000) :
    Calls Tryz.prog 16 #[.agg #[rv, .int .i64 s.lo, .int .i64 s.ne, .int .i64 s.ma]] w fun e w' => ∃ v', e = .returned (.agg #[v', .int .i64 s.lo, .int .i64 s.ne, .int .i64 s.ma]) ∧ RuR w' v' s.ru ∧ Below w.heap.size w w' := by
  obtain ⟨aa, ac, rfl, hm2⟩ := h.form
  have HE : Hid (RuR w (.slice aa s.ru.length ac) s.ru) := h
  clear h
  go_enter Tryz.func16, Tryz.ntmps16
  go_wp2_with fail
  obtain ⟨W, HW⟩ := hid_ex (((w.alloc (.cells #[.slice aa s.ru.length ac, .int .i64 s.lo, .int .i64 s.ne, .int .i64 s.ma] 33)).alloc (.cells #[.slice none 0 0, .int .i64 0, .int .i64 0, .int .i64 0] 38)).drew)
  have HB0 : Hid (Below w.heap.size w W) := by rw [HW.out]; exact (((Below.refl _ _).alloc (Nat.le_refl _) _).alloc (by simp) _).drew
  have hsz : w.heap.size + 1 < W.heap.size := by rw [HW.out]; simp [World.drew]
  have HX : Hid (W.heap[w.heap.size]? = some (.cells #[.slice aa s.ru.length ac, .int .i64 s.lo, .int .i64 s.ne, .int .i64 s.ma] 33)) := by
    unfold Hid; rw [HW.out]; exact (Below.heap_alloc _ _ _ (by simp)).trans (heap_alloc_new _ _)
  have HZ : Hid (W.heap[w.heap.size + 1]? = some (.cells #[.slice none 0 0, .int .i64 0, .int .i64 0, .int .i64 0] 38)) := by
    unfold Hid; rw [HW.out]; have := heap_alloc_new (w.alloc (.cells #[.slice aa s.ru.length ac, .int .i64 s.lo, .int .i64 s.ne, .int .i64 s.ma] 33)) (.cells #[.slice none 0 0, .int .i64 0, .int .i64 0, .int .i64 0] 38); rw [World.size_alloc] at this; exact this
  have c := four13 HX.out
  refine wp_region_noPanic ?_
  refine wp_region_held_drew (S := fun w' => w'.cell? ⟨w.heap.size, 0, none⟩ = some (.slice aa s.ru.length ac) ∧ w'.cell? ⟨w.heap.size, 1, none⟩ = some (.int .i64 s.lo) ∧ w'.cell? ⟨w.heap.size, 2, none⟩ = some (.int .i64 s.ne) ∧ w'.cell? ⟨w.heap.size, 3, none⟩ = some (.int .i64 s.ma)) (by kernel_rfl) ?_ (fun hHeld => ?_)
  · (rw [← HW.out]; exact c)
  rw [← HW.out]
  clear HW
  refine wpAnyH_take (i := 0) (v := .pointer (some ⟨w.heap.size, 0, none⟩)) rfl (by kernel_rfl) (by kernel_rfl) (by kernel_rfl) (fun _ _ _ h => h) (Or.inl ⟨by rfl, ?_⟩) (by assumption) ?_
  · (intro w1 hSw; (try dsimp only at hSw); go_simp)
  simp only [List.getElem_toArray, List.getElem_cons_zero, Act.put, List.setIfInBounds_toArray, List.set_cons_zero, List.set_cons_succ]
  refine wpAnyH_take (i := 1) (v := .slice aa s.ru.length ac) rfl (by kernel_rfl) (by kernel_rfl) (by kernel_rfl) (fun _ _ _ h => h) (Or.inl ⟨by rfl, ?_⟩) (by assumption) ?_
  · (intro w1 hSw; (try dsimp only at hSw); go_simp)
  simp only [List.getElem_toArray, List.getElem_cons_succ, List.getElem_cons_zero, Act.put, List.setIfInBounds_toArray, List.set_cons_zero, List.set_cons_succ]
  refine wpAnyH_take (i := 3) (v := .pointer (some ⟨w.heap.size, 1, none⟩)) rfl (by kernel_rfl) (by kernel_rfl) (by kernel_rfl) (fun _ _ _ h => h) (Or.inl ⟨by rfl, ?_⟩) (by assumption) ?_
  · (intro w1 hSw; (try dsimp only at hSw); go_simp)
  simp only [List.getElem_toArray, List.getElem_cons_succ, List.getElem_cons_zero, Act.put, List.setIfInBounds_toArray, List.set_cons_zero, List.set_cons_succ]
  refine wpAnyH_take (i := 4) (v := .int .i64 s.lo) rfl (by kernel_rfl) (by kernel_rfl) (by kernel_rfl) (fun _ _ _ h => h) (Or.inl ⟨by rfl, ?_⟩) (by assumption) ?_
  · (intro w1 hSw; (try dsimp only at hSw); go_simp)
  simp only [List.getElem_toArray, List.getElem_cons_succ, List.getElem_cons_zero, Act.put, List.setIfInBounds_toArray, List.set_cons_zero, List.set_cons_succ]
  refine wpAnyH_take (i := 5) (v := .pointer (some ⟨w.heap.size, 2, none⟩)) rfl (by kernel_rfl) (by kernel_rfl) (by kernel_rfl) (fun _ _ _ h => h) (Or.inl ⟨by rfl, ?_⟩) (by assumption) ?_
  · (intro w1 hSw; (try dsimp only at hSw); go_simp)
  simp only [List.getElem_toArray, List.getElem_cons_succ, List.getElem_cons_zero, Act.put, List.setIfInBounds_toArray, List.set_cons_zero, List.set_cons_succ]
  refine wpAnyH_take (i := 6) (v := .int .i64 s.ne) rfl (by kernel_rfl) (by kernel_rfl) (by kernel_rfl) (fun _ _ _ h => h) (Or.inl ⟨by rfl, ?_⟩) (by assumption) ?_
  · (intro w1 hSw; (try dsimp only at hSw); go_simp)
  simp only [List.getElem_toArray, List.getElem_cons_succ, List.getElem_cons_zero, Act.put, List.setIfInBounds_toArray, List.set_cons_zero, List.set_cons_succ]
  refine wpAnyH_take (i := 7) (v := .pointer (some ⟨w.heap.size, 3, none⟩)) rfl (by kernel_rfl) (by kernel_rfl) (by kernel_rfl) (fun _ _ _ h => h) (Or.inl ⟨by rfl, ?_⟩) (by assumption) ?_
  · (intro w1 hSw; (try dsimp only at hSw); go_simp)
  simp only [List.getElem_toArray, List.getElem_cons_succ, List.getElem_cons_zero, Act.put, List.setIfInBounds_toArray, List.set_cons_zero, List.set_cons_succ]
  refine wpAnyH_take (i := 8) (v := .int .i64 s.ma) rfl (by kernel_rfl) (by kernel_rfl) (by kernel_rfl) (fun _ _ _ h => h) (Or.inl ⟨by rfl, ?_⟩) (by assumption) ?_
  · (intro w1 hSw; (try dsimp only at hSw); go_simp)
  simp only [List.getElem_toArray, List.getElem_cons_succ, List.getElem_cons_zero, Act.put, List.setIfInBounds_toArray, List.set_cons_zero, List.set_cons_succ]
  clear c
  refine wpAnyH_ready (rs := [2]) (by kernel_rfl) (by simp) ?_
  refine AllReadyH.cons (o := _) rfl (fun K hK => ?_) AllReadyH.nil
  go_simp
  refine (runs13_any _ s.ru W (HE.out.below HB0.out) hl).mono ?_
  rintro e W2 ⟨v2, rfl, hr2, hav2, hb2⟩
  obtain ⟨va, vc, hv2, _⟩ := hr2.form
  subst hv2
  have HR2 : Hid (RuR W2 (.slice va s.ru.length vc) s.ru) := hr2
  have HB2 : Hid (Below W.heap.size W W2) := hb2
  have HAV : Hid (AboveV W.heap.size (.slice va s.ru.length vc)) := hav2
  have HX2 : Hid (W2.heap[w.heap.size]? = some (.cells #[.slice aa s.ru.length ac, .int .i64 s.lo, .int .i64 s.ne, .int .i64 s.ma] 33)) := (hb2.block _ (by omega)).trans HX.out
  have HZ2 : Hid (W2.heap[w.heap.size + 1]? = some (.cells #[.slice none 0 0, .int .i64 0, .int .i64 0, .int .i64 0] 38)) := (hb2.block _ (by omega)).trans HZ.out
  have HOne : Hid (([.slice va s.ru.length vc, .int .i64 s.lo, .int .i64 s.ne, .int .i64 s.ma] : List Value).toArray.all (·.oneCell') = true) := by unfold Hid; kernel_rfl
  clear hr2 hb2 hav2
  go_simp
  refine hK.out _ _ ?_ (fun hHeld => ?_)
  · exact four13 HX2.out
  clear hK K
  refine wpAnyH_take (i := 9) (v := .agg #[.slice va s.ru.length vc, .int .i64 s.lo, .int .i64 s.ne, .int .i64 s.ma]) rfl (by kernel_rfl) (by kernel_rfl) (by kernel_rfl) (fun _ _ _ h => h) (Or.inl ⟨by rfl, ?_⟩) (by assumption) ?_
  · (intro w1 hSw; (try dsimp only at hSw); go_simp)
  simp only [List.getElem_toArray, List.getElem_cons_succ, List.getElem_cons_zero, Act.put, List.setIfInBounds_toArray, List.set_cons_zero, List.set_cons_succ]
  refine wpAnyH_ready (rs := [10]) (by kernel_rfl) (by simp) ?_
  refine AllReadyH.cons (o := _) rfl (fun K hK => ?_) AllReadyH.nil
  refine wp_storeN _ _ _ rfl (w.heap.size + 1) 0 [.slice va s.ru.length vc, .int .i64 s.lo, .int .i64 s.ne, .int .i64 s.ma] rfl rfl _ _ HZ2.out (by simp) (by kernel_rfl) HOne.out (fun W9 hW9 => ?_)
  have HK9 := stW_all hW9 (by simp)
  have HB9 : Hid (Below w.heap.size W2 W9) := hW9.b _ (by omega)
  have HO9 : Hid (∀ k, k ≠ w.heap.size + 1 → W9.heap[k]? = W2.heap[k]?) := hW9.o
  clear hW9
  refine hK.out _ _ ?_ (fun hHeld => ?_)
  · exact four13 ((HO9.out _ (by omega)).trans HX2.out)
  clear hK K
  refine wpAnyH_done (by kernel_rfl) ?_ _
  refine NoPanic.normal ?_
  go_wp2_with fail
  refine bodyPost_ret (results_1c rfl _ _ (w.heap.size + 1) _ rfl (run_loadVar_row _ (w.heap.size + 1) _ _ _ (0, 0) _ HK9 Tryz.underlying38 rfl (by kernel_rfl))) rfl ?_
  exact ⟨_, rfl, HR2.out.keepB fun b off n c e => HO9.out b (by have := HAV.out b off n c e; omega), HB0.out.trans ((HB2.out.mono HB0.out.size).trans HB9.out)⟩
end Go.Proofs.YtilbffgpniomcaaGreatDoor

/- The reference of layer 13: Ahead, fits. -/
namespace Go.Proofs.YtilbffgpniomcaaGreatDoor
open Go.RowKit Go.Shelf

set_option maxRecDepth 100000 in
set_option maxHeartbeats 2000000 in
theorem refAhead_any (a b : Ru) (w : World) : Calls Tryz.prog 50 #[.agg #[.int .i64 a.f, .int .i64 a.l, .int .i64 a.c], .agg #[.int .i64 b.f, .int .i64 b.l, .int .i64 b.c]] w fun e w' => e = .returned (.bool (decide (ahd a b))) ∧ Below w.heap.size w w' := by
  obtain ⟨q, Hq⟩ := hid_ex (decide (ahd a b))
  rw [← Hq.out]
  obtain ⟨W, HW⟩ := hid_ex ((w.alloc (.cells #[.int .i64 a.f, .int .i64 a.l, .int .i64 a.c] 101)).alloc (.cells #[.int .i64 b.f, .int .i64 b.l, .int .i64 b.c] 101))
  have HB : Hid (Below w.heap.size w W) := by rw [HW.out]; exact ((Below.refl _ _).alloc (Nat.le_refl _) _).alloc (by simp) _
  have hX : W.heap[w.heap.size]? = some (.cells (r3L a).toArray 101) := by
    rw [HW.out]; exact (Below.heap_alloc _ _ _ (by simp)).trans (heap_alloc_new _ _)
  have hY : W.heap[w.heap.size + 1]? = some (.cells (r3L b).toArray 101) := by
    rw [HW.out]; have e := heap_alloc_new (w.alloc (.cells #[.int .i64 a.f, .int .i64 a.l, .int .i64 a.c] 101)) (.cells #[.int .i64 b.f, .int .i64 b.l, .int .i64 b.c] 101); rw [World.size_alloc] at e; exact e
  obtain ⟨c0, c1, c2⟩ := three hX
  obtain ⟨d0, d1, d2⟩ := three hY
  clear hX hY
  rw [HW.out] at c0 c1 c2 d0 d1 d2 HB
  clear HW
  by_cases h1 : a.l < b.l
  · have hq : q = true := by rw [Hq.out]; exact decide_eq_true (.inl h1)
    subst hq
    go_enter Tryz.func50, Tryz.ntmps50
    go_wp2_with fail
    go_ret
    exact ⟨rfl, HB.out⟩
  · by_cases h2 : a.l = b.l
    · have h2' : (a.l == b.l) = true := by simpa using h2
      by_cases h3 : b.f < a.f
      · have hq : q = true := by rw [Hq.out]; exact decide_eq_true (.inr ⟨h2, h3⟩)
        subst hq
        clear h2
        go_enter Tryz.func50, Tryz.ntmps50
        go_wp2_with fail
        go_ret
        exact ⟨rfl, HB.out⟩
      · have hq : q = false := by rw [Hq.out]; exact decide_eq_false (by unfold ahd; omega)
        subst hq
        clear h2
        go_enter Tryz.func50, Tryz.ntmps50
        go_wp2_with fail
        go_ret
        exact ⟨rfl, HB.out⟩
    · have h2' : (a.l == b.l) = false := by simpa using h2
      have hq : q = false := by rw [Hq.out]; exact decide_eq_false (by unfold ahd; omega)
      subst hq
      clear h2
      go_enter Tryz.func50, Tryz.ntmps50
      go_wp2_with fail
      go_ret
      exact ⟨rfl, HB.out⟩
set_option maxRecDepth 100000 in
set_option maxHeartbeats 2000000 in
theorem refFits_any (r : Ru) (ne : Int) (w : World) : Calls Tryz.prog 49 #[.agg #[.int .i64 r.f, .int .i64 r.l, .int .i64 r.c], .int .i64 ne] w fun e w' => e = .returned (.bool (decide (fitR r ne))) ∧ Below w.heap.size w w' := by
  have HF : Hid (fitR r ne ↔ (0 ≤ r.l ∧ r.l < 4 ∧ 1 ≤ r.f ∧ r.f < ne ∧ 1 ≤ r.c ∧ r.c ≤ 4096)) := Iff.rfl
  obtain ⟨q, Hq⟩ := hid_ex (decide (fitR r ne))
  rw [← Hq.out]
  have HNo : Hid (¬ (0 ≤ r.l ∧ r.l < 4 ∧ 1 ≤ r.f ∧ r.f < ne ∧ 1 ≤ r.c ∧ r.c ≤ 4096) → q = false) := fun h => by rw [Hq.out]; exact decide_eq_false h
  have HYes : Hid ((0 ≤ r.l ∧ r.l < 4 ∧ 1 ≤ r.f ∧ r.f < ne ∧ 1 ≤ r.c ∧ r.c ≤ 4096) → q = true) := fun h => by rw [Hq.out]; exact decide_eq_true h
  have HB : Hid (Below w.heap.size w (w.alloc (.cells #[.int .i64 r.f, .int .i64 r.l, .int .i64 r.c] 101))) := (Below.refl _ _).alloc (Nat.le_refl _) _
  clear HF Hq
  obtain ⟨c0, c1, c2⟩ := three (show (w.alloc (.cells #[.int .i64 r.f, .int .i64 r.l, .int .i64 r.c] 101)).heap[w.heap.size]? = some (.cells (r3L r).toArray 101) from heap_alloc_new _ _)
  by_cases h1 : 0 ≤ r.l
  · by_cases h2 : r.l ≤ 3
    · by_cases h3 : 1 ≤ r.f
      · by_cases h4 : r.f < ne
        · by_cases h5 : 1 ≤ r.c
          · by_cases h6 : r.c ≤ 4096
            · have hq := HYes.out (by omega)
              subst hq
              go_enter Tryz.func49, Tryz.ntmps49
              go_wp2_with fail
              go_ret
              exact ⟨rfl, HB.out⟩
            · have hq := HNo.out (by omega)
              subst hq
              go_enter Tryz.func49, Tryz.ntmps49
              go_wp2_with fail
              go_ret
              exact ⟨rfl, HB.out⟩
          · have hq := HNo.out (by omega)
            subst hq
            go_enter Tryz.func49, Tryz.ntmps49
            go_wp2_with fail
            go_ret
            exact ⟨rfl, HB.out⟩
        · have hq := HNo.out (by omega)
          subst hq
          go_enter Tryz.func49, Tryz.ntmps49
          go_wp2_with fail
          go_ret
          exact ⟨rfl, HB.out⟩
      · have hq := HNo.out (by omega)
        subst hq
        go_enter Tryz.func49, Tryz.ntmps49
        go_wp2_with fail
        go_ret
        exact ⟨rfl, HB.out⟩
    · have hq := HNo.out (by omega)
      subst hq
      go_enter Tryz.func49, Tryz.ntmps49
      go_wp2_with fail
      go_ret
      exact ⟨rfl, HB.out⟩
  · have hq := HNo.out (by omega)
    subst hq
    go_enter Tryz.func49, Tryz.ntmps49
    go_wp2_with fail
    go_ret
    exact ⟨rfl, HB.out⟩
end Go.Proofs.YtilbffgpniomcaaGreatDoor

/- The reference of layer 13: drop, put. -/
namespace Go.Proofs.YtilbffgpniomcaaGreatDoor
open Go.RowKit Go.Shelf

theorem elemV : Tryz.prog.elem 36 = 101 := by kernel_rfl
theorem undV : Tryz.prog.underlying 36 = some (.slice (Tryz.prog.elem 36)) := by rw [elemV]; exact Tryz.underlying36
theorem sizeV (w : World) : (sizeOf 101).run Tryz.prog w = .ok 3 w := by
  simp [sizeOf]
  rfl
theorem filt_snoc {L : List Ru} {j : Nat} (hj : j < L.length) {x : Ru} (hx : x = L[j]) (p : Ru → Bool) : (L.take (j + 1)).filter p = (L.take j).filter p ++ if p x = true then [x] else [] := by
  rw [snocU hj hx, List.filter_append]
  congr 1
  by_cases h : p x = true <;> simp [h]
def fltF (f : Int) (r : Ru) : Bool := !decide (r.f = f)
theorem filt_lt {L : List Ru} {f : Int} : decide ((L.filter (fltF f)).length < L.length) = (drop1 L f).isSome := by
  unfold drop1
  by_cases h : L.any (fun r => decide (r.f = f)) = true
  · rw [if_pos h]
    apply decide_eq_true
    rw [List.any_eq_true] at h
    obtain ⟨r, hr, hf⟩ := h
    exact List.length_filter_lt_length_iff_exists.2 ⟨r, hr, by simpa [fltF] using hf⟩
  · rw [if_neg h]
    apply decide_eq_false
    intro hl
    obtain ⟨r, hr, hf⟩ := List.length_filter_lt_length_iff_exists.1 hl
    apply h
    rw [List.any_eq_true]
    exact ⟨r, hr, by simpa [fltF] using hf⟩
theorem drop1_val {L L' : List Ru} {f : Int} (h : drop1 L f = some L') : L' = L.filter (fltF f) := by
  unfold drop1 at h
  split at h
  · simp only [Option.some.injEq] at h; exact h.symm
  · cases h
theorem UG.above {T : TypeId} {base : Nat} {w W : World} {v : Value} {L : List Ru} (h : UG T base w W v L) : AboveV base v := fun b off n c e => by
  subst e
  obtain ⟨a, c', e1, _, _, e2, _⟩ := GOwn.form h.o
  simp only [Value.slice.injEq] at e1
  have e3 := e2 _ e1.1.symm
  simp only [Addr.mk.injEq, and_true, true_and] at e3
  subst e3
  exact (h.k b rfl).1
theorem AboveV.mono {a b : Nat} {v : Value} (h : AboveV b v) (hab : a ≤ b) : AboveV a v := fun k off n c e => Nat.le_trans hab (h k off n c e)
set_option maxRecDepth 100000 in
set_option maxHeartbeats 4000000 in
theorem refDrop_any (v : Value) (L : List Ru) (f : Int) (w : World) (h : RuR w v L) (hl : L.length ≤ 100000) :
    Calls Tryz.prog 53 #[v, .int .i64 f] w fun e w' => ∃ v', e = .returned (.tuple #[v', .bool (drop1 L f).isSome]) ∧ UR w' v' (L.filter (fltF f)) ∧ AboveV w.heap.size v' ∧ Below w.heap.size w w' := by
  obtain ⟨a, cap, rfl, hm⟩ := h.form
  have HR : Hid (RuR w (.slice a L.length cap) L) := h
  obtain ⟨q, Hq⟩ := hid_ex (drop1 L f).isSome
  rw [← Hq.out]
  have HRes : Hid (q = decide ((L.filter (fltF f)).length < L.length)) := Hq.out.trans filt_lt.symm
  clear h Hq
  obtain ⟨N, HN⟩ : ∃ n, Hid (L.length = n) := ⟨_, rfl⟩
  rw [HN.out] at HR hl HRes ⊢
  go_enter Tryz.func53, Tryz.ntmps53
  go_wp2_with fail
  go_loopw [6, 7] (fun o i wr => ∃ j : Nat, i = .int .i64 (j : Int) ∧ j ≤ N ∧ w.heap.size ≤ wr.heap.size ∧ Hid (UG 101 w.heap.size w wr o ((L.take j).filter (fltF f)))) (fun _ i _ => N - (intOf i).toNat)
  case atStart => exact ⟨0, rfl, by omega, Nat.le_refl _, ⟨⟨rfl, .inl ⟨rfl, rfl⟩⟩, fun k e => by simp [Value.ownBlock] at e, Below.refl _ _⟩⟩
  case round =>
    obtain ⟨j, rfl, hj, hsz, HU⟩ := hrel
    by_cases hlt : j < N
    · have hlt' : (j : Int) < (N : Int) := by omega
      have hjl : j < L.length := by rw [HN.out]; exact hlt
      obtain ⟨r, Hr⟩ := hid_ex L[j]
      have HFs : Hid ((L.take (j + 1)).filter (fltF f) = (L.take j).filter (fltF f) ++ if fltF f r = true then [r] else []) := filt_snoc hjl Hr.out _
      obtain ⟨b, off, rfl, hbw, c0, c1, c2⟩ := (HR.out.below HU.out.b).at hjl Hr.out
      have HLm : Hid (((L.take j).filter (fltF f)).length < 1000000) := by
        have h1 := List.length_filter_le (fltF f) (L.take j)
        have h2 := List.length_take_le' j L
        show ((L.take j).filter (fltF f)).length < 1000000
        have := HN.out
        omega
      by_cases hf : r.f = f
      · have hf' : (r.f != f) = false := by simpa using hf
        have HU2 : Hid (UG 101 w.heap.size w wr u6 ((L.take (j + 1)).filter (fltF f))) := by
          unfold Hid; rw [HFs.out, if_neg (by simp [fltF, hf]), List.append_nil]; exact HU.out
        clear hf
        go_wp2_with fail
        go_roundw
        case rel => exact ⟨j + 1, by go_num, by omega, hsz, HU2⟩
        case measure => simp [intOf]; omega
      · have hf' : (r.f != f) = true := by simpa using hf
        obtain ⟨v3, w3, hrun, hu3, hs3⟩ := HU.out.app hsz r HLm.out
        have HU3 : Hid (UG 101 w.heap.size w w3 v3 ((L.take (j + 1)).filter (fltF f))) := by
          unfold Hid; rw [HFs.out, if_pos (by simp [fltF, hf])]; exact hu3
        obtain ⟨oa, oc, hov, -⟩ := GOwn.form HU.out.o
        obtain ⟨M, HM⟩ : ∃ n, Hid (((L.take j).filter (fltF f)).length = n) := ⟨_, rfl⟩
        rw [HM.out] at hov
        subst hov
        clear hf hu3
        go_wp2_with (at_builtin; refine wpList_app_runG rfl _ _ 36 36 rfl rfl _ _ _ rfl rfl hrun ?_)
        go_roundw
        case rel => exact ⟨j + 1, by go_num, by omega, hs3, HU3⟩
        case measure => simp [intOf]; omega
    · have hlt' : ¬ (j : Int) < (N : Int) := by omega
      have HE : Hid (UG 101 w.heap.size w wr u6 (L.filter (fltF f))) := by
        have := HU.out
        rwa [List.take_of_length_le (by rw [HN.out]; omega)] at this
      obtain ⟨oa, oc, hov, -⟩ := GOwn.form HE.out.o
      obtain ⟨M, HM⟩ : ∃ n, Hid ((L.filter (fltF f)).length = n) := ⟨_, rfl⟩
      rw [HM.out] at hov
      rw [HM.out] at HRes
      subst hov
      have HM9 : Hid (M = (L.filter (fltF f)).length) := HM.out.symm
      clear HM
      by_cases hMN : (M : Int) < (N : Int)
      · obtain rfl : q = true := HRes.out.trans (decide_eq_true (by omega))
        go_wp2_with fail
        go_ret2
        exact ⟨_, rfl, gown_ur HE.out.o, HE.out.above, HE.out.b⟩
      · obtain rfl : q = false := HRes.out.trans (decide_eq_false (by omega))
        go_wp2_with fail
        go_ret2
        exact ⟨_, rfl, gown_ur HE.out.o, HE.out.above, HE.out.b⟩
/-- Where a run is put. -/
theorem putR_at (r : Ru) : ∀ (L : List Ru) (k : Nat) (_ : k ≤ L.length), (∀ j (hj : j < L.length), j < k → ahd L[j] r) → (∀ (h : k < L.length), ¬ ahd L[k] r) → putR r L = L.take k ++ r :: L.drop k
  | [], k, hk, _, _ => by simp at hk; subst hk; rfl
  | a :: L, 0, _, _, h2 => by
    have := h2 (by simp)
    unfold putR
    rw [if_neg (by simpa using this)]; rfl
  | a :: L, k + 1, hk, h1, h2 => by
    have h0 := h1 0 (by simp) (by omega)
    unfold putR
    rw [if_pos (by simpa using h0), putR_at r L k (by simpa using hk) (fun j hj hjk => h1 (j + 1) (by simpa using hj) (by omega)) (fun h => h2 (by simpa using h))]
    simp
/-- A row with others put behind it. -/
theorem UG.apps {base : Nat} {w W : World} {v : Value} {L : List Ru} (h : UG 101 base w W v L) (hs : base ≤ W.heap.size) {av : Value} {a : List Ru} (ha : UR W av a) (hl : L.length ≤ 100000) (hl2 : a.length ≤ 100000) :
    ∃ v' w', (Builtin.append_ #[36, 36] 36 #[v, av]).run Tryz.prog W = .ok v' w' ∧ UG 101 base w w' v' (L ++ a) ∧ base ≤ w'.heap.size := by
  obtain ⟨i0, hi, hz0, hz1, hz2⟩ := info_parts infoV13
  obtain ⟨aa, ac, hav, _⟩ := ha.r.form
  have hsr : GSrc W 3 av a.length (a.flatMap r3L) := by
    refine ⟨fl3_len a, ?_⟩
    cases aa with
    | none =>
      left
      have hc := ha.z _ _ hav
      have hl : a.length = 0 := by
        rcases Nat.eq_zero_or_pos a.length with h | h
        · exact h
        · have hr := ha.r
          rw [hav] at hr
          obtain ⟨b, off, e, _⟩ := hr.at h rfl
          cases e
      rw [hav, hc, hl]; exact ⟨rfl, rfl⟩
    | some ad =>
      right
      refine ⟨ad, ac, hav, fun j u hj => ?_⟩
      rcases Nat.eq_zero_or_pos a.length with h | h
      · rw [List.length_eq_zero_iff.1 h] at hj; simp at hj
      · have hr := ha.r
        rw [hav] at hr
        obtain ⟨b, off, e, _⟩ := hr.at h rfl
        simp only [Option.some.injEq] at e
        subst e
        exact news_fl3 hr j u hj
  obtain ⟨v', w', g1, g2, g3, g4⟩ := run_gapp (P := Tryz.prog) 36 36 101 i0 _ 3 24 Tryz.underlying36 hi hz0 hz1 hz2 rfl v L.length _ h.o av a.length _ hsr (one_fl3 a) (by simp only [maxLen]; omega) (by omega)
  have hsz := g3.size
  refine ⟨v', w', g1, ⟨?_, fun k q => ?_, h.b.grown g3 hs fun k e => (h.k k e).1⟩, by omega⟩
  · rw [List.length_append, List.flatMap_append]; exact g2
  · rcases g4 k q with z | z
    · have := h.k k z; omega
    · omega
/-- Parts of a slice of the reference's runs. -/
theorem vsl_upto {w : World} {a : Option Addr} {N cap : Nat} {L : List Ru} (h : UR w (.slice a N cap) L) (hN : L.length = N) {d : Nat} (hd : d ≤ N) :
    ∃ a' cap', (∀ w', (Instr.slice 36 (.slice a N cap) none (some (.int .i64 (d : Int))) none).run Tryz.prog w' = .ok (.slice a' d cap') w') ∧ UR w (.slice a' d cap') (L.take d) := by
  obtain ⟨h1, h2⟩ := h.c _ _ _ rfl
  unfold maxLen at h2
  have hl : (L.take d).length = d := by rw [List.length_take]; omega
  cases a with
  | none =>
    have hc := h.z _ _ rfl
    have hN0 : N = 0 := by omega
    have hd0 : d = 0 := by omega
    subst hc
    refine ⟨none, 0, fun w' => ?_, ?_⟩
    · rw [run_slice_h _ _ _ _ _ undV _ _ (by omega) (by omega), elemV, sizeV]
      rfl
    · subst hd0
      simpa using ur_nil w
  | some ad =>
    obtain ⟨b, off, spot⟩ := ad
    refine ⟨some ⟨b, off, spot⟩, cap, fun w' => ?_, ⟨?_, fun a n c e => ?_, fun n c e => by simp at e⟩⟩
    · rw [run_slice_h _ _ _ _ _ undV _ _ (by omega) (by omega), elemV, sizeV]
      show Result.ok (Go.sliced (some ⟨b, off, spot⟩) 0 d cap 3) w' = _
      unfold Go.sliced
      congr 2
      split <;> simp [Addr.add]
    · obtain ⟨a', c, e, h3, h4⟩ := h.r
      refine ⟨_, cap, by rw [hl], by rw [hl]; unfold maxLen; omega, fun j hj => ?_⟩
      rw [hl] at hj
      obtain ⟨b', off', e2, q⟩ := h4 j (by omega)
      simp only [Value.slice.injEq] at e
      rw [← e.1] at e2
      refine ⟨b', off', e2, ?_⟩
      simpa using q
    · simp only [Value.slice.injEq] at e
      unfold maxLen
      omega
theorem vsl_from {w : World} {a : Option Addr} {N cap : Nat} {L : List Ru} (h : UR w (.slice a N cap) L) (hN : L.length = N) {d : Nat} (hd : d ≤ N) :
    ∃ a' cap', (∀ w', (Instr.slice 36 (.slice a N cap) (some (.int .i64 (d : Int))) none none).run Tryz.prog w' = .ok (.slice a' (N - d) cap') w') ∧ UR w (.slice a' (N - d) cap') (L.drop d) := by
  obtain ⟨h1, h2⟩ := h.c _ _ _ rfl
  unfold maxLen at h2
  have hl : (L.drop d).length = N - d := by rw [List.length_drop, hN]
  cases a with
  | none =>
    have hc := h.z _ _ rfl
    subst hc
    have hN0 : N = 0 := by omega
    subst hN0
    have hd0 : d = 0 := by omega
    subst hd0
    have hL : L = [] := List.length_eq_zero_iff.1 hN
    subst hL
    refine ⟨none, 0, fun w' => ?_, by simpa using ur_nil w⟩
    rw [run_slice_l _ _ _ _ _ undV _ _ (by omega) (by omega), elemV, sizeV]
    rfl
  | some ad =>
    obtain ⟨a', ha⟩ : ∃ a', (if cap = d then some ad else (some ad).map (·.add (d * 3))) = some a' := by split <;> exact ⟨_, rfl⟩
    refine ⟨some a', cap - d, fun w' => ?_, ⟨⟨_, cap - d, by rw [hl], by rw [hl]; unfold maxLen; omega, fun j hj => ?_⟩, fun a n c e => ?_, fun n c e => by simp at e⟩⟩
    · rw [run_slice_l _ _ _ _ _ undV _ _ (by omega) (by omega), elemV, sizeV]
      show Result.ok (Go.sliced (some ad) d N cap 3) w' = _
      unfold Go.sliced
      rw [ha]
    · rw [hl] at hj
      rw [if_neg (by omega)] at ha
      simp only [Option.map_some, Option.some.injEq] at ha
      obtain ⟨b, off, e, hb, q0, q1, q2⟩ := h.r.at (j := d + j) (by omega) rfl
      simp only [Option.some.injEq] at e
      subst e
      have ea : (⟨b, off, none⟩ : Addr).add (d * 3) = ⟨b, off + d * 3, none⟩ := by simp [Addr.add]
      rw [ea] at ha
      subst ha
      have e9 : off + (d + j) * 3 = off + d * 3 + j * 3 := by omega
      rw [e9] at q0 q1 q2
      refine ⟨b, off + d * 3, rfl, hb, ?_, ?_, ?_⟩ <;> simp only [List.getElem_drop]
      · exact q0
      · exact q1
      · exact q2
    · simp only [Value.slice.injEq] at e
      unfold maxLen
      omega
end Go.Proofs.YtilbffgpniomcaaGreatDoor

/- The reference of layer 13: put. -/
namespace Go.Proofs.YtilbffgpniomcaaGreatDoor
open Go.RowKit Go.Shelf

set_option maxRecDepth 100000 in
set_option maxHeartbeats 4000000 in
theorem refPut_any (v : Value) (L : List Ru) (r : Ru) (w : World) (h : UR w v L) (hl : L.length ≤ 10000) :
    Calls Tryz.prog 54 #[v, .agg #[.int .i64 r.f, .int .i64 r.l, .int .i64 r.c]] w fun e w' => ∃ v', e = .returned v' ∧ UR w' v' (putR r L) ∧ AboveV w.heap.size v' ∧ Below w.heap.size w w' := by
  obtain ⟨a, cap, rfl, hm⟩ := h.r.form
  have HU : Hid (UR w (.slice a L.length cap) L) := h
  clear h hm
  obtain ⟨N, HN⟩ : ∃ n, Hid (L.length = n) := ⟨_, rfl⟩
  rw [HN.out] at HU hl ⊢
  have hX0 : (w.alloc (.cells #[.int .i64 r.f, .int .i64 r.l, .int .i64 r.c] 101)).heap[w.heap.size]? = some (.cells (r3L r).toArray 101) := heap_alloc_new _ _
  have HX0 : Hid ((w.alloc (.cells #[.int .i64 r.f, .int .i64 r.l, .int .i64 r.c] 101)).heap[w.heap.size]? = some (.cells (r3L r).toArray 101)) := hX0
  have HB0 : Hid (Below w.heap.size w (w.alloc (.cells #[.int .i64 r.f, .int .i64 r.l, .int .i64 r.c] 101))) := (Below.refl _ _).alloc (Nat.le_refl _) _
  have HZ0 : Hid ((w.alloc (.cells #[.int .i64 r.f, .int .i64 r.l, .int .i64 r.c] 101)).heap.size = w.heap.size + 1) := by unfold Hid; simp
  clear hX0
  go_enter Tryz.func54, Tryz.ntmps54
  go_wp2_with fail
  generalize w.alloc (.cells #[.int .i64 r.f, .int .i64 r.l, .int .i64 r.c] 101) = w0 at *
  go_loopw [5] (fun i wr => ∃ j : Nat, i = .int .i64 (j : Int) ∧ j ≤ N ∧ Hid (∀ k (hk : k < L.length), k < j → ahd L[k] r) ∧ Hid (Below w0.heap.size w0 wr)) (fun i _ => N - (intOf i).toNat)
  case atStart => exact ⟨0, rfl, by omega, fun k hk h => absurd h (by omega), Below.refl _ _⟩
  case round =>
    obtain ⟨j, rfl, hj, HP, HB⟩ := hrel
    have hz0 := HZ0.out
    have HBw : Hid (Below w.heap.size w wr) := HB0.out.trans (HB.out.mono HB0.out.size)
    have HX : Hid (wr.heap[w.heap.size]? = some (.cells (r3L r).toArray 101)) := (HB.out.block _ (by omega)).trans HX0.out
    have hwl : w.heap.size < wr.heap.size := (Array.getElem?_eq_some_iff.1 HX.out).1
    have HTail : Hid ((∀ (h : j < L.length), ¬ ahd L[j] r) → putR r L = (L.take j ++ [r]) ++ L.drop j) := fun h => by
      rw [putR_at r L j (by rw [HN.out]; exact hj) HP.out h]; simp
    -- the three appends
    have HEnd : Hid (∀ wd : World, Below wr.heap.size wr wd → ∃ a1 c1 v1 W1 v2 W2 a3 c3 v3 W3, (∀ w', (Instr.slice 36 (.slice a N cap) none (some (.int .i64 (j : Int))) none).run Tryz.prog w' = .ok (.slice a1 j c1) w') ∧ (Builtin.append_ #[36, 36] 36 #[.slice none 0 0, .slice a1 j c1]).run Tryz.prog wd = .ok v1 W1 ∧ (W1.heap[w.heap.size]? = some (.cells (r3L r).toArray 101)) ∧
        (Builtin.append_ #[36, 36] 36 #[v1, .slice (some ⟨W1.heap.size, 0, none⟩) 1 1]).run Tryz.prog (W1.alloc (.cells #[.int .i64 r.f, .int .i64 r.l, .int .i64 r.c] 101)) = .ok v2 W2 ∧ (∀ w', (Instr.slice 36 (.slice a N cap) (some (.int .i64 (j : Int))) none none).run Tryz.prog w' = .ok (.slice a3 (N - j) c3) w') ∧
        (Builtin.append_ #[36, 36] 36 #[v2, .slice a3 (N - j) c3]).run Tryz.prog W2 = .ok v3 W3 ∧ UR W3 v3 ((L.take j ++ [r]) ++ L.drop j) ∧ AboveV w.heap.size v3 ∧ Below w.heap.size w W3) := fun wd hbd => by
      have hBd : Below w.heap.size w wd := HBw.out.trans (hbd.mono HBw.out.size)
      have hs0 : w0.heap.size ≤ wd.heap.size := Nat.le_trans HB.out.size hbd.size
      have hU0 : UG 101 w0.heap.size wd wd (.slice none 0 0) [] := ⟨⟨rfl, .inl ⟨rfl, rfl⟩⟩, fun k e => by simp [Value.ownBlock] at e, Below.refl _ _⟩
      obtain ⟨a1, c1, hs1, hu1⟩ := vsl_upto (HU.out.below hBd) HN.out hj
      obtain ⟨v1, W1, g1, g2, g3⟩ := hU0.apps hs0 hu1 (by simp) (by rw [List.length_take]; have := HN.out; omega)
      rw [List.nil_append] at g2
      have hX1 : W1.heap[w.heap.size]? = some (.cells (r3L r).toArray 101) := (g2.b.block _ (by omega)).trans ((hbd.block _ hwl).trans HX.out)
      obtain ⟨v2, W2, k1, k2, k3⟩ := g2.app g3 r (by rw [List.length_take]; have := HN.out; omega)
      have hB2 : Below w.heap.size w W2 := hBd.trans (k2.b.mono (by omega))
      obtain ⟨a3, c3, hs3, hu3⟩ := vsl_from (HU.out.below hB2) HN.out hj
      obtain ⟨v3, W3, m1, m2, m3⟩ := k2.apps k3 hu3 (by rw [List.length_append, List.length_take]; have := HN.out; simp; omega) (by rw [List.length_drop]; have := HN.out; omega)
      exact ⟨a1, c1, v1, W1, v2, W2, a3, c3, v3, W3, hs1, g1, hX1, k1, hs3, m1, gown_ur m2.o, m2.above.mono (by omega), hBd.trans (m2.b.mono (by omega))⟩
    by_cases hlt : j < N
    · have hlt' : (j : Int) < (N : Int) := by omega
      have hjl : j < L.length := by rw [HN.out]; exact hlt
      obtain ⟨q, Hq⟩ := hid_ex L[j]
      obtain ⟨b, off, rfl, hbw, f0, f1, f2⟩ := (HU.out.below HBw.out).r.at hjl Hq.out
      obtain ⟨g0, g1, g2⟩ := three HX.out
      have HC : Hid ((wr.drew.cell? ⟨b, off + j * 3, none⟩ = some (.int .i64 q.f) ∧ wr.drew.cell? ⟨b, off + j * 3 + 1, none⟩ = some (.int .i64 q.l) ∧ wr.drew.cell? ⟨b, off + j * 3 + 2, none⟩ = some (.int .i64 q.c)) ∧ wr.drew.cell? ⟨w.heap.size, 0, none⟩ = some (.int .i64 r.f) ∧ wr.drew.cell? ⟨w.heap.size, 1, none⟩ = some (.int .i64 r.l) ∧ wr.drew.cell? ⟨w.heap.size, 2, none⟩ = some (.int .i64 r.c)) := ⟨⟨f0, f1, f2⟩, g0, g1, g2⟩
      clear f0 f1 f2 g0 g1 g2
      go_wp2_with fail
      refine wp_region_noPanic ?_
      refine wp_region_held_drew (S := fun w' => (w'.cell? ⟨b, off + j * 3, none⟩ = some (.int .i64 q.f) ∧ w'.cell? ⟨b, off + j * 3 + 1, none⟩ = some (.int .i64 q.l) ∧ w'.cell? ⟨b, off + j * 3 + 2, none⟩ = some (.int .i64 q.c)) ∧ w'.cell? ⟨w.heap.size, 0, none⟩ = some (.int .i64 r.f) ∧ w'.cell? ⟨w.heap.size, 1, none⟩ = some (.int .i64 r.l) ∧ w'.cell? ⟨w.heap.size, 2, none⟩ = some (.int .i64 r.c)) (by kernel_rfl) ?_ (fun hHeld => ?_)
      · exact HC.out
      refine wpAnyH_take (i := 0) (v := .int .i64 (j : Int)) rfl (by kernel_rfl) (by kernel_rfl) (by kernel_rfl) (fun _ _ _ h => h) (Or.inl ⟨by rfl, ?_⟩) (by assumption) ?_
      · (intro w1 hSw; (try dsimp only at hSw); go_simp)
      simp only [List.getElem_toArray, List.getElem_cons_zero, Act.put, List.setIfInBounds_toArray, List.set_cons_zero, List.set_cons_succ]
      refine wpAnyH_take (i := 1) (v := .slice (some ⟨b, off, none⟩) N cap) rfl (by kernel_rfl) (by kernel_rfl) (by kernel_rfl) (fun _ _ _ h => h) (Or.inl ⟨by rfl, ?_⟩) (by assumption) ?_
      · (intro w1 hSw; (try dsimp only at hSw); go_simp)
      simp only [List.getElem_toArray, List.getElem_cons_succ, List.getElem_cons_zero, Act.put, List.setIfInBounds_toArray, List.set_cons_zero, List.set_cons_succ]
      refine wpAnyH_take (i := 2) (v := .int .i64 (N : Int)) rfl (by kernel_rfl) (by kernel_rfl) (by kernel_rfl) (fun _ _ _ h => h) (Or.inl ⟨by rfl, ?_⟩) (by assumption) ?_
      · (intro w1 hSw; (try dsimp only at hSw); go_simp)
      simp only [List.getElem_toArray, List.getElem_cons_succ, List.getElem_cons_zero, Act.put, List.setIfInBounds_toArray, List.set_cons_zero, List.set_cons_succ]
      refine wpAnyH_take (i := 3) (v := .bool true) rfl (by kernel_rfl) (by kernel_rfl) (by kernel_rfl) (fun _ _ _ h => h) (Or.inl ⟨by rfl, ?_⟩) (by assumption) ?_
      · (intro w1 hSw; (try dsimp only at hSw); go_simp)
      simp only [List.getElem_toArray, List.getElem_cons_succ, List.getElem_cons_zero, Act.put, List.setIfInBounds_toArray, List.set_cons_zero, List.set_cons_succ]
      refine wpAnyH_take (i := 4) (v := .bool true) rfl (by kernel_rfl) (by kernel_rfl) (by kernel_rfl) (fun _ _ _ h => h) (Or.inl ⟨by rfl, ?_⟩) (by assumption) ?_
      · (intro w1 hSw; (try dsimp only at hSw); go_simp)
      simp only [List.getElem_toArray, List.getElem_cons_succ, List.getElem_cons_zero, Act.put, List.setIfInBounds_toArray, List.set_cons_zero, List.set_cons_succ]
      refine wpAnyH_take (i := 5) (v := .slice (some ⟨b, off, none⟩) N cap) rfl (by kernel_rfl) (by kernel_rfl) (by kernel_rfl) (fun _ _ _ h => h) (Or.inl ⟨by rfl, ?_⟩) (by assumption) ?_
      · (intro w1 hSw; (try dsimp only at hSw); go_simp)
      simp only [List.getElem_toArray, List.getElem_cons_succ, List.getElem_cons_zero, Act.put, List.setIfInBounds_toArray, List.set_cons_zero, List.set_cons_succ]
      refine wpAnyH_take (i := 6) (v := .int .i64 (j : Int)) rfl (by kernel_rfl) (by kernel_rfl) (by kernel_rfl) (fun _ _ _ h => h) (Or.inl ⟨by rfl, ?_⟩) (by assumption) ?_
      · (intro w1 hSw; (try dsimp only at hSw); go_simp)
      simp only [List.getElem_toArray, List.getElem_cons_succ, List.getElem_cons_zero, Act.put, List.setIfInBounds_toArray, List.set_cons_zero, List.set_cons_succ]
      refine wpAnyH_take (i := 7) (v := .pointer (some ⟨b, off + j * 3, none⟩)) rfl (by kernel_rfl) (by kernel_rfl) (by kernel_rfl) (fun _ _ _ h => h) (Or.inl ⟨by rfl, ?_⟩) (by assumption) ?_
      · (intro w1 hSw; (try dsimp only at hSw); go_simp)
      simp only [List.getElem_toArray, List.getElem_cons_succ, List.getElem_cons_zero, Act.put, List.setIfInBounds_toArray, List.set_cons_zero, List.set_cons_succ]
      refine wpAnyH_take (i := 8) (v := .agg #[.int .i64 q.f, .int .i64 q.l, .int .i64 q.c]) rfl (by kernel_rfl) (by kernel_rfl) (by kernel_rfl) (fun _ _ _ h => h) (Or.inl ⟨by rfl, ?_⟩) (by assumption) ?_
      · (intro w1 hSw; (try dsimp only at hSw); go_simp)
      simp only [List.getElem_toArray, List.getElem_cons_succ, List.getElem_cons_zero, Act.put, List.setIfInBounds_toArray, List.set_cons_zero, List.set_cons_succ]
      refine wpAnyH_take (i := 9) (v := .agg #[.int .i64 r.f, .int .i64 r.l, .int .i64 r.c]) rfl (by kernel_rfl) (by kernel_rfl) (by kernel_rfl) (fun _ _ _ h => h) (Or.inl ⟨by rfl, ?_⟩) (by assumption) ?_
      · (intro w1 hSw; (try dsimp only at hSw); go_simp)
      simp only [List.getElem_toArray, List.getElem_cons_succ, List.getElem_cons_zero, Act.put, List.setIfInBounds_toArray, List.set_cons_zero, List.set_cons_succ]
      refine wpAnyH_ready (rs := [10]) (by kernel_rfl) (by simp) ?_
      refine AllReadyH.cons (o := _) rfl (fun K hK => ?_) AllReadyH.nil
      go_simp
      refine (refAhead_any q r _).mono ?_
      rintro e w2 ⟨rfl, hb2⟩
      have HBd : Hid (Below wr.heap.size wr w2) := (Below.refl wr.heap.size wr).drew.trans hb2
      have HC2 : Hid ((w2.cell? ⟨b, off + j * 3, none⟩ = some (.int .i64 q.f) ∧ w2.cell? ⟨b, off + j * 3 + 1, none⟩ = some (.int .i64 q.l) ∧ w2.cell? ⟨b, off + j * 3 + 2, none⟩ = some (.int .i64 q.c)) ∧ w2.cell? ⟨w.heap.size, 0, none⟩ = some (.int .i64 r.f) ∧ w2.cell? ⟨w.heap.size, 1, none⟩ = some (.int .i64 r.l) ∧ w2.cell? ⟨w.heap.size, 2, none⟩ = some (.int .i64 r.c)) :=
        ⟨⟨(hb2.cell (p := ⟨b, _, none⟩) hbw).trans HC.out.1.1, (hb2.cell (p := ⟨b, _, none⟩) hbw).trans HC.out.1.2.1, (hb2.cell (p := ⟨b, _, none⟩) hbw).trans HC.out.1.2.2⟩, (hb2.cell (p := ⟨w.heap.size, _, none⟩) hwl).trans HC.out.2.1, (hb2.cell (p := ⟨w.heap.size, _, none⟩) hwl).trans HC.out.2.2.1, (hb2.cell (p := ⟨w.heap.size, _, none⟩) hwl).trans HC.out.2.2.2⟩
      clear hb2 HC
      by_cases hah : ahd q r
      · rw [decide_eq_true hah]
        have HP2 : Hid (∀ k (hk : k < L.length), k < j + 1 → ahd L[k] r) := fun k hk hkj => by
          rcases Nat.lt_or_ge k j with h9 | h9
          · exact HP.out k hk h9
          · obtain rfl : k = j := by omega
            rw [← Hq.out]; exact hah
        have HB2 : Hid (Below w0.heap.size w0 w2) := HB.out.trans (HBd.out.mono HB.out.size)
        clear hah HEnd HTail
        go_simp
        refine hK.out _ _ ?_ (fun hHeld => ?_)
        · exact HC2.out
        clear hK K
        refine wpAnyH_take (i := 11) (v := .bool true) rfl (by kernel_rfl) (by kernel_rfl) (by kernel_rfl) (fun _ _ _ h => h) (Or.inl ⟨by rfl, ?_⟩) (by assumption) ?_
        · (intro w1 hSw; (try dsimp only at hSw); go_simp)
        simp only [List.getElem_toArray, List.getElem_cons_succ, List.getElem_cons_zero, Act.put, List.setIfInBounds_toArray, List.set_cons_zero, List.set_cons_succ]
        refine wpAnyH_done (by kernel_rfl) ?_ _
        refine NoPanic.normal ?_
        clear HC2
        go_wp2_with fail
        go_roundw
        case rel => exact ⟨j + 1, by go_num, by omega, HP2, HB2⟩
        case measure => simp [intOf]; omega
      · rw [decide_eq_false hah]
        have HT : Hid (putR r L = (L.take j ++ [r]) ++ L.drop j) := HTail.out fun _ => by rw [← Hq.out]; exact hah
        obtain ⟨a1, c1, v1, W1, v2, W2, a3, c3, v3, W3, hs1, r1, hx1, r2, hs3, r3, hu3, ha3, hb3⟩ := HEnd.out w2 HBd.out
        have HU3 : Hid (UR W3 v3 (putR r L)) := by unfold Hid; rw [HT.out]; exact hu3
        have HB3 : Hid (Below w.heap.size w W3) := hb3
        have HA3 : Hid (AboveV w.heap.size v3) := ha3
        obtain ⟨z0, z1, z2⟩ := three hx1
        clear hah HEnd HTail hx1 hu3 ha3 hb3
        go_simp
        refine hK.out _ _ ?_ (fun hHeld => ?_)
        · exact HC2.out
        clear hK K
        refine wpAnyH_take (i := 11) (v := .bool false) rfl (by kernel_rfl) (by kernel_rfl) (by kernel_rfl) (fun _ _ _ h => h) (Or.inl ⟨by rfl, ?_⟩) (by assumption) ?_
        · (intro w1 hSw; (try dsimp only at hSw); go_simp)
        simp only [List.getElem_toArray, List.getElem_cons_succ, List.getElem_cons_zero, Act.put, List.setIfInBounds_toArray, List.set_cons_zero, List.set_cons_succ]
        refine wpAnyH_done (by kernel_rfl) ?_ _
        refine NoPanic.normal ?_
        clear HC2
        go_wp2_with (at_builtin; first | (refine wpList_app_runG rfl _ _ 36 36 rfl rfl _ _ _ rfl rfl r1 ?_; clear r1) | (refine wpList_app_runG rfl _ _ 36 36 rfl rfl _ _ _ rfl rfl r2 ?_; clear r2) | (refine wpList_app_runG rfl _ _ 36 36 rfl rfl _ _ _ rfl rfl r3 ?_; clear r3))
        go_ret
        exact ⟨_, rfl, HU3.out, HA3.out, HB3.out⟩
    · have hlt' : ¬ (j : Int) < (N : Int) := by omega
      have HT : Hid (putR r L = (L.take j ++ [r]) ++ L.drop j) := HTail.out fun h => absurd h (by rw [HN.out]; exact hlt)
      obtain ⟨a1, c1, v1, W1, v2, W2, a3, c3, v3, W3, hs1, r1, hx1, r2, hs3, r3, hu3, ha3, hb3⟩ := HEnd.out wr.drew (Below.refl _ _).drew
      have HU3 : Hid (UR W3 v3 (putR r L)) := by unfold Hid; rw [HT.out]; exact hu3
      have HB3 : Hid (Below w.heap.size w W3) := hb3
      have HA3 : Hid (AboveV w.heap.size v3) := ha3
      obtain ⟨z0, z1, z2⟩ := three hx1
      clear HEnd HTail hx1 hu3 ha3 hb3
      go_wp2_with fail
      refine wp_region_noPanic ?_
      refine wp_region_held_drew (S := fun _ => True) (by kernel_rfl) ?_ (fun hHeld => ?_)
      · trivial
      refine wpAnyH_take (i := 0) (v := .int .i64 (j : Int)) rfl (by kernel_rfl) (by kernel_rfl) (by kernel_rfl) (fun _ _ _ h => h) (Or.inl ⟨by rfl, ?_⟩) (by assumption) ?_
      · (intro w1 hSw; (try dsimp only at hSw); go_simp)
      simp only [List.getElem_toArray, List.getElem_cons_zero, Act.put, List.setIfInBounds_toArray, List.set_cons_zero, List.set_cons_succ]
      refine wpAnyH_take (i := 1) (v := .slice a N cap) rfl (by kernel_rfl) (by kernel_rfl) (by kernel_rfl) (fun _ _ _ h => h) (Or.inl ⟨by rfl, ?_⟩) (by assumption) ?_
      · (intro w1 hSw; (try dsimp only at hSw); go_simp)
      simp only [List.getElem_toArray, List.getElem_cons_succ, List.getElem_cons_zero, Act.put, List.setIfInBounds_toArray, List.set_cons_zero, List.set_cons_succ]
      refine wpAnyH_take (i := 2) (v := .int .i64 (N : Int)) rfl (by kernel_rfl) (by kernel_rfl) (by kernel_rfl) (fun _ _ _ h => h) (Or.inl ⟨by rfl, ?_⟩) (by assumption) ?_
      · (intro w1 hSw; (try dsimp only at hSw); go_simp)
      simp only [List.getElem_toArray, List.getElem_cons_succ, List.getElem_cons_zero, Act.put, List.setIfInBounds_toArray, List.set_cons_zero, List.set_cons_succ]
      refine wpAnyH_take (i := 3) (v := .bool false) rfl (by kernel_rfl) (by kernel_rfl) (by kernel_rfl) (fun _ _ _ h => h) (Or.inl ⟨by rfl, ?_⟩) (by assumption) ?_
      · (intro w1 hSw; (try dsimp only at hSw); go_simp)
      simp only [List.getElem_toArray, List.getElem_cons_succ, List.getElem_cons_zero, Act.put, List.setIfInBounds_toArray, List.set_cons_zero, List.set_cons_succ]
      refine wpAnyH_take (i := 4) (v := .bool false) rfl (by kernel_rfl) (by kernel_rfl) (by kernel_rfl) (fun _ _ _ h => h) (Or.inl ⟨by rfl, ?_⟩) (by assumption) ?_
      · (intro w1 hSw; (try dsimp only at hSw); go_simp)
      simp only [List.getElem_toArray, List.getElem_cons_succ, List.getElem_cons_zero, Act.put, List.setIfInBounds_toArray, List.set_cons_zero, List.set_cons_succ]
      refine wpAnyH_take (i := 5) (v := undef) rfl (by kernel_rfl) (by kernel_rfl) (by kernel_rfl) (fun _ _ _ h => h) (Or.inr ⟨by rfl, rfl⟩) (by assumption) ?_
      simp only [List.getElem_toArray, List.getElem_cons_succ, List.getElem_cons_zero, Act.put, List.setIfInBounds_toArray, List.set_cons_zero, List.set_cons_succ]
      refine wpAnyH_take (i := 6) (v := undef) rfl (by kernel_rfl) (by kernel_rfl) (by kernel_rfl) (fun _ _ _ h => h) (Or.inr ⟨by rfl, rfl⟩) (by assumption) ?_
      simp only [List.getElem_toArray, List.getElem_cons_succ, List.getElem_cons_zero, Act.put, List.setIfInBounds_toArray, List.set_cons_zero, List.set_cons_succ]
      refine wpAnyH_take (i := 7) (v := undef) rfl (by kernel_rfl) (by kernel_rfl) (by kernel_rfl) (fun _ _ _ h => h) (Or.inr ⟨by rfl, rfl⟩) (by assumption) ?_
      simp only [List.getElem_toArray, List.getElem_cons_succ, List.getElem_cons_zero, Act.put, List.setIfInBounds_toArray, List.set_cons_zero, List.set_cons_succ]
      refine wpAnyH_take (i := 8) (v := undef) rfl (by kernel_rfl) (by kernel_rfl) (by kernel_rfl) (fun _ _ _ h => h) (Or.inr ⟨by rfl, rfl⟩) (by assumption) ?_
      simp only [List.getElem_toArray, List.getElem_cons_succ, List.getElem_cons_zero, Act.put, List.setIfInBounds_toArray, List.set_cons_zero, List.set_cons_succ]
      refine wpAnyH_take (i := 9) (v := undef) rfl (by kernel_rfl) (by kernel_rfl) (by kernel_rfl) (fun _ _ _ h => h) (Or.inr ⟨by rfl, rfl⟩) (by assumption) ?_
      simp only [List.getElem_toArray, List.getElem_cons_succ, List.getElem_cons_zero, Act.put, List.setIfInBounds_toArray, List.set_cons_zero, List.set_cons_succ]
      refine wpAnyH_take (i := 10) (v := undef) rfl (by kernel_rfl) (by kernel_rfl) (by kernel_rfl) (fun _ _ _ h => h) (Or.inr ⟨by rfl, rfl⟩) (by assumption) ?_
      simp only [List.getElem_toArray, List.getElem_cons_succ, List.getElem_cons_zero, Act.put, List.setIfInBounds_toArray, List.set_cons_zero, List.set_cons_succ]
      refine wpAnyH_take (i := 11) (v := .bool false) rfl (by kernel_rfl) (by kernel_rfl) (by kernel_rfl) (fun _ _ _ h => h) (Or.inl ⟨by rfl, ?_⟩) (by assumption) ?_
      · (intro w1 hSw; (try dsimp only at hSw); go_simp)
      simp only [List.getElem_toArray, List.getElem_cons_succ, List.getElem_cons_zero, Act.put, List.setIfInBounds_toArray, List.set_cons_zero, List.set_cons_succ]
      refine wpAnyH_done (by kernel_rfl) ?_ _
      refine NoPanic.normal ?_
      go_wp2_with (at_builtin; first | (refine wpList_app_runG rfl _ _ 36 36 rfl rfl _ _ _ rfl rfl r1 ?_; clear r1) | (refine wpList_app_runG rfl _ _ 36 36 rfl rfl _ _ _ rfl rfl r2 ?_; clear r2) | (refine wpList_app_runG rfl _ _ 36 36 rfl rfl _ _ _ rfl rfl r3 ?_; clear r3))
      go_ret
      exact ⟨_, rfl, HU3.out, HA3.out, HB3.out⟩
end Go.Proofs.YtilbffgpniomcaaGreatDoor
