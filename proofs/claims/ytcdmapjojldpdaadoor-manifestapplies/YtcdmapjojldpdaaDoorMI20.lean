/- MA7x, joined. -/
import Derived.Test.YtcdmapjojldpdaaDoorMI19
/- ManifestApplies: the walk (written by mkma7.py). -/
namespace Go.Proofs.YtcdmapjojldpdaaDoor
open Go.RowKit Go.Shelf

/-- A row of runs whose first file is not 0 does not lie in a new state's block. -/
theorem row_ne {W : World} {v : Value} {L : List Ru} (h : RuR W v L) (h0 : 0 < L.length) (hf : L[0].f ≠ 0) {b off n c : Nat} (e : v = .slice (some ⟨b, off, none⟩) n c) {P : Nat} (hP : W.heap[P]? = some (.cells #[.slice none 0 0, .int .i64 0, .int .i64 0, .int .i64 0] 31)) : b ≠ P := by
  intro hb
  subst hb
  subst e
  obtain ⟨b', off', e', _, q0, _, _⟩ := h.at h0 rfl
  simp only [Option.some.injEq, Addr.mk.injEq, and_true] at e'
  obtain ⟨rfl, rfl⟩ := e'
  simp only [World.cell?, hP, Nat.zero_mul, Nat.add_zero] at q0
  match off, q0 with
  | 0, q0 => simp at q0
  | 1, q0 => simp at q0; exact hf q0.symm
  | 2, q0 => simp at q0; exact hf q0.symm
  | 3, q0 => simp at q0; exact hf q0.symm
  | k + 4, q0 => simp at q0
set_option maxRecDepth 100000 in
set_option maxHeartbeats 16000000 in
theorem applies13_walk (sv : Value) (s : St) (xv : Value) (x : Ed) (w : World) (hs : StI w sv s) (hx : EdI w xv x) :
    Calls Tryd.prog 3 #[sv, xv] w fun e w' => e = .returned (.bool true) ∧ Below w.heap.size w w' := by
  obtain ⟨rv, rfl, hr⟩ := hs.e
  obtain ⟨dv, av, rfl, hd, ha⟩ := hx.e
  obtain ⟨sa, sc, rfl, hm0⟩ := hr.r.form
  obtain ⟨da, dc, rfl, hm1⟩ := hd.form
  obtain ⟨aa, ac, rfl, hm2⟩ := ha.r.form
  unfold maxLen at hm0 hm1 hm2
  obtain ⟨SL, HSL⟩ : ∃ n, Hid (s.ru.length = n) := ⟨_, rfl⟩
  obtain ⟨DL, HDL⟩ : ∃ n, Hid (x.dr.length = n) := ⟨_, rfl⟩
  obtain ⟨AL, HAL⟩ : ∃ n, Hid (x.ad.length = n) := ⟨_, rfl⟩
  rw [HSL.out] at hr hm0
  rw [HDL.out] at hd hm1
  rw [HAL.out] at ha hm2
  rw [HSL.out, HDL.out, HAL.out]
  have HU : Hid (UR w (.slice sa SL sc) s.ru) := hr
  have HD : Hid (JR w (.slice da DL dc) x.dr) := hd
  have HA : Hid (UR w (.slice aa AL ac) x.ad) := ha
  clear hs hx hr hd ha
  obtain ⟨W0, HW0⟩ := hid_ex ((w.alloc (.cells #[.slice sa SL sc, .int .i64 s.lo, .int .i64 s.ne, .int .i64 s.ma] 24)).alloc (.cells #[.slice da DL dc, .slice aa AL ac, .int .i64 x.lo, .int .i64 x.ne, .int .i64 x.ma] 27))
  have HB0w : Hid (Below w.heap.size w W0) := by rw [HW0.out]; exact ((Below.refl _ _).alloc (Nat.le_refl _) _).alloc (by simp) _
  have HZ0 : Hid (W0.heap.size = w.heap.size + 2) := by unfold Hid; rw [HW0.out]; simp
  have HS0 : Hid (W0.heap[w.heap.size]? = some (.cells #[.slice sa SL sc, .int .i64 s.lo, .int .i64 s.ne, .int .i64 s.ma] 24)) := by
    unfold Hid; rw [HW0.out]; exact (Below.heap_alloc _ _ _ (by simp)).trans (heap_alloc_new _ _)
  have HX0 : Hid (W0.heap[w.heap.size + 1]? = some (.cells #[.slice da DL dc, .slice aa AL ac, .int .i64 x.lo, .int .i64 x.ne, .int .i64 x.ma] 27)) := by
    unfold Hid; rw [HW0.out]
    have e := heap_alloc_new (w.alloc (.cells #[.slice sa SL sc, .int .i64 s.lo, .int .i64 s.ne, .int .i64 s.ma] 24)) (.cells #[.slice da DL dc, .slice aa AL ac, .int .i64 x.lo, .int .i64 x.ne, .int .i64 x.ma] 27)
    rw [World.size_alloc] at e
    exact e
  have HB0 := HB0w
  rw [HW0.out] at HB0
  obtain ⟨c0, c1, c2, c3⟩ := four13 HS0.out
  obtain ⟨d0, d1, d2, d3, d4⟩ := five HX0.out
  rw [HW0.out] at c0 c1 c2 c3 d0 d1 d2 d3 d4
  by_cases h1 : 100 < SL
  · have h1' : (100 : Int) < (SL : Int) := by omega
    go_enter Tryd.func3, Tryd.ntmps3
    go_wp2_with fail
    refine (alive13_any _).mono ?_
    rintro e w9 ⟨rfl, hb9⟩
    have HB9 : Hid (Below w.heap.size w w9) := HB0.out.trans (hb9.mono HB0.out.size)
    clear hb9
    go_wp2_with fail
    go_ret
    exact ⟨rfl, HB9.out⟩
  · have h1' : ¬ (100 : Int) < (SL : Int) := by omega
    by_cases h2 : 100 < AL
    · have h2' : (100 : Int) < (AL : Int) := by omega
      go_enter Tryd.func3, Tryd.ntmps3
      go_wp2_with fail
      refine (alive13_any _).mono ?_
      rintro e w9 ⟨rfl, hb9⟩
      have HB9 : Hid (Below w.heap.size w w9) := HB0.out.trans (hb9.mono HB0.out.size)
      clear hb9
      go_wp2_with fail
      go_ret
      exact ⟨rfl, HB9.out⟩
    · have h2' : ¬ (100 : Int) < (AL : Int) := by omega
      by_cases h3 : 100 < DL
      · have h3' : (100 : Int) < (DL : Int) := by omega
        go_enter Tryd.func3, Tryd.ntmps3
        go_wp2_with fail
        refine (alive13_any _).mono ?_
        rintro e w9 ⟨rfl, hb9⟩
        have HB9 : Hid (Below w.heap.size w w9) := HB0.out.trans (hb9.mono HB0.out.size)
        clear hb9
        go_wp2_with fail
        go_ret
        exact ⟨rfl, HB9.out⟩
      · have h3' : ¬ (100 : Int) < (DL : Int) := by omega
        have HCa : Hid (Calls Tryd.prog 5 #[.agg #[.slice sa SL sc, .int .i64 s.lo, .int .i64 s.ne, .int .i64 s.ma]] W0 fun e w' => ∃ v', e = .returned (.agg #[v', .int .i64 s.lo, .int .i64 s.ne, .int .i64 s.ma]) ∧ UR w' v' s.ru ∧ Below W0.heap.size W0 w') := as13u_any _ s W0 (HU.out.below HB0w.out).r (by rw [HSL.out]; omega)
        rw [HW0.out] at HCa
        go_enter Tryd.func3, Tryd.ntmps3
        go_wp2_with fail
        refine HCa.out.mono ?_
        rw [← HW0.out]
        clear HCa c0 c1 c2 c3 d0 d1 d2 d3 d4 HW0 HB0
        rintro e w1 ⟨v1, rfl, hu1, hb1⟩
        have hz0 := HZ0.out
        have HB1 : Hid (Below w.heap.size w w1) := HB0w.out.trans (hb1.mono HB0w.out.size)
        have hz1 : w.heap.size + 2 ≤ w1.heap.size := by have := hb1.size; omega
        have HS1 : Hid (w1.heap[w.heap.size]? = some (.cells #[.slice sa SL sc, .int .i64 s.lo, .int .i64 s.ne, .int .i64 s.ma] 24)) := (hb1.block _ (by omega)).trans HS0.out
        have HX1 : Hid (w1.heap[w.heap.size + 1]? = some (.cells #[.slice da DL dc, .slice aa AL ac, .int .i64 x.lo, .int .i64 x.ne, .int .i64 x.ma] 27)) := (hb1.block _ (by omega)).trans HX0.out
        obtain ⟨wa, wc, hv1, _⟩ := hu1.r.form
        rw [HSL.out] at hv1
        subst hv1
        have HRW1 : Hid (UR w1 (.slice wa SL wc) s.ru) := hu1
        clear hb1 hu1
        have HOne : Hid (([.slice wa SL wc, .int .i64 s.lo, .int .i64 s.ne, .int .i64 s.ma] : List Value).toArray.all (·.oneCell') = true) := by unfold Hid; kernel_rfl
        go_wp2_with (refine stop_store 31 _ _ rfl ?_)
        refine Stop.of ?_
        refine wpList_storeN rfl _ _ _ rfl w1.heap.size 0 [.slice wa SL wc, .int .i64 s.lo, .int .i64 s.ne, .int .i64 s.ma] rfl rfl _ _ (heap_alloc_new _ _) (by simp) (by kernel_rfl) HOne.out ?_
        intro w2 hw2
        obtain ⟨hb2, hx2, hl2⟩ := stW_nw hw2 (by simp)
        have HB2 : Hid (Below w.heap.size w w2) := HB1.out.trans (hb2.mono HB1.out.size)
        have HS2 : Hid (w2.heap[w.heap.size]? = some (.cells #[.slice sa SL sc, .int .i64 s.lo, .int .i64 s.ne, .int .i64 s.ma] 24)) := (hb2.block _ (by omega)).trans HS1.out
        have HX2 : Hid (w2.heap[w.heap.size + 1]? = some (.cells #[.slice da DL dc, .slice aa AL ac, .int .i64 x.lo, .int .i64 x.ne, .int .i64 x.ma] 27)) := (hb2.block _ (by omega)).trans HX1.out
        obtain ⟨P1, HP1⟩ := hid_ex w1.heap.size
        rw [← HP1.out] at hx2 hl2 hz1 ⊢
        have HW2 : Hid (w2.heap[P1]? = some (.cells #[.slice wa SL wc, .int .i64 s.lo, .int .i64 s.ne, .int .i64 s.ma] 31)) := hx2
        have HRW2 : Hid (UR w2 (.slice wa SL wc) s.ru) := HRW1.out.below hb2
        clear hw2 hb2 hx2 HP1
        obtain ⟨c0, c1, c2, c3⟩ := four13 HS2.out
        obtain ⟨d0, d1, d2, d3, d4⟩ := five HX2.out
        go_wp2_with fail
        refine (apply13_any _ _ _ s x w2 (HU.out.below HB2.out) (HD.out.below HB2.out) (HA.out.below HB2.out) (by rw [HAL.out]; omega)).mono ?_
        obtain ⟨t, Ht⟩ := hid_ex ((apS s x).1.getD stZ)
        obtain ⟨C, HC⟩ := hid_ex (apS s x).2
        have HTl : Hid (t.ru.length ≤ 100000) := by
          unfold Hid
          rw [Ht.out]
          rcases apS_cases s x with ⟨t', h⟩ | ⟨c, h, _⟩
          · rw [h]; have := (apS_ok h).ok.2.2.2.2.2.1; simp only [Option.getD_some]; omega
          · rw [h]; exact Nat.zero_le _
        have HTf : Hid (∀ h : 0 < t.ru.length, t.ru[0].f ≠ 0) := by
          intro h0
          rcases apS_cases s x with ⟨t', h⟩ | ⟨c, h, _⟩
          · have e : t = t' := by rw [Ht.out, h]; rfl
            subst e
            have := ((apS_ok h).ok.2.2.2.2.2.2.1 _ (List.getElem_mem h0)).2.2.1
            omega
          · have e : t = stZ := by rw [Ht.out, h]; rfl
            subst e
            simp [stZ] at h0
        obtain ⟨q, Hq⟩ := hid_ex (decide (okSt s))
        obtain ⟨TL, HTL⟩ : ∃ n, Hid (t.ru.length = n) := ⟨_, rfl⟩
        rintro e w3 ⟨v3, hv3, hu3, hb3⟩
        rw [← Ht.out, ← HC.out] at hv3
        rw [← Ht.out] at hu3
        subst hv3
        have HB3 : Hid (Below w.heap.size w w3) := HB2.out.trans (hb3.mono HB2.out.size)
        have HRW3 : Hid (UR w3 (.slice wa SL wc) s.ru) := HRW2.out.below hb3
        have HS3 : Hid (w3.heap[w.heap.size]? = some (.cells #[.slice sa SL sc, .int .i64 s.lo, .int .i64 s.ne, .int .i64 s.ma] 24)) := (hb3.block _ (by omega)).trans HS2.out
        have HX3 : Hid (w3.heap[w.heap.size + 1]? = some (.cells #[.slice da DL dc, .slice aa AL ac, .int .i64 x.lo, .int .i64 x.ne, .int .i64 x.ma] 27)) := (hb3.block _ (by omega)).trans HX2.out
        have HW3 : Hid (w3.heap[P1]? = some (.cells #[.slice wa SL wc, .int .i64 s.lo, .int .i64 s.ne, .int .i64 s.ma] 31)) := (hb3.block _ (by omega)).trans HW2.out
        have hz3 : P1 < w3.heap.size := by have := hb3.size; omega
        obtain ⟨ta, tc, hv4, _⟩ := hu3.r.form
        rw [HTL.out] at hv4
        subst hv4
        have HRA3 : Hid (UR w3 (.slice ta TL tc) t.ru) := hu3
        clear hu3 hb3 c0 c1 c2 c3 d0 d1 d2 d3 d4
        have HOn2 : Hid (([.slice ta TL tc, .int .i64 t.lo, .int .i64 t.ne, .int .i64 t.ma] : List Value).toArray.all (·.oneCell') = true) := by unfold Hid; kernel_rfl
        go_wp2_with (refine stop_store 24 _ _ rfl ?_)
        refine Stop.of ?_
        refine wpList_storeN rfl _ _ _ rfl w3.heap.size 0 [.slice ta TL tc, .int .i64 t.lo, .int .i64 t.ne, .int .i64 t.ma] rfl rfl _ _ (heap_alloc_new _ _) (by simp) (by kernel_rfl) HOn2.out ?_
        intro w4 hw4
        obtain ⟨hb4, hx4, hl4⟩ := stW_nw hw4 (by simp)
        have HB4 : Hid (Below w.heap.size w w4) := HB3.out.trans (hb4.mono HB3.out.size)
        have HRW4 : Hid (UR w4 (.slice wa SL wc) s.ru) := HRW3.out.below hb4
        have HRA4 : Hid (UR w4 (.slice ta TL tc) t.ru) := HRA3.out.below hb4
        have HS4 : Hid (w4.heap[w.heap.size]? = some (.cells #[.slice sa SL sc, .int .i64 s.lo, .int .i64 s.ne, .int .i64 s.ma] 24)) := (hb4.block _ (by omega)).trans HS3.out
        have HX4 : Hid (w4.heap[w.heap.size + 1]? = some (.cells #[.slice da DL dc, .slice aa AL ac, .int .i64 x.lo, .int .i64 x.ne, .int .i64 x.ma] 27)) := (hb4.block _ (by omega)).trans HX3.out
        have HW4 : Hid (w4.heap[P1]? = some (.cells #[.slice wa SL wc, .int .i64 s.lo, .int .i64 s.ne, .int .i64 s.ma] 31)) := (hb4.block _ (by omega)).trans HW3.out
        obtain ⟨P2, HP2⟩ := hid_ex w3.heap.size
        rw [← HP2.out] at hx4 hl4 hz3 ⊢
        have HA4 : Hid (w4.heap[P2]? = some (.cells #[.slice ta TL tc, .int .i64 t.lo, .int .i64 t.ne, .int .i64 t.ma] 24)) := hx4
        clear hw4 hb4 hx4 HP2
        obtain ⟨v0, HV0⟩ := hid_ex w4.drew
        have hbv0 : Below w4.heap.size w4 v0 := by rw [HV0.out]; exact (Below.refl _ _).drew
        have HBv0 : Hid (Below w.heap.size w v0) := HB4.out.trans (hbv0.mono HB4.out.size)
        have HSv0 : Hid (v0.heap[w.heap.size]? = some (.cells #[.slice sa SL sc, .int .i64 s.lo, .int .i64 s.ne, .int .i64 s.ma] 24)) := (hbv0.block _ (by omega)).trans HS4.out
        have HXv0 : Hid (v0.heap[w.heap.size + 1]? = some (.cells #[.slice da DL dc, .slice aa AL ac, .int .i64 x.lo, .int .i64 x.ne, .int .i64 x.ma] 27)) := (hbv0.block _ (by omega)).trans HX4.out
        have HWv0 : Hid (v0.heap[P1]? = some (.cells #[.slice wa SL wc, .int .i64 s.lo, .int .i64 s.ne, .int .i64 s.ma] 31)) := (hbv0.block _ (by omega)).trans HW4.out
        have HAv0 : Hid (v0.heap[P2]? = some (.cells #[.slice ta TL tc, .int .i64 t.lo, .int .i64 t.ne, .int .i64 t.ma] 24)) := (hbv0.block _ (by omega)).trans HA4.out
        have HRWv0 : Hid (UR v0 (.slice wa SL wc) s.ru) := HRW4.out.below hbv0
        have HRAv0 : Hid (UR v0 (.slice ta TL tc) t.ru) := HRA4.out.below hbv0
        have hzv0 : P2 < v0.heap.size := by have := hbv0.size; omega
        have HFv0 : Hid ((v0.cell? ⟨P1, 0, none⟩ = some (.slice wa SL wc) ∧ v0.cell? ⟨P1, 1, none⟩ = some (.int .i64 s.lo) ∧ v0.cell? ⟨P1, 2, none⟩ = some (.int .i64 s.ne) ∧ v0.cell? ⟨P1, 3, none⟩ = some (.int .i64 s.ma)) ∧ v0.cell? ⟨w.heap.size + 1, 0, none⟩ = some (.slice da DL dc) ∧ v0.cell? ⟨w.heap.size + 1, 1, none⟩ = some (.slice aa AL ac) ∧ v0.cell? ⟨w.heap.size + 1, 2, none⟩ = some (.int .i64 x.lo) ∧ v0.cell? ⟨w.heap.size + 1, 3, none⟩ = some (.int .i64 x.ne) ∧ v0.cell? ⟨w.heap.size + 1, 4, none⟩ = some (.int .i64 x.ma)) := ⟨four13 HWv0.out, five HXv0.out⟩
        clear HB4 HRW4 HRA4 HS4 HX4 HW4 HA4 HB3 HRW3 HRA3 HS3 HX3 HW3 HB2 HRW2 HS2 HX2 HW2 HB1 HRW1 HS1 HX1 HS0 HX0 HB0w
        go_wp2_with fail
        refine wp_region_noPanic ?_
        refine wp_region_held_drew (S := fun w' => (w'.cell? ⟨P1, 0, none⟩ = some (.slice wa SL wc) ∧ w'.cell? ⟨P1, 1, none⟩ = some (.int .i64 s.lo) ∧ w'.cell? ⟨P1, 2, none⟩ = some (.int .i64 s.ne) ∧ w'.cell? ⟨P1, 3, none⟩ = some (.int .i64 s.ma)) ∧ w'.cell? ⟨w.heap.size + 1, 0, none⟩ = some (.slice da DL dc) ∧ w'.cell? ⟨w.heap.size + 1, 1, none⟩ = some (.slice aa AL ac) ∧ w'.cell? ⟨w.heap.size + 1, 2, none⟩ = some (.int .i64 x.lo) ∧ w'.cell? ⟨w.heap.size + 1, 3, none⟩ = some (.int .i64 x.ne) ∧ w'.cell? ⟨w.heap.size + 1, 4, none⟩ = some (.int .i64 x.ma)) (by kernel_rfl) ?_ (fun hHeld => ?_)
        · (rw [← HV0.out]; exact HFv0.out)
        rw [← HV0.out]
        clear HV0 hbv0
        refine wpAnyH_take (i := 0) (v := .agg #[.slice wa SL wc, .int .i64 s.lo, .int .i64 s.ne, .int .i64 s.ma]) rfl (by kernel_rfl) (by kernel_rfl) (by kernel_rfl) (fun _ _ _ h => h) (Or.inl ⟨by rfl, ?_⟩) (by assumption) ?_
        · (intro w1 hSw; (try dsimp only at hSw); go_simp)
        simp only [List.getElem_toArray, List.getElem_cons_zero, Act.put, List.setIfInBounds_toArray, List.set_cons_zero, List.set_cons_succ]
        refine wpAnyH_take (i := 1) (v := .agg #[.slice da DL dc, .slice aa AL ac, .int .i64 x.lo, .int .i64 x.ne, .int .i64 x.ma]) rfl (by kernel_rfl) (by kernel_rfl) (by kernel_rfl) (fun _ _ _ h => h) (Or.inl ⟨by rfl, ?_⟩) (by assumption) ?_
        · (intro w1 hSw; (try dsimp only at hSw); go_simp)
        simp only [List.getElem_toArray, List.getElem_cons_succ, List.getElem_cons_zero, Act.put, List.setIfInBounds_toArray, List.set_cons_zero, List.set_cons_succ]
        refine wpAnyH_ready (rs := [2, 7]) (by kernel_rfl) (by simp) ?_
        refine AllReadyH.cons (o := _) rfl (fun K hK => ?_) (AllReadyH.cons (o := _) rfl (fun K hK => ?_) AllReadyH.nil)
        · have HO1 : Hid (P2 = P2) := rfl
          go_simp
          refine (asEdit_any _ _ x v0 ⟨HD.out.below HBv0.out, (HA.out.below HBv0.out).r⟩ (by rw [HAL.out]; omega)).mono ?_
          rintro e v1 ⟨ve, rfl, he, hbv1⟩
          have HBv1 : Hid (Below w.heap.size w v1) := HBv0.out.trans (hbv1.mono HBv0.out.size)
          have HSv1 : Hid (v1.heap[w.heap.size]? = some (.cells #[.slice sa SL sc, .int .i64 s.lo, .int .i64 s.ne, .int .i64 s.ma] 24)) := (hbv1.block _ (by omega)).trans HSv0.out
          have HXv1 : Hid (v1.heap[w.heap.size + 1]? = some (.cells #[.slice da DL dc, .slice aa AL ac, .int .i64 x.lo, .int .i64 x.ne, .int .i64 x.ma] 27)) := (hbv1.block _ (by omega)).trans HXv0.out
          have HWv1 : Hid (v1.heap[P1]? = some (.cells #[.slice wa SL wc, .int .i64 s.lo, .int .i64 s.ne, .int .i64 s.ma] 31)) := (hbv1.block _ (by omega)).trans HWv0.out
          have HAv1 : Hid (v1.heap[P2]? = some (.cells #[.slice ta TL tc, .int .i64 t.lo, .int .i64 t.ne, .int .i64 t.ma] 24)) := (hbv1.block _ (by omega)).trans HAv0.out
          have hzv1 : P2 < v1.heap.size := by have := hbv1.size; omega
          have hszv1 : v0.heap.size ≤ v1.heap.size := by have := hbv1.size; omega
          have HFv1 : Hid ((v1.cell? ⟨P1, 0, none⟩ = some (.slice wa SL wc) ∧ v1.cell? ⟨P1, 1, none⟩ = some (.int .i64 s.lo) ∧ v1.cell? ⟨P1, 2, none⟩ = some (.int .i64 s.ne) ∧ v1.cell? ⟨P1, 3, none⟩ = some (.int .i64 s.ma)) ∧ v1.cell? ⟨w.heap.size + 1, 0, none⟩ = some (.slice da DL dc) ∧ v1.cell? ⟨w.heap.size + 1, 1, none⟩ = some (.slice aa AL ac) ∧ v1.cell? ⟨w.heap.size + 1, 2, none⟩ = some (.int .i64 x.lo) ∧ v1.cell? ⟨w.heap.size + 1, 3, none⟩ = some (.int .i64 x.ne) ∧ v1.cell? ⟨w.heap.size + 1, 4, none⟩ = some (.int .i64 x.ma)) := ⟨four13 HWv1.out, five HXv1.out⟩
          have HRWv1 : Hid (UR v1 (.slice wa SL wc) s.ru) := HRWv0.out.below hbv1
          have HRAv1 : Hid (UR v1 (.slice ta TL tc) t.ru) := HRAv0.out.below hbv1
          obtain ⟨ea, ec, hve, _⟩ := he.a.form
          rw [HAL.out] at hve
          subst hve
          have HREv1 : Hid (EdR v1 (.slice da DL dc) (.slice ea AL ec) x) := he
          clear he
          go_simp
          refine hK.out _ _ ?_ (fun hHeld => ?_)
          · exact HFv1.out
          clear hK K
          refine wpAnyH_ready (rs := [3, 7]) (by kernel_rfl) (by simp) ?_
          refine AllReadyH.cons (o := _) rfl (fun K hK => ?_) (AllReadyH.cons (o := _) rfl (fun K hK => ?_) AllReadyH.nil)
          · have HO2 : Hid (P2 = P2) := rfl
            go_simp
            refine (refApply_any _ _ _ s x v1 HRWv1.out HREv1.out.d HREv1.out.a (by rw [HSL.out]; omega) (by rw [HAL.out]; omega)).mono ?_
            rintro e v2 ⟨vr, hvr, hur, hbv2⟩
            rw [← Ht.out, ← HC.out] at hvr
            rw [← Ht.out] at hur
            subst hvr
            have HBv2 : Hid (Below w.heap.size w v2) := HBv1.out.trans (hbv2.mono HBv1.out.size)
            have HSv2 : Hid (v2.heap[w.heap.size]? = some (.cells #[.slice sa SL sc, .int .i64 s.lo, .int .i64 s.ne, .int .i64 s.ma] 24)) := (hbv2.block _ (by omega)).trans HSv1.out
            have HXv2 : Hid (v2.heap[w.heap.size + 1]? = some (.cells #[.slice da DL dc, .slice aa AL ac, .int .i64 x.lo, .int .i64 x.ne, .int .i64 x.ma] 27)) := (hbv2.block _ (by omega)).trans HXv1.out
            have HWv2 : Hid (v2.heap[P1]? = some (.cells #[.slice wa SL wc, .int .i64 s.lo, .int .i64 s.ne, .int .i64 s.ma] 31)) := (hbv2.block _ (by omega)).trans HWv1.out
            have HAv2 : Hid (v2.heap[P2]? = some (.cells #[.slice ta TL tc, .int .i64 t.lo, .int .i64 t.ne, .int .i64 t.ma] 24)) := (hbv2.block _ (by omega)).trans HAv1.out
            have hzv2 : P2 < v2.heap.size := by have := hbv2.size; omega
            have hszv2 : v0.heap.size ≤ v2.heap.size := by have := hbv2.size; omega
            have HFv2 : Hid ((v2.cell? ⟨P1, 0, none⟩ = some (.slice wa SL wc) ∧ v2.cell? ⟨P1, 1, none⟩ = some (.int .i64 s.lo) ∧ v2.cell? ⟨P1, 2, none⟩ = some (.int .i64 s.ne) ∧ v2.cell? ⟨P1, 3, none⟩ = some (.int .i64 s.ma)) ∧ v2.cell? ⟨w.heap.size + 1, 0, none⟩ = some (.slice da DL dc) ∧ v2.cell? ⟨w.heap.size + 1, 1, none⟩ = some (.slice aa AL ac) ∧ v2.cell? ⟨w.heap.size + 1, 2, none⟩ = some (.int .i64 x.lo) ∧ v2.cell? ⟨w.heap.size + 1, 3, none⟩ = some (.int .i64 x.ne) ∧ v2.cell? ⟨w.heap.size + 1, 4, none⟩ = some (.int .i64 x.ma)) := ⟨four13 HWv2.out, five HXv2.out⟩
            have HRWv2 : Hid (UR v2 (.slice wa SL wc) s.ru) := HRWv1.out.below hbv2
            have HRAv2 : Hid (UR v2 (.slice ta TL tc) t.ru) := HRAv1.out.below hbv2
            obtain ⟨ra, rc, hvr2, _⟩ := hur.r.form
            rw [HTL.out] at hvr2
            subst hvr2
            have HRBv2 : Hid (UR v2 (.slice ra TL rc) t.ru) := hur
            clear hur
            go_simp
            refine hK.out _ _ ?_ (fun hHeld => ?_)
            · exact HFv2.out
            clear hK K
            refine wpAnyH_take (i := 4) (v := .tuple #[.agg #[.slice ra TL rc, .int .i64 t.lo, .int .i64 t.ne, .int .i64 t.ma], .int .i64 C]) rfl (by kernel_rfl) (by kernel_rfl) (by kernel_rfl) (fun _ _ _ h => h) (Or.inl ⟨by rfl, ?_⟩) (by assumption) ?_
            · (intro w1 hSw; (try dsimp only at hSw); go_simp)
            simp only [List.getElem_toArray, List.getElem_cons_succ, List.getElem_cons_zero, Act.put, List.setIfInBounds_toArray, List.set_cons_zero, List.set_cons_succ]
            refine wpAnyH_take (i := 5) (v := .agg #[.slice ra TL rc, .int .i64 t.lo, .int .i64 t.ne, .int .i64 t.ma]) rfl (by kernel_rfl) (by kernel_rfl) (by kernel_rfl) (fun _ _ _ h => h) (Or.inl ⟨by rfl, ?_⟩) (by assumption) ?_
            · (intro w1 hSw; (try dsimp only at hSw); go_simp)
            simp only [List.getElem_toArray, List.getElem_cons_succ, List.getElem_cons_zero, Act.put, List.setIfInBounds_toArray, List.set_cons_zero, List.set_cons_succ]
            refine wpAnyH_take (i := 6) (v := .int .i64 C) rfl (by kernel_rfl) (by kernel_rfl) (by kernel_rfl) (fun _ _ _ h => h) (Or.inl ⟨by rfl, ?_⟩) (by assumption) ?_
            · (intro w1 hSw; (try dsimp only at hSw); go_simp)
            simp only [List.getElem_toArray, List.getElem_cons_succ, List.getElem_cons_zero, Act.put, List.setIfInBounds_toArray, List.set_cons_zero, List.set_cons_succ]
            refine wpAnyH_ready (rs := [7]) (by kernel_rfl) (by simp) ?_
            refine AllReadyH.cons (o := _) rfl (fun K hK => ?_) AllReadyH.nil
            go_simp
            obtain ⟨v3, HNv3⟩ := hid_ex (v2.alloc (.cells #[.slice none 0 0, .int .i64 0, .int .i64 0, .int .i64 0] 31))
            have hbv3 : Below v2.heap.size v2 v3 := by rw [HNv3.out]; exact (Below.refl _ _).alloc (Nat.le_refl _) _
            have HQv3 : Hid (v3.heap[v2.heap.size]? = some (.cells #[.slice none 0 0, .int .i64 0, .int .i64 0, .int .i64 0] 31)) := by unfold Hid; rw [HNv3.out]; exact heap_alloc_new _ _
            have HBv3 : Hid (Below w.heap.size w v3) := HBv2.out.trans (hbv3.mono HBv2.out.size)
            have HSv3 : Hid (v3.heap[w.heap.size]? = some (.cells #[.slice sa SL sc, .int .i64 s.lo, .int .i64 s.ne, .int .i64 s.ma] 24)) := (hbv3.block _ (by omega)).trans HSv2.out
            have HXv3 : Hid (v3.heap[w.heap.size + 1]? = some (.cells #[.slice da DL dc, .slice aa AL ac, .int .i64 x.lo, .int .i64 x.ne, .int .i64 x.ma] 27)) := (hbv3.block _ (by omega)).trans HXv2.out
            have HWv3 : Hid (v3.heap[P1]? = some (.cells #[.slice wa SL wc, .int .i64 s.lo, .int .i64 s.ne, .int .i64 s.ma] 31)) := (hbv3.block _ (by omega)).trans HWv2.out
            have HAv3 : Hid (v3.heap[P2]? = some (.cells #[.slice ta TL tc, .int .i64 t.lo, .int .i64 t.ne, .int .i64 t.ma] 24)) := (hbv3.block _ (by omega)).trans HAv2.out
            have hzv3 : P2 < v3.heap.size := by have := hbv3.size; omega
            have hszv3 : v0.heap.size ≤ v3.heap.size := by have := hbv3.size; omega
            have HFv3 : Hid ((v3.cell? ⟨P1, 0, none⟩ = some (.slice wa SL wc) ∧ v3.cell? ⟨P1, 1, none⟩ = some (.int .i64 s.lo) ∧ v3.cell? ⟨P1, 2, none⟩ = some (.int .i64 s.ne) ∧ v3.cell? ⟨P1, 3, none⟩ = some (.int .i64 s.ma)) ∧ v3.cell? ⟨w.heap.size + 1, 0, none⟩ = some (.slice da DL dc) ∧ v3.cell? ⟨w.heap.size + 1, 1, none⟩ = some (.slice aa AL ac) ∧ v3.cell? ⟨w.heap.size + 1, 2, none⟩ = some (.int .i64 x.lo) ∧ v3.cell? ⟨w.heap.size + 1, 3, none⟩ = some (.int .i64 x.ne) ∧ v3.cell? ⟨w.heap.size + 1, 4, none⟩ = some (.int .i64 x.ma)) := ⟨four13 HWv3.out, five HXv3.out⟩
            have hlqv3 : v2.heap.size < v3.heap.size := (Array.getElem?_eq_some_iff.1 HQv3.out).1
            have hpq : P2 < v2.heap.size := hzv2
            have HRWv3 : Hid (UR v3 (.slice wa SL wc) s.ru) := HRWv2.out.below hbv3
            have HRAv3 : Hid (UR v3 (.slice ta TL tc) t.ru) := HRAv2.out.below hbv3
            have HRBv3 : Hid (UR v3 (.slice ra TL rc) t.ru) := HRBv2.out.below hbv3
            rw [← HNv3.out]
            clear HNv3
            refine hK.out _ _ ?_ (fun hHeld => ?_)
            · exact HFv3.out
            clear hK K
            have HOn : Hid (([.slice ra TL rc, .int .i64 t.lo, .int .i64 t.ne, .int .i64 t.ma] : List Value).toArray.all (·.oneCell') = true) := by unfold Hid; kernel_rfl
            refine wpAnyH_ready (rs := [8]) (by kernel_rfl) (by simp) ?_
            refine AllReadyH.cons (o := _) rfl (fun K hK => ?_) AllReadyH.nil
            refine wp_storeN _ _ _ rfl (v2.heap.size) 0 [.slice ra TL rc, .int .i64 t.lo, .int .i64 t.ne, .int .i64 t.ma] rfl rfl _ _ HQv3.out (by simp) (by kernel_rfl) HOn.out (fun u0 hu0 => ?_)
            have HT0 : Hid (u0.heap[v2.heap.size]? = some (.cells #[.slice ra TL rc, .int .i64 t.lo, .int .i64 t.ne, .int .i64 t.ma] 31)) := stW_all hu0 (by simp)
            have hot : ∀ k, k ≠ v2.heap.size → u0.heap[k]? = v3.heap[k]? := hu0.o
            have HSu0 : Hid (u0.heap[w.heap.size]? = some (.cells #[.slice sa SL sc, .int .i64 s.lo, .int .i64 s.ne, .int .i64 s.ma] 24)) := (hot _ (by omega)).trans HSv3.out
            have HXu0 : Hid (u0.heap[w.heap.size + 1]? = some (.cells #[.slice da DL dc, .slice aa AL ac, .int .i64 x.lo, .int .i64 x.ne, .int .i64 x.ma] 27)) := (hot _ (by omega)).trans HXv3.out
            have HWu0 : Hid (u0.heap[P1]? = some (.cells #[.slice wa SL wc, .int .i64 s.lo, .int .i64 s.ne, .int .i64 s.ma] 31)) := (hot _ (by omega)).trans HWv3.out
            have HAu0 : Hid (u0.heap[P2]? = some (.cells #[.slice ta TL tc, .int .i64 t.lo, .int .i64 t.ne, .int .i64 t.ma] 24)) := (hot _ (by omega)).trans HAv3.out
            have HBu0 : Hid (Below w.heap.size w u0) := HBv3.out.trans (hu0.b _ (by omega))
            have HFu0 : Hid ((u0.cell? ⟨P1, 0, none⟩ = some (.slice wa SL wc) ∧ u0.cell? ⟨P1, 1, none⟩ = some (.int .i64 s.lo) ∧ u0.cell? ⟨P1, 2, none⟩ = some (.int .i64 s.ne) ∧ u0.cell? ⟨P1, 3, none⟩ = some (.int .i64 s.ma)) ∧ u0.cell? ⟨w.heap.size + 1, 0, none⟩ = some (.slice da DL dc) ∧ u0.cell? ⟨w.heap.size + 1, 1, none⟩ = some (.slice aa AL ac) ∧ u0.cell? ⟨w.heap.size + 1, 2, none⟩ = some (.int .i64 x.lo) ∧ u0.cell? ⟨w.heap.size + 1, 3, none⟩ = some (.int .i64 x.ne) ∧ u0.cell? ⟨w.heap.size + 1, 4, none⟩ = some (.int .i64 x.ma)) := ⟨four13 HWu0.out, five HXu0.out⟩
            have HLw : Hid (0 < s.ru.length → ∀ b off n c, (Value.slice wa SL wc) = .slice (some ⟨b, off, none⟩) n c → b ≠ v2.heap.size) := fun h0 b off n c e => notP_low HRWv0.out.r (by omega) h0 b off n c e
            have HLa : Hid (0 < t.ru.length → ∀ b off n c, (Value.slice ta TL tc) = .slice (some ⟨b, off, none⟩) n c → b ≠ v2.heap.size) := fun h0 b off n c e => row_ne HRAv3.out.r h0 (HTf.out h0) e HQv3.out
            have HLb : Hid (0 < t.ru.length → ∀ b off n c, (Value.slice ra TL rc) = .slice (some ⟨b, off, none⟩) n c → b ≠ v2.heap.size) := fun h0 b off n c e => row_ne HRBv3.out.r h0 (HTf.out h0) e HQv3.out
            have HRWu0 : Hid (UR u0 (.slice wa SL wc) s.ru) := ⟨HRWv3.out.r.keepC fun h0 b off n c e => hot b (HLw.out h0 b off n c e), HRWv3.out.c, HRWv3.out.z⟩
            have HRAu0 : Hid (UR u0 (.slice ta TL tc) t.ru) := ⟨HRAv3.out.r.keepC fun h0 b off n c e => hot b (HLa.out h0 b off n c e), HRAv3.out.c, HRAv3.out.z⟩
            have HRBu0 : Hid (UR u0 (.slice ra TL rc) t.ru) := ⟨HRBv3.out.r.keepC fun h0 b off n c e => hot b (HLb.out h0 b off n c e), HRBv3.out.c, HRBv3.out.z⟩
            have hzu0 : P2 < u0.heap.size ∧ v2.heap.size < u0.heap.size := ⟨(Array.getElem?_eq_some_iff.1 HAu0.out).1, (Array.getElem?_eq_some_iff.1 HT0.out).1⟩
            clear hu0 hot
            refine hK.out _ _ ?_ (fun hHeld => ?_)
            · exact HFu0.out
            clear hK K
            refine wpAnyH_ready (rs := [9]) (by kernel_rfl) (by simp) ?_
            refine AllReadyH.cons (o := _) rfl (fun K hK => ?_) AllReadyH.nil
            go_simp
            refine hK.out _ _ ?_ (fun hHeld => ?_)
            · exact HFu0.out
            clear hK K
            refine wpAnyH_done (by kernel_rfl) ?_ _
            refine NoPanic.normal ?_
            obtain ⟨x0, HX0e⟩ := hid_ex u0.drew
            have hbx0 : Below u0.heap.size u0 x0 := by rw [HX0e.out]; exact (Below.refl _ _).drew
            have HBx0 : Hid (Below w.heap.size w x0) := HBu0.out.trans (hbx0.mono HBu0.out.size)
            have HSx0 : Hid (x0.heap[w.heap.size]? = some (.cells #[.slice sa SL sc, .int .i64 s.lo, .int .i64 s.ne, .int .i64 s.ma] 24)) := (hbx0.block _ (by omega)).trans HSu0.out
            have HWx0 : Hid (x0.heap[P1]? = some (.cells #[.slice wa SL wc, .int .i64 s.lo, .int .i64 s.ne, .int .i64 s.ma] 31)) := (hbx0.block _ (by omega)).trans HWu0.out
            have HAx0 : Hid (x0.heap[P2]? = some (.cells #[.slice ta TL tc, .int .i64 t.lo, .int .i64 t.ne, .int .i64 t.ma] 24)) := (hbx0.block _ (by omega)).trans HAu0.out
            have HTx0 : Hid (x0.heap[v2.heap.size]? = some (.cells #[.slice ra TL rc, .int .i64 t.lo, .int .i64 t.ne, .int .i64 t.ma] 31)) := (hbx0.block _ (by omega)).trans HT0.out
            have hzx0 : P2 < x0.heap.size ∧ v2.heap.size < x0.heap.size := by have := hbx0.size; omega
            have HRWx0 : Hid (UR x0 (.slice wa SL wc) s.ru) := HRWu0.out.below hbx0
            have HRAx0 : Hid (UR x0 (.slice ta TL tc) t.ru) := HRAu0.out.below hbx0
            have HRBx0 : Hid (UR x0 (.slice ra TL rc) t.ru) := HRBu0.out.below hbx0
            have HGx0 : Hid ((x0.cell? ⟨w.heap.size, 0, none⟩ = some (.slice sa SL sc) ∧ x0.cell? ⟨w.heap.size, 1, none⟩ = some (.int .i64 s.lo) ∧ x0.cell? ⟨w.heap.size, 2, none⟩ = some (.int .i64 s.ne) ∧ x0.cell? ⟨w.heap.size, 3, none⟩ = some (.int .i64 s.ma)) ∧ (x0.cell? ⟨P1, 0, none⟩ = some (.slice wa SL wc) ∧ x0.cell? ⟨P1, 1, none⟩ = some (.int .i64 s.lo) ∧ x0.cell? ⟨P1, 2, none⟩ = some (.int .i64 s.ne) ∧ x0.cell? ⟨P1, 3, none⟩ = some (.int .i64 s.ma)) ∧ (x0.cell? ⟨P2, 0, none⟩ = some (.slice ta TL tc) ∧ x0.cell? ⟨P2, 1, none⟩ = some (.int .i64 t.lo) ∧ x0.cell? ⟨P2, 2, none⟩ = some (.int .i64 t.ne) ∧ x0.cell? ⟨P2, 3, none⟩ = some (.int .i64 t.ma)) ∧ (x0.cell? ⟨v2.heap.size, 0, none⟩ = some (.slice ra TL rc) ∧ x0.cell? ⟨v2.heap.size, 1, none⟩ = some (.int .i64 t.lo) ∧ x0.cell? ⟨v2.heap.size, 2, none⟩ = some (.int .i64 t.ne) ∧ x0.cell? ⟨v2.heap.size, 3, none⟩ = some (.int .i64 t.ma))) := ⟨four13 HSx0.out, four13 HWx0.out, four13 HAx0.out, four13 HTx0.out⟩
            clear HBu0 HSu0 HXu0 HWu0 HAu0 HFu0 HT0 hzu0 HRWu0 HRAu0 HRBu0 HLw HLa HLb HOn
            go_wp2_with fail
            refine wp_region_noPanic ?_
            refine wp_region_held_drew (S := fun w' => (w'.cell? ⟨w.heap.size, 0, none⟩ = some (.slice sa SL sc) ∧ w'.cell? ⟨w.heap.size, 1, none⟩ = some (.int .i64 s.lo) ∧ w'.cell? ⟨w.heap.size, 2, none⟩ = some (.int .i64 s.ne) ∧ w'.cell? ⟨w.heap.size, 3, none⟩ = some (.int .i64 s.ma)) ∧ (w'.cell? ⟨P1, 0, none⟩ = some (.slice wa SL wc) ∧ w'.cell? ⟨P1, 1, none⟩ = some (.int .i64 s.lo) ∧ w'.cell? ⟨P1, 2, none⟩ = some (.int .i64 s.ne) ∧ w'.cell? ⟨P1, 3, none⟩ = some (.int .i64 s.ma)) ∧ (w'.cell? ⟨P2, 0, none⟩ = some (.slice ta TL tc) ∧ w'.cell? ⟨P2, 1, none⟩ = some (.int .i64 t.lo) ∧ w'.cell? ⟨P2, 2, none⟩ = some (.int .i64 t.ne) ∧ w'.cell? ⟨P2, 3, none⟩ = some (.int .i64 t.ma)) ∧ (w'.cell? ⟨v2.heap.size, 0, none⟩ = some (.slice ra TL rc) ∧ w'.cell? ⟨v2.heap.size, 1, none⟩ = some (.int .i64 t.lo) ∧ w'.cell? ⟨v2.heap.size, 2, none⟩ = some (.int .i64 t.ne) ∧ w'.cell? ⟨v2.heap.size, 3, none⟩ = some (.int .i64 t.ma))) (by kernel_rfl) ?_ (fun hHeld => ?_)
            · (rw [← HX0e.out]; exact HGx0.out)
            rw [← HX0e.out]
            clear HX0e hbx0
            refine wpAnyH_ready (rs := [0]) (by kernel_rfl) (by simp) ?_
            refine AllReadyH.cons (o := _) rfl (fun K hK => ?_) AllReadyH.nil
            go_simp
            refine (alive13_any _).mono ?_
            rintro e u1 ⟨rfl, hbu1⟩
            have HBu1 : Hid (Below w.heap.size w u1) := HBx0.out.trans (hbu1.mono HBx0.out.size)
            have HSu1 : Hid (u1.heap[w.heap.size]? = some (.cells #[.slice sa SL sc, .int .i64 s.lo, .int .i64 s.ne, .int .i64 s.ma] 24)) := (hbu1.block _ (by omega)).trans HSx0.out
            have HWu1 : Hid (u1.heap[P1]? = some (.cells #[.slice wa SL wc, .int .i64 s.lo, .int .i64 s.ne, .int .i64 s.ma] 31)) := (hbu1.block _ (by omega)).trans HWx0.out
            have HAu1 : Hid (u1.heap[P2]? = some (.cells #[.slice ta TL tc, .int .i64 t.lo, .int .i64 t.ne, .int .i64 t.ma] 24)) := (hbu1.block _ (by omega)).trans HAx0.out
            have HTu1 : Hid (u1.heap[v2.heap.size]? = some (.cells #[.slice ra TL rc, .int .i64 t.lo, .int .i64 t.ne, .int .i64 t.ma] 31)) := (hbu1.block _ (by omega)).trans HTx0.out
            have hzu1 : P2 < u1.heap.size ∧ v2.heap.size < u1.heap.size := by have := hbu1.size; omega
            have HRWu1 : Hid (UR u1 (.slice wa SL wc) s.ru) := HRWx0.out.below hbu1
            have HRAu1 : Hid (UR u1 (.slice ta TL tc) t.ru) := HRAx0.out.below hbu1
            have HRBu1 : Hid (UR u1 (.slice ra TL rc) t.ru) := HRBx0.out.below hbu1
            have HGu1 : Hid ((u1.cell? ⟨w.heap.size, 0, none⟩ = some (.slice sa SL sc) ∧ u1.cell? ⟨w.heap.size, 1, none⟩ = some (.int .i64 s.lo) ∧ u1.cell? ⟨w.heap.size, 2, none⟩ = some (.int .i64 s.ne) ∧ u1.cell? ⟨w.heap.size, 3, none⟩ = some (.int .i64 s.ma)) ∧ (u1.cell? ⟨P1, 0, none⟩ = some (.slice wa SL wc) ∧ u1.cell? ⟨P1, 1, none⟩ = some (.int .i64 s.lo) ∧ u1.cell? ⟨P1, 2, none⟩ = some (.int .i64 s.ne) ∧ u1.cell? ⟨P1, 3, none⟩ = some (.int .i64 s.ma)) ∧ (u1.cell? ⟨P2, 0, none⟩ = some (.slice ta TL tc) ∧ u1.cell? ⟨P2, 1, none⟩ = some (.int .i64 t.lo) ∧ u1.cell? ⟨P2, 2, none⟩ = some (.int .i64 t.ne) ∧ u1.cell? ⟨P2, 3, none⟩ = some (.int .i64 t.ma)) ∧ (u1.cell? ⟨v2.heap.size, 0, none⟩ = some (.slice ra TL rc) ∧ u1.cell? ⟨v2.heap.size, 1, none⟩ = some (.int .i64 t.lo) ∧ u1.cell? ⟨v2.heap.size, 2, none⟩ = some (.int .i64 t.ne) ∧ u1.cell? ⟨v2.heap.size, 3, none⟩ = some (.int .i64 t.ma))) := ⟨four13 HSu1.out, four13 HWu1.out, four13 HAu1.out, four13 HTu1.out⟩
            clear hbu1
            go_simp
            refine hK.out _ _ ?_ (fun hHeld => ?_)
            · exact HGu1.out
            clear hK K
            refine wpAnyH_take (i := 1) (v := .bool true) rfl (by kernel_rfl) (by kernel_rfl) (by kernel_rfl) (fun _ _ _ h => h) (Or.inl ⟨by rfl, ?_⟩) (by assumption) ?_
            · (intro w1 hSw; (try dsimp only at hSw); go_simp)
            simp only [List.getElem_toArray, List.getElem_cons_succ, List.getElem_cons_zero, Act.put, List.setIfInBounds_toArray, List.set_cons_zero, List.set_cons_succ]
            refine wpAnyH_take (i := 2) (v := .agg #[.slice sa SL sc, .int .i64 s.lo, .int .i64 s.ne, .int .i64 s.ma]) rfl (by kernel_rfl) (by kernel_rfl) (by kernel_rfl) (fun _ _ _ h => h) (Or.inl ⟨by rfl, ?_⟩) (by assumption) ?_
            · (intro w1 hSw; (try dsimp only at hSw); go_simp)
            simp only [List.getElem_toArray, List.getElem_cons_succ, List.getElem_cons_zero, Act.put, List.setIfInBounds_toArray, List.set_cons_zero, List.set_cons_succ]
            refine wpAnyH_take (i := 4) (v := .agg #[.slice wa SL wc, .int .i64 s.lo, .int .i64 s.ne, .int .i64 s.ma]) rfl (by kernel_rfl) (by kernel_rfl) (by kernel_rfl) (fun _ _ _ h => h) (Or.inl ⟨by rfl, ?_⟩) (by assumption) ?_
            · (intro w1 hSw; (try dsimp only at hSw); go_simp)
            simp only [List.getElem_toArray, List.getElem_cons_succ, List.getElem_cons_zero, Act.put, List.setIfInBounds_toArray, List.set_cons_zero, List.set_cons_succ]
            refine wpAnyH_ready (rs := [3]) (by kernel_rfl) (by simp) ?_
            refine AllReadyH.cons (o := _) rfl (fun K hK => ?_) AllReadyH.nil
            go_simp
            refine (right13_any _ s u1 (HU.out.below HBu1.out)).mono ?_
            rintro e u2 ⟨rfl, hbu2⟩
            have HBu2 : Hid (Below w.heap.size w u2) := HBu1.out.trans (hbu2.mono HBu1.out.size)
            have HSu2 : Hid (u2.heap[w.heap.size]? = some (.cells #[.slice sa SL sc, .int .i64 s.lo, .int .i64 s.ne, .int .i64 s.ma] 24)) := (hbu2.block _ (by omega)).trans HSu1.out
            have HWu2 : Hid (u2.heap[P1]? = some (.cells #[.slice wa SL wc, .int .i64 s.lo, .int .i64 s.ne, .int .i64 s.ma] 31)) := (hbu2.block _ (by omega)).trans HWu1.out
            have HAu2 : Hid (u2.heap[P2]? = some (.cells #[.slice ta TL tc, .int .i64 t.lo, .int .i64 t.ne, .int .i64 t.ma] 24)) := (hbu2.block _ (by omega)).trans HAu1.out
            have HTu2 : Hid (u2.heap[v2.heap.size]? = some (.cells #[.slice ra TL rc, .int .i64 t.lo, .int .i64 t.ne, .int .i64 t.ma] 31)) := (hbu2.block _ (by omega)).trans HTu1.out
            have hzu2 : P2 < u2.heap.size ∧ v2.heap.size < u2.heap.size := by have := hbu2.size; omega
            have HRWu2 : Hid (UR u2 (.slice wa SL wc) s.ru) := HRWu1.out.below hbu2
            have HRAu2 : Hid (UR u2 (.slice ta TL tc) t.ru) := HRAu1.out.below hbu2
            have HRBu2 : Hid (UR u2 (.slice ra TL rc) t.ru) := HRBu1.out.below hbu2
            have HGu2 : Hid ((u2.cell? ⟨w.heap.size, 0, none⟩ = some (.slice sa SL sc) ∧ u2.cell? ⟨w.heap.size, 1, none⟩ = some (.int .i64 s.lo) ∧ u2.cell? ⟨w.heap.size, 2, none⟩ = some (.int .i64 s.ne) ∧ u2.cell? ⟨w.heap.size, 3, none⟩ = some (.int .i64 s.ma)) ∧ (u2.cell? ⟨P1, 0, none⟩ = some (.slice wa SL wc) ∧ u2.cell? ⟨P1, 1, none⟩ = some (.int .i64 s.lo) ∧ u2.cell? ⟨P1, 2, none⟩ = some (.int .i64 s.ne) ∧ u2.cell? ⟨P1, 3, none⟩ = some (.int .i64 s.ma)) ∧ (u2.cell? ⟨P2, 0, none⟩ = some (.slice ta TL tc) ∧ u2.cell? ⟨P2, 1, none⟩ = some (.int .i64 t.lo) ∧ u2.cell? ⟨P2, 2, none⟩ = some (.int .i64 t.ne) ∧ u2.cell? ⟨P2, 3, none⟩ = some (.int .i64 t.ma)) ∧ (u2.cell? ⟨v2.heap.size, 0, none⟩ = some (.slice ra TL rc) ∧ u2.cell? ⟨v2.heap.size, 1, none⟩ = some (.int .i64 t.lo) ∧ u2.cell? ⟨v2.heap.size, 2, none⟩ = some (.int .i64 t.ne) ∧ u2.cell? ⟨v2.heap.size, 3, none⟩ = some (.int .i64 t.ma))) := ⟨four13 HSu2.out, four13 HWu2.out, four13 HAu2.out, four13 HTu2.out⟩
            rw [← Hq.out]
            clear hbu2
            go_simp
            refine hK.out _ _ ?_ (fun hHeld => ?_)
            · exact HGu2.out
            clear hK K
            refine wpAnyH_ready (rs := [5]) (by kernel_rfl) (by simp) ?_
            refine AllReadyH.cons (o := _) rfl (fun K hK => ?_) AllReadyH.nil
            go_simp
            refine (refRight13_any _ s u2 HRWu2.out.r).mono ?_
            rintro e u3 ⟨rfl, hbu3⟩
            have HBu3 : Hid (Below w.heap.size w u3) := HBu2.out.trans (hbu3.mono HBu2.out.size)
            have HSu3 : Hid (u3.heap[w.heap.size]? = some (.cells #[.slice sa SL sc, .int .i64 s.lo, .int .i64 s.ne, .int .i64 s.ma] 24)) := (hbu3.block _ (by omega)).trans HSu2.out
            have HWu3 : Hid (u3.heap[P1]? = some (.cells #[.slice wa SL wc, .int .i64 s.lo, .int .i64 s.ne, .int .i64 s.ma] 31)) := (hbu3.block _ (by omega)).trans HWu2.out
            have HAu3 : Hid (u3.heap[P2]? = some (.cells #[.slice ta TL tc, .int .i64 t.lo, .int .i64 t.ne, .int .i64 t.ma] 24)) := (hbu3.block _ (by omega)).trans HAu2.out
            have HTu3 : Hid (u3.heap[v2.heap.size]? = some (.cells #[.slice ra TL rc, .int .i64 t.lo, .int .i64 t.ne, .int .i64 t.ma] 31)) := (hbu3.block _ (by omega)).trans HTu2.out
            have hzu3 : P2 < u3.heap.size ∧ v2.heap.size < u3.heap.size := by have := hbu3.size; omega
            have HRWu3 : Hid (UR u3 (.slice wa SL wc) s.ru) := HRWu2.out.below hbu3
            have HRAu3 : Hid (UR u3 (.slice ta TL tc) t.ru) := HRAu2.out.below hbu3
            have HRBu3 : Hid (UR u3 (.slice ra TL rc) t.ru) := HRBu2.out.below hbu3
            have HGu3 : Hid ((u3.cell? ⟨w.heap.size, 0, none⟩ = some (.slice sa SL sc) ∧ u3.cell? ⟨w.heap.size, 1, none⟩ = some (.int .i64 s.lo) ∧ u3.cell? ⟨w.heap.size, 2, none⟩ = some (.int .i64 s.ne) ∧ u3.cell? ⟨w.heap.size, 3, none⟩ = some (.int .i64 s.ma)) ∧ (u3.cell? ⟨P1, 0, none⟩ = some (.slice wa SL wc) ∧ u3.cell? ⟨P1, 1, none⟩ = some (.int .i64 s.lo) ∧ u3.cell? ⟨P1, 2, none⟩ = some (.int .i64 s.ne) ∧ u3.cell? ⟨P1, 3, none⟩ = some (.int .i64 s.ma)) ∧ (u3.cell? ⟨P2, 0, none⟩ = some (.slice ta TL tc) ∧ u3.cell? ⟨P2, 1, none⟩ = some (.int .i64 t.lo) ∧ u3.cell? ⟨P2, 2, none⟩ = some (.int .i64 t.ne) ∧ u3.cell? ⟨P2, 3, none⟩ = some (.int .i64 t.ma)) ∧ (u3.cell? ⟨v2.heap.size, 0, none⟩ = some (.slice ra TL rc) ∧ u3.cell? ⟨v2.heap.size, 1, none⟩ = some (.int .i64 t.lo) ∧ u3.cell? ⟨v2.heap.size, 2, none⟩ = some (.int .i64 t.ne) ∧ u3.cell? ⟨v2.heap.size, 3, none⟩ = some (.int .i64 t.ma))) := ⟨four13 HSu3.out, four13 HWu3.out, four13 HAu3.out, four13 HTu3.out⟩
            rw [← Hq.out]
            clear hbu3
            go_simp
            refine hK.out _ _ ?_ (fun hHeld => ?_)
            · exact HGu3.out
            clear hK K
            have hqq : (q == q) = true := by cases q <;> rfl
            refine wpAnyH_take (i := 6) (v := .bool true) rfl (by kernel_rfl) (by kernel_rfl) (by kernel_rfl) (fun _ _ _ h => h) (Or.inl ⟨by rfl, ?_⟩) (by assumption) ?_
            · (intro w1 hSw; (try dsimp only at hSw); go_simp)
            simp only [List.getElem_toArray, List.getElem_cons_succ, List.getElem_cons_zero, Act.put, List.setIfInBounds_toArray, List.set_cons_zero, List.set_cons_succ]
            refine wpAnyH_take (i := 7) (v := .bool true) rfl (by kernel_rfl) (by kernel_rfl) (by kernel_rfl) (fun _ _ _ h => h) (Or.inl ⟨by rfl, ?_⟩) (by assumption) ?_
            · (intro w1 hSw; (try dsimp only at hSw); go_simp)
            simp only [List.getElem_toArray, List.getElem_cons_succ, List.getElem_cons_zero, Act.put, List.setIfInBounds_toArray, List.set_cons_zero, List.set_cons_succ]
            refine wpAnyH_take (i := 8) (v := .bool true) rfl (by kernel_rfl) (by kernel_rfl) (by kernel_rfl) (fun _ _ _ h => h) (Or.inl ⟨by rfl, ?_⟩) (by assumption) ?_
            · (intro w1 hSw; (try dsimp only at hSw); go_simp)
            simp only [List.getElem_toArray, List.getElem_cons_succ, List.getElem_cons_zero, Act.put, List.setIfInBounds_toArray, List.set_cons_zero, List.set_cons_succ]
            refine wpAnyH_take (i := 9) (v := .agg #[.slice ta TL tc, .int .i64 t.lo, .int .i64 t.ne, .int .i64 t.ma]) rfl (by kernel_rfl) (by kernel_rfl) (by kernel_rfl) (fun _ _ _ h => h) (Or.inl ⟨by rfl, ?_⟩) (by assumption) ?_
            · (intro w1 hSw; (try dsimp only at hSw); go_simp)
            simp only [List.getElem_toArray, List.getElem_cons_succ, List.getElem_cons_zero, Act.put, List.setIfInBounds_toArray, List.set_cons_zero, List.set_cons_succ]
            refine wpAnyH_take (i := 11) (v := .agg #[.slice ra TL rc, .int .i64 t.lo, .int .i64 t.ne, .int .i64 t.ma]) rfl (by kernel_rfl) (by kernel_rfl) (by kernel_rfl) (fun _ _ _ h => h) (Or.inl ⟨by rfl, ?_⟩) (by assumption) ?_
            · (intro w1 hSw; (try dsimp only at hSw); go_simp)
            simp only [List.getElem_toArray, List.getElem_cons_succ, List.getElem_cons_zero, Act.put, List.setIfInBounds_toArray, List.set_cons_zero, List.set_cons_succ]
            refine wpAnyH_ready (rs := [10]) (by kernel_rfl) (by simp) ?_
            refine AllReadyH.cons (o := _) rfl (fun K hK => ?_) AllReadyH.nil
            go_simp
            refine (as13_any _ t u3 HRAu3.out.r HTl.out).mono ?_
            rintro e u4 ⟨v4, rfl, hr4, hbu4⟩
            have HBu4 : Hid (Below w.heap.size w u4) := HBu3.out.trans (hbu4.mono HBu3.out.size)
            have HSu4 : Hid (u4.heap[w.heap.size]? = some (.cells #[.slice sa SL sc, .int .i64 s.lo, .int .i64 s.ne, .int .i64 s.ma] 24)) := (hbu4.block _ (by omega)).trans HSu3.out
            have HWu4 : Hid (u4.heap[P1]? = some (.cells #[.slice wa SL wc, .int .i64 s.lo, .int .i64 s.ne, .int .i64 s.ma] 31)) := (hbu4.block _ (by omega)).trans HWu3.out
            have HAu4 : Hid (u4.heap[P2]? = some (.cells #[.slice ta TL tc, .int .i64 t.lo, .int .i64 t.ne, .int .i64 t.ma] 24)) := (hbu4.block _ (by omega)).trans HAu3.out
            have HTu4 : Hid (u4.heap[v2.heap.size]? = some (.cells #[.slice ra TL rc, .int .i64 t.lo, .int .i64 t.ne, .int .i64 t.ma] 31)) := (hbu4.block _ (by omega)).trans HTu3.out
            have hzu4 : P2 < u4.heap.size ∧ v2.heap.size < u4.heap.size := by have := hbu4.size; omega
            have HRWu4 : Hid (UR u4 (.slice wa SL wc) s.ru) := HRWu3.out.below hbu4
            have HRAu4 : Hid (UR u4 (.slice ta TL tc) t.ru) := HRAu3.out.below hbu4
            have HRBu4 : Hid (UR u4 (.slice ra TL rc) t.ru) := HRBu3.out.below hbu4
            have HGu4 : Hid ((u4.cell? ⟨w.heap.size, 0, none⟩ = some (.slice sa SL sc) ∧ u4.cell? ⟨w.heap.size, 1, none⟩ = some (.int .i64 s.lo) ∧ u4.cell? ⟨w.heap.size, 2, none⟩ = some (.int .i64 s.ne) ∧ u4.cell? ⟨w.heap.size, 3, none⟩ = some (.int .i64 s.ma)) ∧ (u4.cell? ⟨P1, 0, none⟩ = some (.slice wa SL wc) ∧ u4.cell? ⟨P1, 1, none⟩ = some (.int .i64 s.lo) ∧ u4.cell? ⟨P1, 2, none⟩ = some (.int .i64 s.ne) ∧ u4.cell? ⟨P1, 3, none⟩ = some (.int .i64 s.ma)) ∧ (u4.cell? ⟨P2, 0, none⟩ = some (.slice ta TL tc) ∧ u4.cell? ⟨P2, 1, none⟩ = some (.int .i64 t.lo) ∧ u4.cell? ⟨P2, 2, none⟩ = some (.int .i64 t.ne) ∧ u4.cell? ⟨P2, 3, none⟩ = some (.int .i64 t.ma)) ∧ (u4.cell? ⟨v2.heap.size, 0, none⟩ = some (.slice ra TL rc) ∧ u4.cell? ⟨v2.heap.size, 1, none⟩ = some (.int .i64 t.lo) ∧ u4.cell? ⟨v2.heap.size, 2, none⟩ = some (.int .i64 t.ne) ∧ u4.cell? ⟨v2.heap.size, 3, none⟩ = some (.int .i64 t.ma))) := ⟨four13 HSu4.out, four13 HWu4.out, four13 HAu4.out, four13 HTu4.out⟩
            have HR4 : Hid (RuR u4 v4 t.ru) := hr4
            clear hr4
            obtain ⟨va4, vc4, hv4, _⟩ := HR4.out.form
            rw [HTL.out] at hv4
            subst hv4
            clear hbu4
            go_simp
            refine hK.out _ _ ?_ (fun hHeld => ?_)
            · exact HGu4.out
            clear hK K
            refine wpAnyH_ready (rs := [12]) (by kernel_rfl) (by simp) ?_
            refine AllReadyH.cons (o := _) rfl (fun K hK => ?_) AllReadyH.nil
            go_simp
            refine (same13_any _ _ t.ru t.ru t.lo t.ne t.ma t.lo t.ne t.ma u4 HR4.out HRBu4.out.r).mono ?_
            rintro e u5 ⟨b5, rfl, hr5, hbu5⟩
            have HBu5 : Hid (Below w.heap.size w u5) := HBu4.out.trans (hbu5.mono HBu4.out.size)
            have HSu5 : Hid (u5.heap[w.heap.size]? = some (.cells #[.slice sa SL sc, .int .i64 s.lo, .int .i64 s.ne, .int .i64 s.ma] 24)) := (hbu5.block _ (by omega)).trans HSu4.out
            have HWu5 : Hid (u5.heap[P1]? = some (.cells #[.slice wa SL wc, .int .i64 s.lo, .int .i64 s.ne, .int .i64 s.ma] 31)) := (hbu5.block _ (by omega)).trans HWu4.out
            have HAu5 : Hid (u5.heap[P2]? = some (.cells #[.slice ta TL tc, .int .i64 t.lo, .int .i64 t.ne, .int .i64 t.ma] 24)) := (hbu5.block _ (by omega)).trans HAu4.out
            have HTu5 : Hid (u5.heap[v2.heap.size]? = some (.cells #[.slice ra TL rc, .int .i64 t.lo, .int .i64 t.ne, .int .i64 t.ma] 31)) := (hbu5.block _ (by omega)).trans HTu4.out
            have hzu5 : P2 < u5.heap.size ∧ v2.heap.size < u5.heap.size := by have := hbu5.size; omega
            have HRWu5 : Hid (UR u5 (.slice wa SL wc) s.ru) := HRWu4.out.below hbu5
            have HRAu5 : Hid (UR u5 (.slice ta TL tc) t.ru) := HRAu4.out.below hbu5
            have HRBu5 : Hid (UR u5 (.slice ra TL rc) t.ru) := HRBu4.out.below hbu5
            have HGu5 : Hid ((u5.cell? ⟨w.heap.size, 0, none⟩ = some (.slice sa SL sc) ∧ u5.cell? ⟨w.heap.size, 1, none⟩ = some (.int .i64 s.lo) ∧ u5.cell? ⟨w.heap.size, 2, none⟩ = some (.int .i64 s.ne) ∧ u5.cell? ⟨w.heap.size, 3, none⟩ = some (.int .i64 s.ma)) ∧ (u5.cell? ⟨P1, 0, none⟩ = some (.slice wa SL wc) ∧ u5.cell? ⟨P1, 1, none⟩ = some (.int .i64 s.lo) ∧ u5.cell? ⟨P1, 2, none⟩ = some (.int .i64 s.ne) ∧ u5.cell? ⟨P1, 3, none⟩ = some (.int .i64 s.ma)) ∧ (u5.cell? ⟨P2, 0, none⟩ = some (.slice ta TL tc) ∧ u5.cell? ⟨P2, 1, none⟩ = some (.int .i64 t.lo) ∧ u5.cell? ⟨P2, 2, none⟩ = some (.int .i64 t.ne) ∧ u5.cell? ⟨P2, 3, none⟩ = some (.int .i64 t.ma)) ∧ (u5.cell? ⟨v2.heap.size, 0, none⟩ = some (.slice ra TL rc) ∧ u5.cell? ⟨v2.heap.size, 1, none⟩ = some (.int .i64 t.lo) ∧ u5.cell? ⟨v2.heap.size, 2, none⟩ = some (.int .i64 t.ne) ∧ u5.cell? ⟨v2.heap.size, 3, none⟩ = some (.int .i64 t.ma))) := ⟨four13 HSu5.out, four13 HWu5.out, four13 HAu5.out, four13 HTu5.out⟩
            obtain rfl := hr5 ⟨rfl, rfl, rfl, rfl⟩
            clear hr5
            clear hbu5
            go_simp
            refine hK.out _ _ ?_ (fun hHeld => ?_)
            · exact HGu5.out
            clear hK K
            refine wpAnyH_take (i := 13) (v := .bool true) rfl (by kernel_rfl) (by kernel_rfl) (by kernel_rfl) (fun _ _ _ h => h) (Or.inl ⟨by rfl, ?_⟩) (by assumption) ?_
            · (intro w1 hSw; (try dsimp only at hSw); go_simp)
            simp only [List.getElem_toArray, List.getElem_cons_succ, List.getElem_cons_zero, Act.put, List.setIfInBounds_toArray, List.set_cons_zero, List.set_cons_succ]
            refine wpAnyH_take (i := 14) (v := .bool true) rfl (by kernel_rfl) (by kernel_rfl) (by kernel_rfl) (fun _ _ _ h => h) (Or.inl ⟨by rfl, ?_⟩) (by assumption) ?_
            · (intro w1 hSw; (try dsimp only at hSw); go_simp)
            simp only [List.getElem_toArray, List.getElem_cons_succ, List.getElem_cons_zero, Act.put, List.setIfInBounds_toArray, List.set_cons_zero, List.set_cons_succ]
            refine wpAnyH_take (i := 15) (v := .int .i64 C) rfl (by kernel_rfl) (by kernel_rfl) (by kernel_rfl) (fun _ _ _ h => h) (Or.inl ⟨by rfl, ?_⟩) (by assumption) ?_
            · (intro w1 hSw; (try dsimp only at hSw); go_simp)
            simp only [List.getElem_toArray, List.getElem_cons_succ, List.getElem_cons_zero, Act.put, List.setIfInBounds_toArray, List.set_cons_zero, List.set_cons_succ]
            refine wpAnyH_take (i := 16) (v := .int .i64 C) rfl (by kernel_rfl) (by kernel_rfl) (by kernel_rfl) (fun _ _ _ h => h) (Or.inl ⟨by rfl, ?_⟩) (by assumption) ?_
            · (intro w1 hSw; (try dsimp only at hSw); go_simp)
            simp only [List.getElem_toArray, List.getElem_cons_succ, List.getElem_cons_zero, Act.put, List.setIfInBounds_toArray, List.set_cons_zero, List.set_cons_succ]
            refine wpAnyH_take (i := 17) (v := .bool true) rfl (by kernel_rfl) (by kernel_rfl) (by kernel_rfl) (fun _ _ _ h => h) (Or.inl ⟨by rfl, ?_⟩) (by assumption) ?_
            · (intro w1 hSw; (try dsimp only at hSw); go_simp)
            simp only [List.getElem_toArray, List.getElem_cons_succ, List.getElem_cons_zero, Act.put, List.setIfInBounds_toArray, List.set_cons_zero, List.set_cons_succ]
            refine wpAnyH_take (i := 18) (v := .bool true) rfl (by kernel_rfl) (by kernel_rfl) (by kernel_rfl) (fun _ _ _ h => h) (Or.inl ⟨by rfl, ?_⟩) (by assumption) ?_
            · (intro w1 hSw; (try dsimp only at hSw); go_simp)
            simp only [List.getElem_toArray, List.getElem_cons_succ, List.getElem_cons_zero, Act.put, List.setIfInBounds_toArray, List.set_cons_zero, List.set_cons_succ]
            refine wpAnyH_take (i := 19) (v := .bool true) rfl (by kernel_rfl) (by kernel_rfl) (by kernel_rfl) (fun _ _ _ h => h) (Or.inl ⟨by rfl, ?_⟩) (by assumption) ?_
            · (intro w1 hSw; (try dsimp only at hSw); go_simp)
            simp only [List.getElem_toArray, List.getElem_cons_succ, List.getElem_cons_zero, Act.put, List.setIfInBounds_toArray, List.set_cons_zero, List.set_cons_succ]
            refine wpAnyH_take (i := 20) (v := .agg #[.slice sa SL sc, .int .i64 s.lo, .int .i64 s.ne, .int .i64 s.ma]) rfl (by kernel_rfl) (by kernel_rfl) (by kernel_rfl) (fun _ _ _ h => h) (Or.inl ⟨by rfl, ?_⟩) (by assumption) ?_
            · (intro w1 hSw; (try dsimp only at hSw); go_simp)
            simp only [List.getElem_toArray, List.getElem_cons_succ, List.getElem_cons_zero, Act.put, List.setIfInBounds_toArray, List.set_cons_zero, List.set_cons_succ]
            refine wpAnyH_take (i := 22) (v := .agg #[.slice wa SL wc, .int .i64 s.lo, .int .i64 s.ne, .int .i64 s.ma]) rfl (by kernel_rfl) (by kernel_rfl) (by kernel_rfl) (fun _ _ _ h => h) (Or.inl ⟨by rfl, ?_⟩) (by assumption) ?_
            · (intro w1 hSw; (try dsimp only at hSw); go_simp)
            simp only [List.getElem_toArray, List.getElem_cons_succ, List.getElem_cons_zero, Act.put, List.setIfInBounds_toArray, List.set_cons_zero, List.set_cons_succ]
            refine wpAnyH_ready (rs := [21]) (by kernel_rfl) (by simp) ?_
            refine AllReadyH.cons (o := _) rfl (fun K hK => ?_) AllReadyH.nil
            go_simp
            refine (as13_any _ s u5 (HU.out.below HBu5.out).r (by rw [HSL.out]; omega)).mono ?_
            rintro e u6 ⟨v6, rfl, hr6, hbu6⟩
            have HBu6 : Hid (Below w.heap.size w u6) := HBu5.out.trans (hbu6.mono HBu5.out.size)
            have HSu6 : Hid (u6.heap[w.heap.size]? = some (.cells #[.slice sa SL sc, .int .i64 s.lo, .int .i64 s.ne, .int .i64 s.ma] 24)) := (hbu6.block _ (by omega)).trans HSu5.out
            have HWu6 : Hid (u6.heap[P1]? = some (.cells #[.slice wa SL wc, .int .i64 s.lo, .int .i64 s.ne, .int .i64 s.ma] 31)) := (hbu6.block _ (by omega)).trans HWu5.out
            have HAu6 : Hid (u6.heap[P2]? = some (.cells #[.slice ta TL tc, .int .i64 t.lo, .int .i64 t.ne, .int .i64 t.ma] 24)) := (hbu6.block _ (by omega)).trans HAu5.out
            have HTu6 : Hid (u6.heap[v2.heap.size]? = some (.cells #[.slice ra TL rc, .int .i64 t.lo, .int .i64 t.ne, .int .i64 t.ma] 31)) := (hbu6.block _ (by omega)).trans HTu5.out
            have hzu6 : P2 < u6.heap.size ∧ v2.heap.size < u6.heap.size := by have := hbu6.size; omega
            have HRWu6 : Hid (UR u6 (.slice wa SL wc) s.ru) := HRWu5.out.below hbu6
            have HRAu6 : Hid (UR u6 (.slice ta TL tc) t.ru) := HRAu5.out.below hbu6
            have HRBu6 : Hid (UR u6 (.slice ra TL rc) t.ru) := HRBu5.out.below hbu6
            have HGu6 : Hid ((u6.cell? ⟨w.heap.size, 0, none⟩ = some (.slice sa SL sc) ∧ u6.cell? ⟨w.heap.size, 1, none⟩ = some (.int .i64 s.lo) ∧ u6.cell? ⟨w.heap.size, 2, none⟩ = some (.int .i64 s.ne) ∧ u6.cell? ⟨w.heap.size, 3, none⟩ = some (.int .i64 s.ma)) ∧ (u6.cell? ⟨P1, 0, none⟩ = some (.slice wa SL wc) ∧ u6.cell? ⟨P1, 1, none⟩ = some (.int .i64 s.lo) ∧ u6.cell? ⟨P1, 2, none⟩ = some (.int .i64 s.ne) ∧ u6.cell? ⟨P1, 3, none⟩ = some (.int .i64 s.ma)) ∧ (u6.cell? ⟨P2, 0, none⟩ = some (.slice ta TL tc) ∧ u6.cell? ⟨P2, 1, none⟩ = some (.int .i64 t.lo) ∧ u6.cell? ⟨P2, 2, none⟩ = some (.int .i64 t.ne) ∧ u6.cell? ⟨P2, 3, none⟩ = some (.int .i64 t.ma)) ∧ (u6.cell? ⟨v2.heap.size, 0, none⟩ = some (.slice ra TL rc) ∧ u6.cell? ⟨v2.heap.size, 1, none⟩ = some (.int .i64 t.lo) ∧ u6.cell? ⟨v2.heap.size, 2, none⟩ = some (.int .i64 t.ne) ∧ u6.cell? ⟨v2.heap.size, 3, none⟩ = some (.int .i64 t.ma))) := ⟨four13 HSu6.out, four13 HWu6.out, four13 HAu6.out, four13 HTu6.out⟩
            have HR6 : Hid (RuR u6 v6 s.ru) := hr6
            clear hr6
            obtain ⟨va6, vc6, hv6, _⟩ := HR6.out.form
            rw [HSL.out] at hv6
            subst hv6
            clear hbu6
            go_simp
            refine hK.out _ _ ?_ (fun hHeld => ?_)
            · exact HGu6.out
            clear hK K
            refine wpAnyH_ready (rs := [23]) (by kernel_rfl) (by simp) ?_
            refine AllReadyH.cons (o := _) rfl (fun K hK => ?_) AllReadyH.nil
            go_simp
            refine (same13_any _ _ s.ru s.ru s.lo s.ne s.ma s.lo s.ne s.ma u6 HR6.out HRWu6.out.r).mono ?_
            rintro e u7 ⟨b7, rfl, hr7, hbu7⟩
            have HBu7 : Hid (Below w.heap.size w u7) := HBu6.out.trans (hbu7.mono HBu6.out.size)
            have HSu7 : Hid (u7.heap[w.heap.size]? = some (.cells #[.slice sa SL sc, .int .i64 s.lo, .int .i64 s.ne, .int .i64 s.ma] 24)) := (hbu7.block _ (by omega)).trans HSu6.out
            have HWu7 : Hid (u7.heap[P1]? = some (.cells #[.slice wa SL wc, .int .i64 s.lo, .int .i64 s.ne, .int .i64 s.ma] 31)) := (hbu7.block _ (by omega)).trans HWu6.out
            have HAu7 : Hid (u7.heap[P2]? = some (.cells #[.slice ta TL tc, .int .i64 t.lo, .int .i64 t.ne, .int .i64 t.ma] 24)) := (hbu7.block _ (by omega)).trans HAu6.out
            have HTu7 : Hid (u7.heap[v2.heap.size]? = some (.cells #[.slice ra TL rc, .int .i64 t.lo, .int .i64 t.ne, .int .i64 t.ma] 31)) := (hbu7.block _ (by omega)).trans HTu6.out
            have hzu7 : P2 < u7.heap.size ∧ v2.heap.size < u7.heap.size := by have := hbu7.size; omega
            have HRWu7 : Hid (UR u7 (.slice wa SL wc) s.ru) := HRWu6.out.below hbu7
            have HRAu7 : Hid (UR u7 (.slice ta TL tc) t.ru) := HRAu6.out.below hbu7
            have HRBu7 : Hid (UR u7 (.slice ra TL rc) t.ru) := HRBu6.out.below hbu7
            have HGu7 : Hid ((u7.cell? ⟨w.heap.size, 0, none⟩ = some (.slice sa SL sc) ∧ u7.cell? ⟨w.heap.size, 1, none⟩ = some (.int .i64 s.lo) ∧ u7.cell? ⟨w.heap.size, 2, none⟩ = some (.int .i64 s.ne) ∧ u7.cell? ⟨w.heap.size, 3, none⟩ = some (.int .i64 s.ma)) ∧ (u7.cell? ⟨P1, 0, none⟩ = some (.slice wa SL wc) ∧ u7.cell? ⟨P1, 1, none⟩ = some (.int .i64 s.lo) ∧ u7.cell? ⟨P1, 2, none⟩ = some (.int .i64 s.ne) ∧ u7.cell? ⟨P1, 3, none⟩ = some (.int .i64 s.ma)) ∧ (u7.cell? ⟨P2, 0, none⟩ = some (.slice ta TL tc) ∧ u7.cell? ⟨P2, 1, none⟩ = some (.int .i64 t.lo) ∧ u7.cell? ⟨P2, 2, none⟩ = some (.int .i64 t.ne) ∧ u7.cell? ⟨P2, 3, none⟩ = some (.int .i64 t.ma)) ∧ (u7.cell? ⟨v2.heap.size, 0, none⟩ = some (.slice ra TL rc) ∧ u7.cell? ⟨v2.heap.size, 1, none⟩ = some (.int .i64 t.lo) ∧ u7.cell? ⟨v2.heap.size, 2, none⟩ = some (.int .i64 t.ne) ∧ u7.cell? ⟨v2.heap.size, 3, none⟩ = some (.int .i64 t.ma))) := ⟨four13 HSu7.out, four13 HWu7.out, four13 HAu7.out, four13 HTu7.out⟩
            obtain rfl := hr7 ⟨rfl, rfl, rfl, rfl⟩
            clear hr7
            clear hbu7
            go_simp
            refine hK.out _ _ ?_ (fun hHeld => ?_)
            · exact HGu7.out
            clear hK K
            refine wpAnyH_take (i := 24) (v := .bool true) rfl (by kernel_rfl) (by kernel_rfl) (by kernel_rfl) (fun _ _ _ h => h) (Or.inl ⟨by rfl, ?_⟩) (by assumption) ?_
            · (intro w1 hSw; (try dsimp only at hSw); go_simp)
            simp only [List.getElem_toArray, List.getElem_cons_succ, List.getElem_cons_zero, Act.put, List.setIfInBounds_toArray, List.set_cons_zero, List.set_cons_succ]
            refine wpAnyH_ready (rs := [25]) (by kernel_rfl) (by simp) ?_
            refine AllReadyH.cons (o := _) rfl (fun K hK => ?_) AllReadyH.nil
            go_simp
            refine hK.out _ _ ?_ (fun hHeld => ?_)
            · exact HGu7.out
            clear hK K
            refine wpAnyH_done (by kernel_rfl) ?_ _
            refine NoPanic.normal ?_
            go_wp2_with fail
            go_ret
            exact ⟨rfl, HBu7.out⟩
          · have HO2 : Hid (P2 = P2) := rfl
            go_simp
            obtain ⟨v2, HNv2⟩ := hid_ex (v1.alloc (.cells #[.slice none 0 0, .int .i64 0, .int .i64 0, .int .i64 0] 31))
            have hbv2 : Below v1.heap.size v1 v2 := by rw [HNv2.out]; exact (Below.refl _ _).alloc (Nat.le_refl _) _
            have HQv2 : Hid (v2.heap[v1.heap.size]? = some (.cells #[.slice none 0 0, .int .i64 0, .int .i64 0, .int .i64 0] 31)) := by unfold Hid; rw [HNv2.out]; exact heap_alloc_new _ _
            have HBv2 : Hid (Below w.heap.size w v2) := HBv1.out.trans (hbv2.mono HBv1.out.size)
            have HSv2 : Hid (v2.heap[w.heap.size]? = some (.cells #[.slice sa SL sc, .int .i64 s.lo, .int .i64 s.ne, .int .i64 s.ma] 24)) := (hbv2.block _ (by omega)).trans HSv1.out
            have HXv2 : Hid (v2.heap[w.heap.size + 1]? = some (.cells #[.slice da DL dc, .slice aa AL ac, .int .i64 x.lo, .int .i64 x.ne, .int .i64 x.ma] 27)) := (hbv2.block _ (by omega)).trans HXv1.out
            have HWv2 : Hid (v2.heap[P1]? = some (.cells #[.slice wa SL wc, .int .i64 s.lo, .int .i64 s.ne, .int .i64 s.ma] 31)) := (hbv2.block _ (by omega)).trans HWv1.out
            have HAv2 : Hid (v2.heap[P2]? = some (.cells #[.slice ta TL tc, .int .i64 t.lo, .int .i64 t.ne, .int .i64 t.ma] 24)) := (hbv2.block _ (by omega)).trans HAv1.out
            have hzv2 : P2 < v2.heap.size := by have := hbv2.size; omega
            have hszv2 : v0.heap.size ≤ v2.heap.size := by have := hbv2.size; omega
            have HFv2 : Hid ((v2.cell? ⟨P1, 0, none⟩ = some (.slice wa SL wc) ∧ v2.cell? ⟨P1, 1, none⟩ = some (.int .i64 s.lo) ∧ v2.cell? ⟨P1, 2, none⟩ = some (.int .i64 s.ne) ∧ v2.cell? ⟨P1, 3, none⟩ = some (.int .i64 s.ma)) ∧ v2.cell? ⟨w.heap.size + 1, 0, none⟩ = some (.slice da DL dc) ∧ v2.cell? ⟨w.heap.size + 1, 1, none⟩ = some (.slice aa AL ac) ∧ v2.cell? ⟨w.heap.size + 1, 2, none⟩ = some (.int .i64 x.lo) ∧ v2.cell? ⟨w.heap.size + 1, 3, none⟩ = some (.int .i64 x.ne) ∧ v2.cell? ⟨w.heap.size + 1, 4, none⟩ = some (.int .i64 x.ma)) := ⟨four13 HWv2.out, five HXv2.out⟩
            have hlqv2 : v1.heap.size < v2.heap.size := (Array.getElem?_eq_some_iff.1 HQv2.out).1
            have hpq : P2 < v1.heap.size := hzv1
            have HRWv2 : Hid (UR v2 (.slice wa SL wc) s.ru) := HRWv1.out.below hbv2
            have HRAv2 : Hid (UR v2 (.slice ta TL tc) t.ru) := HRAv1.out.below hbv2
            have HREv2 : Hid (EdR v2 (.slice da DL dc) (.slice ea AL ec) x) := HREv1.out.below hbv2
            rw [← HNv2.out]
            clear HNv2
            refine hK.out _ _ ?_ (fun hHeld => ?_)
            · exact HFv2.out
            clear hK K
            refine wpAnyH_ready (rs := [3]) (by kernel_rfl) (by simp) ?_
            refine AllReadyH.cons (o := _) rfl (fun K hK => ?_) AllReadyH.nil
            go_simp
            refine (refApply_any _ _ _ s x v2 HRWv2.out HREv2.out.d HREv2.out.a (by rw [HSL.out]; omega) (by rw [HAL.out]; omega)).mono ?_
            rintro e v3 ⟨vr, hvr, hur, hbv3⟩
            rw [← Ht.out, ← HC.out] at hvr
            rw [← Ht.out] at hur
            subst hvr
            have HBv3 : Hid (Below w.heap.size w v3) := HBv2.out.trans (hbv3.mono HBv2.out.size)
            have HSv3 : Hid (v3.heap[w.heap.size]? = some (.cells #[.slice sa SL sc, .int .i64 s.lo, .int .i64 s.ne, .int .i64 s.ma] 24)) := (hbv3.block _ (by omega)).trans HSv2.out
            have HXv3 : Hid (v3.heap[w.heap.size + 1]? = some (.cells #[.slice da DL dc, .slice aa AL ac, .int .i64 x.lo, .int .i64 x.ne, .int .i64 x.ma] 27)) := (hbv3.block _ (by omega)).trans HXv2.out
            have HWv3 : Hid (v3.heap[P1]? = some (.cells #[.slice wa SL wc, .int .i64 s.lo, .int .i64 s.ne, .int .i64 s.ma] 31)) := (hbv3.block _ (by omega)).trans HWv2.out
            have HAv3 : Hid (v3.heap[P2]? = some (.cells #[.slice ta TL tc, .int .i64 t.lo, .int .i64 t.ne, .int .i64 t.ma] 24)) := (hbv3.block _ (by omega)).trans HAv2.out
            have hzv3 : P2 < v3.heap.size := by have := hbv3.size; omega
            have hszv3 : v0.heap.size ≤ v3.heap.size := by have := hbv3.size; omega
            have HFv3 : Hid ((v3.cell? ⟨P1, 0, none⟩ = some (.slice wa SL wc) ∧ v3.cell? ⟨P1, 1, none⟩ = some (.int .i64 s.lo) ∧ v3.cell? ⟨P1, 2, none⟩ = some (.int .i64 s.ne) ∧ v3.cell? ⟨P1, 3, none⟩ = some (.int .i64 s.ma)) ∧ v3.cell? ⟨w.heap.size + 1, 0, none⟩ = some (.slice da DL dc) ∧ v3.cell? ⟨w.heap.size + 1, 1, none⟩ = some (.slice aa AL ac) ∧ v3.cell? ⟨w.heap.size + 1, 2, none⟩ = some (.int .i64 x.lo) ∧ v3.cell? ⟨w.heap.size + 1, 3, none⟩ = some (.int .i64 x.ne) ∧ v3.cell? ⟨w.heap.size + 1, 4, none⟩ = some (.int .i64 x.ma)) := ⟨four13 HWv3.out, five HXv3.out⟩
            have HRWv3 : Hid (UR v3 (.slice wa SL wc) s.ru) := HRWv2.out.below hbv3
            have HRAv3 : Hid (UR v3 (.slice ta TL tc) t.ru) := HRAv2.out.below hbv3
            obtain ⟨ra, rc, hvr2, _⟩ := hur.r.form
            rw [HTL.out] at hvr2
            subst hvr2
            have HRBv3 : Hid (UR v3 (.slice ra TL rc) t.ru) := hur
            clear hur
            have HQv3 : Hid (v3.heap[v1.heap.size]? = some (.cells #[.slice none 0 0, .int .i64 0, .int .i64 0, .int .i64 0] 31)) := (hbv3.block _ (by omega)).trans HQv2.out
            have hlqv3 : v1.heap.size < v3.heap.size := by have := hbv3.size; omega
            go_simp
            refine hK.out _ _ ?_ (fun hHeld => ?_)
            · exact HFv3.out
            clear hK K
            refine wpAnyH_take (i := 4) (v := .tuple #[.agg #[.slice ra TL rc, .int .i64 t.lo, .int .i64 t.ne, .int .i64 t.ma], .int .i64 C]) rfl (by kernel_rfl) (by kernel_rfl) (by kernel_rfl) (fun _ _ _ h => h) (Or.inl ⟨by rfl, ?_⟩) (by assumption) ?_
            · (intro w1 hSw; (try dsimp only at hSw); go_simp)
            simp only [List.getElem_toArray, List.getElem_cons_succ, List.getElem_cons_zero, Act.put, List.setIfInBounds_toArray, List.set_cons_zero, List.set_cons_succ]
            refine wpAnyH_take (i := 5) (v := .agg #[.slice ra TL rc, .int .i64 t.lo, .int .i64 t.ne, .int .i64 t.ma]) rfl (by kernel_rfl) (by kernel_rfl) (by kernel_rfl) (fun _ _ _ h => h) (Or.inl ⟨by rfl, ?_⟩) (by assumption) ?_
            · (intro w1 hSw; (try dsimp only at hSw); go_simp)
            simp only [List.getElem_toArray, List.getElem_cons_succ, List.getElem_cons_zero, Act.put, List.setIfInBounds_toArray, List.set_cons_zero, List.set_cons_succ]
            refine wpAnyH_take (i := 6) (v := .int .i64 C) rfl (by kernel_rfl) (by kernel_rfl) (by kernel_rfl) (fun _ _ _ h => h) (Or.inl ⟨by rfl, ?_⟩) (by assumption) ?_
            · (intro w1 hSw; (try dsimp only at hSw); go_simp)
            simp only [List.getElem_toArray, List.getElem_cons_succ, List.getElem_cons_zero, Act.put, List.setIfInBounds_toArray, List.set_cons_zero, List.set_cons_succ]
            have HOn : Hid (([.slice ra TL rc, .int .i64 t.lo, .int .i64 t.ne, .int .i64 t.ma] : List Value).toArray.all (·.oneCell') = true) := by unfold Hid; kernel_rfl
            refine wpAnyH_ready (rs := [8]) (by kernel_rfl) (by simp) ?_
            refine AllReadyH.cons (o := _) rfl (fun K hK => ?_) AllReadyH.nil
            refine wp_storeN _ _ _ rfl (v1.heap.size) 0 [.slice ra TL rc, .int .i64 t.lo, .int .i64 t.ne, .int .i64 t.ma] rfl rfl _ _ HQv3.out (by simp) (by kernel_rfl) HOn.out (fun u0 hu0 => ?_)
            have HT0 : Hid (u0.heap[v1.heap.size]? = some (.cells #[.slice ra TL rc, .int .i64 t.lo, .int .i64 t.ne, .int .i64 t.ma] 31)) := stW_all hu0 (by simp)
            have hot : ∀ k, k ≠ v1.heap.size → u0.heap[k]? = v3.heap[k]? := hu0.o
            have HSu0 : Hid (u0.heap[w.heap.size]? = some (.cells #[.slice sa SL sc, .int .i64 s.lo, .int .i64 s.ne, .int .i64 s.ma] 24)) := (hot _ (by omega)).trans HSv3.out
            have HXu0 : Hid (u0.heap[w.heap.size + 1]? = some (.cells #[.slice da DL dc, .slice aa AL ac, .int .i64 x.lo, .int .i64 x.ne, .int .i64 x.ma] 27)) := (hot _ (by omega)).trans HXv3.out
            have HWu0 : Hid (u0.heap[P1]? = some (.cells #[.slice wa SL wc, .int .i64 s.lo, .int .i64 s.ne, .int .i64 s.ma] 31)) := (hot _ (by omega)).trans HWv3.out
            have HAu0 : Hid (u0.heap[P2]? = some (.cells #[.slice ta TL tc, .int .i64 t.lo, .int .i64 t.ne, .int .i64 t.ma] 24)) := (hot _ (by omega)).trans HAv3.out
            have HBu0 : Hid (Below w.heap.size w u0) := HBv3.out.trans (hu0.b _ (by omega))
            have HFu0 : Hid ((u0.cell? ⟨P1, 0, none⟩ = some (.slice wa SL wc) ∧ u0.cell? ⟨P1, 1, none⟩ = some (.int .i64 s.lo) ∧ u0.cell? ⟨P1, 2, none⟩ = some (.int .i64 s.ne) ∧ u0.cell? ⟨P1, 3, none⟩ = some (.int .i64 s.ma)) ∧ u0.cell? ⟨w.heap.size + 1, 0, none⟩ = some (.slice da DL dc) ∧ u0.cell? ⟨w.heap.size + 1, 1, none⟩ = some (.slice aa AL ac) ∧ u0.cell? ⟨w.heap.size + 1, 2, none⟩ = some (.int .i64 x.lo) ∧ u0.cell? ⟨w.heap.size + 1, 3, none⟩ = some (.int .i64 x.ne) ∧ u0.cell? ⟨w.heap.size + 1, 4, none⟩ = some (.int .i64 x.ma)) := ⟨four13 HWu0.out, five HXu0.out⟩
            have HLw : Hid (0 < s.ru.length → ∀ b off n c, (Value.slice wa SL wc) = .slice (some ⟨b, off, none⟩) n c → b ≠ v1.heap.size) := fun h0 b off n c e => notP_low HRWv0.out.r (by omega) h0 b off n c e
            have HLa : Hid (0 < t.ru.length → ∀ b off n c, (Value.slice ta TL tc) = .slice (some ⟨b, off, none⟩) n c → b ≠ v1.heap.size) := fun h0 b off n c e => row_ne HRAv3.out.r h0 (HTf.out h0) e HQv3.out
            have HLb : Hid (0 < t.ru.length → ∀ b off n c, (Value.slice ra TL rc) = .slice (some ⟨b, off, none⟩) n c → b ≠ v1.heap.size) := fun h0 b off n c e => row_ne HRBv3.out.r h0 (HTf.out h0) e HQv3.out
            have HRWu0 : Hid (UR u0 (.slice wa SL wc) s.ru) := ⟨HRWv3.out.r.keepC fun h0 b off n c e => hot b (HLw.out h0 b off n c e), HRWv3.out.c, HRWv3.out.z⟩
            have HRAu0 : Hid (UR u0 (.slice ta TL tc) t.ru) := ⟨HRAv3.out.r.keepC fun h0 b off n c e => hot b (HLa.out h0 b off n c e), HRAv3.out.c, HRAv3.out.z⟩
            have HRBu0 : Hid (UR u0 (.slice ra TL rc) t.ru) := ⟨HRBv3.out.r.keepC fun h0 b off n c e => hot b (HLb.out h0 b off n c e), HRBv3.out.c, HRBv3.out.z⟩
            have hzu0 : P2 < u0.heap.size ∧ v1.heap.size < u0.heap.size := ⟨(Array.getElem?_eq_some_iff.1 HAu0.out).1, (Array.getElem?_eq_some_iff.1 HT0.out).1⟩
            clear hu0 hot
            refine hK.out _ _ ?_ (fun hHeld => ?_)
            · exact HFu0.out
            clear hK K
            refine wpAnyH_ready (rs := [9]) (by kernel_rfl) (by simp) ?_
            refine AllReadyH.cons (o := _) rfl (fun K hK => ?_) AllReadyH.nil
            go_simp
            refine hK.out _ _ ?_ (fun hHeld => ?_)
            · exact HFu0.out
            clear hK K
            refine wpAnyH_done (by kernel_rfl) ?_ _
            refine NoPanic.normal ?_
            obtain ⟨x0, HX0e⟩ := hid_ex u0.drew
            have hbx0 : Below u0.heap.size u0 x0 := by rw [HX0e.out]; exact (Below.refl _ _).drew
            have HBx0 : Hid (Below w.heap.size w x0) := HBu0.out.trans (hbx0.mono HBu0.out.size)
            have HSx0 : Hid (x0.heap[w.heap.size]? = some (.cells #[.slice sa SL sc, .int .i64 s.lo, .int .i64 s.ne, .int .i64 s.ma] 24)) := (hbx0.block _ (by omega)).trans HSu0.out
            have HWx0 : Hid (x0.heap[P1]? = some (.cells #[.slice wa SL wc, .int .i64 s.lo, .int .i64 s.ne, .int .i64 s.ma] 31)) := (hbx0.block _ (by omega)).trans HWu0.out
            have HAx0 : Hid (x0.heap[P2]? = some (.cells #[.slice ta TL tc, .int .i64 t.lo, .int .i64 t.ne, .int .i64 t.ma] 24)) := (hbx0.block _ (by omega)).trans HAu0.out
            have HTx0 : Hid (x0.heap[v1.heap.size]? = some (.cells #[.slice ra TL rc, .int .i64 t.lo, .int .i64 t.ne, .int .i64 t.ma] 31)) := (hbx0.block _ (by omega)).trans HT0.out
            have hzx0 : P2 < x0.heap.size ∧ v1.heap.size < x0.heap.size := by have := hbx0.size; omega
            have HRWx0 : Hid (UR x0 (.slice wa SL wc) s.ru) := HRWu0.out.below hbx0
            have HRAx0 : Hid (UR x0 (.slice ta TL tc) t.ru) := HRAu0.out.below hbx0
            have HRBx0 : Hid (UR x0 (.slice ra TL rc) t.ru) := HRBu0.out.below hbx0
            have HGx0 : Hid ((x0.cell? ⟨w.heap.size, 0, none⟩ = some (.slice sa SL sc) ∧ x0.cell? ⟨w.heap.size, 1, none⟩ = some (.int .i64 s.lo) ∧ x0.cell? ⟨w.heap.size, 2, none⟩ = some (.int .i64 s.ne) ∧ x0.cell? ⟨w.heap.size, 3, none⟩ = some (.int .i64 s.ma)) ∧ (x0.cell? ⟨P1, 0, none⟩ = some (.slice wa SL wc) ∧ x0.cell? ⟨P1, 1, none⟩ = some (.int .i64 s.lo) ∧ x0.cell? ⟨P1, 2, none⟩ = some (.int .i64 s.ne) ∧ x0.cell? ⟨P1, 3, none⟩ = some (.int .i64 s.ma)) ∧ (x0.cell? ⟨P2, 0, none⟩ = some (.slice ta TL tc) ∧ x0.cell? ⟨P2, 1, none⟩ = some (.int .i64 t.lo) ∧ x0.cell? ⟨P2, 2, none⟩ = some (.int .i64 t.ne) ∧ x0.cell? ⟨P2, 3, none⟩ = some (.int .i64 t.ma)) ∧ (x0.cell? ⟨v1.heap.size, 0, none⟩ = some (.slice ra TL rc) ∧ x0.cell? ⟨v1.heap.size, 1, none⟩ = some (.int .i64 t.lo) ∧ x0.cell? ⟨v1.heap.size, 2, none⟩ = some (.int .i64 t.ne) ∧ x0.cell? ⟨v1.heap.size, 3, none⟩ = some (.int .i64 t.ma))) := ⟨four13 HSx0.out, four13 HWx0.out, four13 HAx0.out, four13 HTx0.out⟩
            clear HBu0 HSu0 HXu0 HWu0 HAu0 HFu0 HT0 hzu0 HRWu0 HRAu0 HRBu0 HLw HLa HLb HOn
            go_wp2_with fail
            refine wp_region_noPanic ?_
            refine wp_region_held_drew (S := fun w' => (w'.cell? ⟨w.heap.size, 0, none⟩ = some (.slice sa SL sc) ∧ w'.cell? ⟨w.heap.size, 1, none⟩ = some (.int .i64 s.lo) ∧ w'.cell? ⟨w.heap.size, 2, none⟩ = some (.int .i64 s.ne) ∧ w'.cell? ⟨w.heap.size, 3, none⟩ = some (.int .i64 s.ma)) ∧ (w'.cell? ⟨P1, 0, none⟩ = some (.slice wa SL wc) ∧ w'.cell? ⟨P1, 1, none⟩ = some (.int .i64 s.lo) ∧ w'.cell? ⟨P1, 2, none⟩ = some (.int .i64 s.ne) ∧ w'.cell? ⟨P1, 3, none⟩ = some (.int .i64 s.ma)) ∧ (w'.cell? ⟨P2, 0, none⟩ = some (.slice ta TL tc) ∧ w'.cell? ⟨P2, 1, none⟩ = some (.int .i64 t.lo) ∧ w'.cell? ⟨P2, 2, none⟩ = some (.int .i64 t.ne) ∧ w'.cell? ⟨P2, 3, none⟩ = some (.int .i64 t.ma)) ∧ (w'.cell? ⟨v1.heap.size, 0, none⟩ = some (.slice ra TL rc) ∧ w'.cell? ⟨v1.heap.size, 1, none⟩ = some (.int .i64 t.lo) ∧ w'.cell? ⟨v1.heap.size, 2, none⟩ = some (.int .i64 t.ne) ∧ w'.cell? ⟨v1.heap.size, 3, none⟩ = some (.int .i64 t.ma))) (by kernel_rfl) ?_ (fun hHeld => ?_)
            · (rw [← HX0e.out]; exact HGx0.out)
            rw [← HX0e.out]
            clear HX0e hbx0
            refine wpAnyH_ready (rs := [0]) (by kernel_rfl) (by simp) ?_
            refine AllReadyH.cons (o := _) rfl (fun K hK => ?_) AllReadyH.nil
            go_simp
            refine (alive13_any _).mono ?_
            rintro e u1 ⟨rfl, hbu1⟩
            have HBu1 : Hid (Below w.heap.size w u1) := HBx0.out.trans (hbu1.mono HBx0.out.size)
            have HSu1 : Hid (u1.heap[w.heap.size]? = some (.cells #[.slice sa SL sc, .int .i64 s.lo, .int .i64 s.ne, .int .i64 s.ma] 24)) := (hbu1.block _ (by omega)).trans HSx0.out
            have HWu1 : Hid (u1.heap[P1]? = some (.cells #[.slice wa SL wc, .int .i64 s.lo, .int .i64 s.ne, .int .i64 s.ma] 31)) := (hbu1.block _ (by omega)).trans HWx0.out
            have HAu1 : Hid (u1.heap[P2]? = some (.cells #[.slice ta TL tc, .int .i64 t.lo, .int .i64 t.ne, .int .i64 t.ma] 24)) := (hbu1.block _ (by omega)).trans HAx0.out
            have HTu1 : Hid (u1.heap[v1.heap.size]? = some (.cells #[.slice ra TL rc, .int .i64 t.lo, .int .i64 t.ne, .int .i64 t.ma] 31)) := (hbu1.block _ (by omega)).trans HTx0.out
            have hzu1 : P2 < u1.heap.size ∧ v1.heap.size < u1.heap.size := by have := hbu1.size; omega
            have HRWu1 : Hid (UR u1 (.slice wa SL wc) s.ru) := HRWx0.out.below hbu1
            have HRAu1 : Hid (UR u1 (.slice ta TL tc) t.ru) := HRAx0.out.below hbu1
            have HRBu1 : Hid (UR u1 (.slice ra TL rc) t.ru) := HRBx0.out.below hbu1
            have HGu1 : Hid ((u1.cell? ⟨w.heap.size, 0, none⟩ = some (.slice sa SL sc) ∧ u1.cell? ⟨w.heap.size, 1, none⟩ = some (.int .i64 s.lo) ∧ u1.cell? ⟨w.heap.size, 2, none⟩ = some (.int .i64 s.ne) ∧ u1.cell? ⟨w.heap.size, 3, none⟩ = some (.int .i64 s.ma)) ∧ (u1.cell? ⟨P1, 0, none⟩ = some (.slice wa SL wc) ∧ u1.cell? ⟨P1, 1, none⟩ = some (.int .i64 s.lo) ∧ u1.cell? ⟨P1, 2, none⟩ = some (.int .i64 s.ne) ∧ u1.cell? ⟨P1, 3, none⟩ = some (.int .i64 s.ma)) ∧ (u1.cell? ⟨P2, 0, none⟩ = some (.slice ta TL tc) ∧ u1.cell? ⟨P2, 1, none⟩ = some (.int .i64 t.lo) ∧ u1.cell? ⟨P2, 2, none⟩ = some (.int .i64 t.ne) ∧ u1.cell? ⟨P2, 3, none⟩ = some (.int .i64 t.ma)) ∧ (u1.cell? ⟨v1.heap.size, 0, none⟩ = some (.slice ra TL rc) ∧ u1.cell? ⟨v1.heap.size, 1, none⟩ = some (.int .i64 t.lo) ∧ u1.cell? ⟨v1.heap.size, 2, none⟩ = some (.int .i64 t.ne) ∧ u1.cell? ⟨v1.heap.size, 3, none⟩ = some (.int .i64 t.ma))) := ⟨four13 HSu1.out, four13 HWu1.out, four13 HAu1.out, four13 HTu1.out⟩
            clear hbu1
            go_simp
            refine hK.out _ _ ?_ (fun hHeld => ?_)
            · exact HGu1.out
            clear hK K
            refine wpAnyH_take (i := 1) (v := .bool true) rfl (by kernel_rfl) (by kernel_rfl) (by kernel_rfl) (fun _ _ _ h => h) (Or.inl ⟨by rfl, ?_⟩) (by assumption) ?_
            · (intro w1 hSw; (try dsimp only at hSw); go_simp)
            simp only [List.getElem_toArray, List.getElem_cons_succ, List.getElem_cons_zero, Act.put, List.setIfInBounds_toArray, List.set_cons_zero, List.set_cons_succ]
            refine wpAnyH_take (i := 2) (v := .agg #[.slice sa SL sc, .int .i64 s.lo, .int .i64 s.ne, .int .i64 s.ma]) rfl (by kernel_rfl) (by kernel_rfl) (by kernel_rfl) (fun _ _ _ h => h) (Or.inl ⟨by rfl, ?_⟩) (by assumption) ?_
            · (intro w1 hSw; (try dsimp only at hSw); go_simp)
            simp only [List.getElem_toArray, List.getElem_cons_succ, List.getElem_cons_zero, Act.put, List.setIfInBounds_toArray, List.set_cons_zero, List.set_cons_succ]
            refine wpAnyH_take (i := 4) (v := .agg #[.slice wa SL wc, .int .i64 s.lo, .int .i64 s.ne, .int .i64 s.ma]) rfl (by kernel_rfl) (by kernel_rfl) (by kernel_rfl) (fun _ _ _ h => h) (Or.inl ⟨by rfl, ?_⟩) (by assumption) ?_
            · (intro w1 hSw; (try dsimp only at hSw); go_simp)
            simp only [List.getElem_toArray, List.getElem_cons_succ, List.getElem_cons_zero, Act.put, List.setIfInBounds_toArray, List.set_cons_zero, List.set_cons_succ]
            refine wpAnyH_ready (rs := [3]) (by kernel_rfl) (by simp) ?_
            refine AllReadyH.cons (o := _) rfl (fun K hK => ?_) AllReadyH.nil
            go_simp
            refine (right13_any _ s u1 (HU.out.below HBu1.out)).mono ?_
            rintro e u2 ⟨rfl, hbu2⟩
            have HBu2 : Hid (Below w.heap.size w u2) := HBu1.out.trans (hbu2.mono HBu1.out.size)
            have HSu2 : Hid (u2.heap[w.heap.size]? = some (.cells #[.slice sa SL sc, .int .i64 s.lo, .int .i64 s.ne, .int .i64 s.ma] 24)) := (hbu2.block _ (by omega)).trans HSu1.out
            have HWu2 : Hid (u2.heap[P1]? = some (.cells #[.slice wa SL wc, .int .i64 s.lo, .int .i64 s.ne, .int .i64 s.ma] 31)) := (hbu2.block _ (by omega)).trans HWu1.out
            have HAu2 : Hid (u2.heap[P2]? = some (.cells #[.slice ta TL tc, .int .i64 t.lo, .int .i64 t.ne, .int .i64 t.ma] 24)) := (hbu2.block _ (by omega)).trans HAu1.out
            have HTu2 : Hid (u2.heap[v1.heap.size]? = some (.cells #[.slice ra TL rc, .int .i64 t.lo, .int .i64 t.ne, .int .i64 t.ma] 31)) := (hbu2.block _ (by omega)).trans HTu1.out
            have hzu2 : P2 < u2.heap.size ∧ v1.heap.size < u2.heap.size := by have := hbu2.size; omega
            have HRWu2 : Hid (UR u2 (.slice wa SL wc) s.ru) := HRWu1.out.below hbu2
            have HRAu2 : Hid (UR u2 (.slice ta TL tc) t.ru) := HRAu1.out.below hbu2
            have HRBu2 : Hid (UR u2 (.slice ra TL rc) t.ru) := HRBu1.out.below hbu2
            have HGu2 : Hid ((u2.cell? ⟨w.heap.size, 0, none⟩ = some (.slice sa SL sc) ∧ u2.cell? ⟨w.heap.size, 1, none⟩ = some (.int .i64 s.lo) ∧ u2.cell? ⟨w.heap.size, 2, none⟩ = some (.int .i64 s.ne) ∧ u2.cell? ⟨w.heap.size, 3, none⟩ = some (.int .i64 s.ma)) ∧ (u2.cell? ⟨P1, 0, none⟩ = some (.slice wa SL wc) ∧ u2.cell? ⟨P1, 1, none⟩ = some (.int .i64 s.lo) ∧ u2.cell? ⟨P1, 2, none⟩ = some (.int .i64 s.ne) ∧ u2.cell? ⟨P1, 3, none⟩ = some (.int .i64 s.ma)) ∧ (u2.cell? ⟨P2, 0, none⟩ = some (.slice ta TL tc) ∧ u2.cell? ⟨P2, 1, none⟩ = some (.int .i64 t.lo) ∧ u2.cell? ⟨P2, 2, none⟩ = some (.int .i64 t.ne) ∧ u2.cell? ⟨P2, 3, none⟩ = some (.int .i64 t.ma)) ∧ (u2.cell? ⟨v1.heap.size, 0, none⟩ = some (.slice ra TL rc) ∧ u2.cell? ⟨v1.heap.size, 1, none⟩ = some (.int .i64 t.lo) ∧ u2.cell? ⟨v1.heap.size, 2, none⟩ = some (.int .i64 t.ne) ∧ u2.cell? ⟨v1.heap.size, 3, none⟩ = some (.int .i64 t.ma))) := ⟨four13 HSu2.out, four13 HWu2.out, four13 HAu2.out, four13 HTu2.out⟩
            rw [← Hq.out]
            clear hbu2
            go_simp
            refine hK.out _ _ ?_ (fun hHeld => ?_)
            · exact HGu2.out
            clear hK K
            refine wpAnyH_ready (rs := [5]) (by kernel_rfl) (by simp) ?_
            refine AllReadyH.cons (o := _) rfl (fun K hK => ?_) AllReadyH.nil
            go_simp
            refine (refRight13_any _ s u2 HRWu2.out.r).mono ?_
            rintro e u3 ⟨rfl, hbu3⟩
            have HBu3 : Hid (Below w.heap.size w u3) := HBu2.out.trans (hbu3.mono HBu2.out.size)
            have HSu3 : Hid (u3.heap[w.heap.size]? = some (.cells #[.slice sa SL sc, .int .i64 s.lo, .int .i64 s.ne, .int .i64 s.ma] 24)) := (hbu3.block _ (by omega)).trans HSu2.out
            have HWu3 : Hid (u3.heap[P1]? = some (.cells #[.slice wa SL wc, .int .i64 s.lo, .int .i64 s.ne, .int .i64 s.ma] 31)) := (hbu3.block _ (by omega)).trans HWu2.out
            have HAu3 : Hid (u3.heap[P2]? = some (.cells #[.slice ta TL tc, .int .i64 t.lo, .int .i64 t.ne, .int .i64 t.ma] 24)) := (hbu3.block _ (by omega)).trans HAu2.out
            have HTu3 : Hid (u3.heap[v1.heap.size]? = some (.cells #[.slice ra TL rc, .int .i64 t.lo, .int .i64 t.ne, .int .i64 t.ma] 31)) := (hbu3.block _ (by omega)).trans HTu2.out
            have hzu3 : P2 < u3.heap.size ∧ v1.heap.size < u3.heap.size := by have := hbu3.size; omega
            have HRWu3 : Hid (UR u3 (.slice wa SL wc) s.ru) := HRWu2.out.below hbu3
            have HRAu3 : Hid (UR u3 (.slice ta TL tc) t.ru) := HRAu2.out.below hbu3
            have HRBu3 : Hid (UR u3 (.slice ra TL rc) t.ru) := HRBu2.out.below hbu3
            have HGu3 : Hid ((u3.cell? ⟨w.heap.size, 0, none⟩ = some (.slice sa SL sc) ∧ u3.cell? ⟨w.heap.size, 1, none⟩ = some (.int .i64 s.lo) ∧ u3.cell? ⟨w.heap.size, 2, none⟩ = some (.int .i64 s.ne) ∧ u3.cell? ⟨w.heap.size, 3, none⟩ = some (.int .i64 s.ma)) ∧ (u3.cell? ⟨P1, 0, none⟩ = some (.slice wa SL wc) ∧ u3.cell? ⟨P1, 1, none⟩ = some (.int .i64 s.lo) ∧ u3.cell? ⟨P1, 2, none⟩ = some (.int .i64 s.ne) ∧ u3.cell? ⟨P1, 3, none⟩ = some (.int .i64 s.ma)) ∧ (u3.cell? ⟨P2, 0, none⟩ = some (.slice ta TL tc) ∧ u3.cell? ⟨P2, 1, none⟩ = some (.int .i64 t.lo) ∧ u3.cell? ⟨P2, 2, none⟩ = some (.int .i64 t.ne) ∧ u3.cell? ⟨P2, 3, none⟩ = some (.int .i64 t.ma)) ∧ (u3.cell? ⟨v1.heap.size, 0, none⟩ = some (.slice ra TL rc) ∧ u3.cell? ⟨v1.heap.size, 1, none⟩ = some (.int .i64 t.lo) ∧ u3.cell? ⟨v1.heap.size, 2, none⟩ = some (.int .i64 t.ne) ∧ u3.cell? ⟨v1.heap.size, 3, none⟩ = some (.int .i64 t.ma))) := ⟨four13 HSu3.out, four13 HWu3.out, four13 HAu3.out, four13 HTu3.out⟩
            rw [← Hq.out]
            clear hbu3
            go_simp
            refine hK.out _ _ ?_ (fun hHeld => ?_)
            · exact HGu3.out
            clear hK K
            have hqq : (q == q) = true := by cases q <;> rfl
            refine wpAnyH_take (i := 6) (v := .bool true) rfl (by kernel_rfl) (by kernel_rfl) (by kernel_rfl) (fun _ _ _ h => h) (Or.inl ⟨by rfl, ?_⟩) (by assumption) ?_
            · (intro w1 hSw; (try dsimp only at hSw); go_simp)
            simp only [List.getElem_toArray, List.getElem_cons_succ, List.getElem_cons_zero, Act.put, List.setIfInBounds_toArray, List.set_cons_zero, List.set_cons_succ]
            refine wpAnyH_take (i := 7) (v := .bool true) rfl (by kernel_rfl) (by kernel_rfl) (by kernel_rfl) (fun _ _ _ h => h) (Or.inl ⟨by rfl, ?_⟩) (by assumption) ?_
            · (intro w1 hSw; (try dsimp only at hSw); go_simp)
            simp only [List.getElem_toArray, List.getElem_cons_succ, List.getElem_cons_zero, Act.put, List.setIfInBounds_toArray, List.set_cons_zero, List.set_cons_succ]
            refine wpAnyH_take (i := 8) (v := .bool true) rfl (by kernel_rfl) (by kernel_rfl) (by kernel_rfl) (fun _ _ _ h => h) (Or.inl ⟨by rfl, ?_⟩) (by assumption) ?_
            · (intro w1 hSw; (try dsimp only at hSw); go_simp)
            simp only [List.getElem_toArray, List.getElem_cons_succ, List.getElem_cons_zero, Act.put, List.setIfInBounds_toArray, List.set_cons_zero, List.set_cons_succ]
            refine wpAnyH_take (i := 9) (v := .agg #[.slice ta TL tc, .int .i64 t.lo, .int .i64 t.ne, .int .i64 t.ma]) rfl (by kernel_rfl) (by kernel_rfl) (by kernel_rfl) (fun _ _ _ h => h) (Or.inl ⟨by rfl, ?_⟩) (by assumption) ?_
            · (intro w1 hSw; (try dsimp only at hSw); go_simp)
            simp only [List.getElem_toArray, List.getElem_cons_succ, List.getElem_cons_zero, Act.put, List.setIfInBounds_toArray, List.set_cons_zero, List.set_cons_succ]
            refine wpAnyH_take (i := 11) (v := .agg #[.slice ra TL rc, .int .i64 t.lo, .int .i64 t.ne, .int .i64 t.ma]) rfl (by kernel_rfl) (by kernel_rfl) (by kernel_rfl) (fun _ _ _ h => h) (Or.inl ⟨by rfl, ?_⟩) (by assumption) ?_
            · (intro w1 hSw; (try dsimp only at hSw); go_simp)
            simp only [List.getElem_toArray, List.getElem_cons_succ, List.getElem_cons_zero, Act.put, List.setIfInBounds_toArray, List.set_cons_zero, List.set_cons_succ]
            refine wpAnyH_ready (rs := [10]) (by kernel_rfl) (by simp) ?_
            refine AllReadyH.cons (o := _) rfl (fun K hK => ?_) AllReadyH.nil
            go_simp
            refine (as13_any _ t u3 HRAu3.out.r HTl.out).mono ?_
            rintro e u4 ⟨v4, rfl, hr4, hbu4⟩
            have HBu4 : Hid (Below w.heap.size w u4) := HBu3.out.trans (hbu4.mono HBu3.out.size)
            have HSu4 : Hid (u4.heap[w.heap.size]? = some (.cells #[.slice sa SL sc, .int .i64 s.lo, .int .i64 s.ne, .int .i64 s.ma] 24)) := (hbu4.block _ (by omega)).trans HSu3.out
            have HWu4 : Hid (u4.heap[P1]? = some (.cells #[.slice wa SL wc, .int .i64 s.lo, .int .i64 s.ne, .int .i64 s.ma] 31)) := (hbu4.block _ (by omega)).trans HWu3.out
            have HAu4 : Hid (u4.heap[P2]? = some (.cells #[.slice ta TL tc, .int .i64 t.lo, .int .i64 t.ne, .int .i64 t.ma] 24)) := (hbu4.block _ (by omega)).trans HAu3.out
            have HTu4 : Hid (u4.heap[v1.heap.size]? = some (.cells #[.slice ra TL rc, .int .i64 t.lo, .int .i64 t.ne, .int .i64 t.ma] 31)) := (hbu4.block _ (by omega)).trans HTu3.out
            have hzu4 : P2 < u4.heap.size ∧ v1.heap.size < u4.heap.size := by have := hbu4.size; omega
            have HRWu4 : Hid (UR u4 (.slice wa SL wc) s.ru) := HRWu3.out.below hbu4
            have HRAu4 : Hid (UR u4 (.slice ta TL tc) t.ru) := HRAu3.out.below hbu4
            have HRBu4 : Hid (UR u4 (.slice ra TL rc) t.ru) := HRBu3.out.below hbu4
            have HGu4 : Hid ((u4.cell? ⟨w.heap.size, 0, none⟩ = some (.slice sa SL sc) ∧ u4.cell? ⟨w.heap.size, 1, none⟩ = some (.int .i64 s.lo) ∧ u4.cell? ⟨w.heap.size, 2, none⟩ = some (.int .i64 s.ne) ∧ u4.cell? ⟨w.heap.size, 3, none⟩ = some (.int .i64 s.ma)) ∧ (u4.cell? ⟨P1, 0, none⟩ = some (.slice wa SL wc) ∧ u4.cell? ⟨P1, 1, none⟩ = some (.int .i64 s.lo) ∧ u4.cell? ⟨P1, 2, none⟩ = some (.int .i64 s.ne) ∧ u4.cell? ⟨P1, 3, none⟩ = some (.int .i64 s.ma)) ∧ (u4.cell? ⟨P2, 0, none⟩ = some (.slice ta TL tc) ∧ u4.cell? ⟨P2, 1, none⟩ = some (.int .i64 t.lo) ∧ u4.cell? ⟨P2, 2, none⟩ = some (.int .i64 t.ne) ∧ u4.cell? ⟨P2, 3, none⟩ = some (.int .i64 t.ma)) ∧ (u4.cell? ⟨v1.heap.size, 0, none⟩ = some (.slice ra TL rc) ∧ u4.cell? ⟨v1.heap.size, 1, none⟩ = some (.int .i64 t.lo) ∧ u4.cell? ⟨v1.heap.size, 2, none⟩ = some (.int .i64 t.ne) ∧ u4.cell? ⟨v1.heap.size, 3, none⟩ = some (.int .i64 t.ma))) := ⟨four13 HSu4.out, four13 HWu4.out, four13 HAu4.out, four13 HTu4.out⟩
            have HR4 : Hid (RuR u4 v4 t.ru) := hr4
            clear hr4
            obtain ⟨va4, vc4, hv4, _⟩ := HR4.out.form
            rw [HTL.out] at hv4
            subst hv4
            clear hbu4
            go_simp
            refine hK.out _ _ ?_ (fun hHeld => ?_)
            · exact HGu4.out
            clear hK K
            refine wpAnyH_ready (rs := [12]) (by kernel_rfl) (by simp) ?_
            refine AllReadyH.cons (o := _) rfl (fun K hK => ?_) AllReadyH.nil
            go_simp
            refine (same13_any _ _ t.ru t.ru t.lo t.ne t.ma t.lo t.ne t.ma u4 HR4.out HRBu4.out.r).mono ?_
            rintro e u5 ⟨b5, rfl, hr5, hbu5⟩
            have HBu5 : Hid (Below w.heap.size w u5) := HBu4.out.trans (hbu5.mono HBu4.out.size)
            have HSu5 : Hid (u5.heap[w.heap.size]? = some (.cells #[.slice sa SL sc, .int .i64 s.lo, .int .i64 s.ne, .int .i64 s.ma] 24)) := (hbu5.block _ (by omega)).trans HSu4.out
            have HWu5 : Hid (u5.heap[P1]? = some (.cells #[.slice wa SL wc, .int .i64 s.lo, .int .i64 s.ne, .int .i64 s.ma] 31)) := (hbu5.block _ (by omega)).trans HWu4.out
            have HAu5 : Hid (u5.heap[P2]? = some (.cells #[.slice ta TL tc, .int .i64 t.lo, .int .i64 t.ne, .int .i64 t.ma] 24)) := (hbu5.block _ (by omega)).trans HAu4.out
            have HTu5 : Hid (u5.heap[v1.heap.size]? = some (.cells #[.slice ra TL rc, .int .i64 t.lo, .int .i64 t.ne, .int .i64 t.ma] 31)) := (hbu5.block _ (by omega)).trans HTu4.out
            have hzu5 : P2 < u5.heap.size ∧ v1.heap.size < u5.heap.size := by have := hbu5.size; omega
            have HRWu5 : Hid (UR u5 (.slice wa SL wc) s.ru) := HRWu4.out.below hbu5
            have HRAu5 : Hid (UR u5 (.slice ta TL tc) t.ru) := HRAu4.out.below hbu5
            have HRBu5 : Hid (UR u5 (.slice ra TL rc) t.ru) := HRBu4.out.below hbu5
            have HGu5 : Hid ((u5.cell? ⟨w.heap.size, 0, none⟩ = some (.slice sa SL sc) ∧ u5.cell? ⟨w.heap.size, 1, none⟩ = some (.int .i64 s.lo) ∧ u5.cell? ⟨w.heap.size, 2, none⟩ = some (.int .i64 s.ne) ∧ u5.cell? ⟨w.heap.size, 3, none⟩ = some (.int .i64 s.ma)) ∧ (u5.cell? ⟨P1, 0, none⟩ = some (.slice wa SL wc) ∧ u5.cell? ⟨P1, 1, none⟩ = some (.int .i64 s.lo) ∧ u5.cell? ⟨P1, 2, none⟩ = some (.int .i64 s.ne) ∧ u5.cell? ⟨P1, 3, none⟩ = some (.int .i64 s.ma)) ∧ (u5.cell? ⟨P2, 0, none⟩ = some (.slice ta TL tc) ∧ u5.cell? ⟨P2, 1, none⟩ = some (.int .i64 t.lo) ∧ u5.cell? ⟨P2, 2, none⟩ = some (.int .i64 t.ne) ∧ u5.cell? ⟨P2, 3, none⟩ = some (.int .i64 t.ma)) ∧ (u5.cell? ⟨v1.heap.size, 0, none⟩ = some (.slice ra TL rc) ∧ u5.cell? ⟨v1.heap.size, 1, none⟩ = some (.int .i64 t.lo) ∧ u5.cell? ⟨v1.heap.size, 2, none⟩ = some (.int .i64 t.ne) ∧ u5.cell? ⟨v1.heap.size, 3, none⟩ = some (.int .i64 t.ma))) := ⟨four13 HSu5.out, four13 HWu5.out, four13 HAu5.out, four13 HTu5.out⟩
            obtain rfl := hr5 ⟨rfl, rfl, rfl, rfl⟩
            clear hr5
            clear hbu5
            go_simp
            refine hK.out _ _ ?_ (fun hHeld => ?_)
            · exact HGu5.out
            clear hK K
            refine wpAnyH_take (i := 13) (v := .bool true) rfl (by kernel_rfl) (by kernel_rfl) (by kernel_rfl) (fun _ _ _ h => h) (Or.inl ⟨by rfl, ?_⟩) (by assumption) ?_
            · (intro w1 hSw; (try dsimp only at hSw); go_simp)
            simp only [List.getElem_toArray, List.getElem_cons_succ, List.getElem_cons_zero, Act.put, List.setIfInBounds_toArray, List.set_cons_zero, List.set_cons_succ]
            refine wpAnyH_take (i := 14) (v := .bool true) rfl (by kernel_rfl) (by kernel_rfl) (by kernel_rfl) (fun _ _ _ h => h) (Or.inl ⟨by rfl, ?_⟩) (by assumption) ?_
            · (intro w1 hSw; (try dsimp only at hSw); go_simp)
            simp only [List.getElem_toArray, List.getElem_cons_succ, List.getElem_cons_zero, Act.put, List.setIfInBounds_toArray, List.set_cons_zero, List.set_cons_succ]
            refine wpAnyH_take (i := 15) (v := .int .i64 C) rfl (by kernel_rfl) (by kernel_rfl) (by kernel_rfl) (fun _ _ _ h => h) (Or.inl ⟨by rfl, ?_⟩) (by assumption) ?_
            · (intro w1 hSw; (try dsimp only at hSw); go_simp)
            simp only [List.getElem_toArray, List.getElem_cons_succ, List.getElem_cons_zero, Act.put, List.setIfInBounds_toArray, List.set_cons_zero, List.set_cons_succ]
            refine wpAnyH_take (i := 16) (v := .int .i64 C) rfl (by kernel_rfl) (by kernel_rfl) (by kernel_rfl) (fun _ _ _ h => h) (Or.inl ⟨by rfl, ?_⟩) (by assumption) ?_
            · (intro w1 hSw; (try dsimp only at hSw); go_simp)
            simp only [List.getElem_toArray, List.getElem_cons_succ, List.getElem_cons_zero, Act.put, List.setIfInBounds_toArray, List.set_cons_zero, List.set_cons_succ]
            refine wpAnyH_take (i := 17) (v := .bool true) rfl (by kernel_rfl) (by kernel_rfl) (by kernel_rfl) (fun _ _ _ h => h) (Or.inl ⟨by rfl, ?_⟩) (by assumption) ?_
            · (intro w1 hSw; (try dsimp only at hSw); go_simp)
            simp only [List.getElem_toArray, List.getElem_cons_succ, List.getElem_cons_zero, Act.put, List.setIfInBounds_toArray, List.set_cons_zero, List.set_cons_succ]
            refine wpAnyH_take (i := 18) (v := .bool true) rfl (by kernel_rfl) (by kernel_rfl) (by kernel_rfl) (fun _ _ _ h => h) (Or.inl ⟨by rfl, ?_⟩) (by assumption) ?_
            · (intro w1 hSw; (try dsimp only at hSw); go_simp)
            simp only [List.getElem_toArray, List.getElem_cons_succ, List.getElem_cons_zero, Act.put, List.setIfInBounds_toArray, List.set_cons_zero, List.set_cons_succ]
            refine wpAnyH_take (i := 19) (v := .bool true) rfl (by kernel_rfl) (by kernel_rfl) (by kernel_rfl) (fun _ _ _ h => h) (Or.inl ⟨by rfl, ?_⟩) (by assumption) ?_
            · (intro w1 hSw; (try dsimp only at hSw); go_simp)
            simp only [List.getElem_toArray, List.getElem_cons_succ, List.getElem_cons_zero, Act.put, List.setIfInBounds_toArray, List.set_cons_zero, List.set_cons_succ]
            refine wpAnyH_take (i := 20) (v := .agg #[.slice sa SL sc, .int .i64 s.lo, .int .i64 s.ne, .int .i64 s.ma]) rfl (by kernel_rfl) (by kernel_rfl) (by kernel_rfl) (fun _ _ _ h => h) (Or.inl ⟨by rfl, ?_⟩) (by assumption) ?_
            · (intro w1 hSw; (try dsimp only at hSw); go_simp)
            simp only [List.getElem_toArray, List.getElem_cons_succ, List.getElem_cons_zero, Act.put, List.setIfInBounds_toArray, List.set_cons_zero, List.set_cons_succ]
            refine wpAnyH_take (i := 22) (v := .agg #[.slice wa SL wc, .int .i64 s.lo, .int .i64 s.ne, .int .i64 s.ma]) rfl (by kernel_rfl) (by kernel_rfl) (by kernel_rfl) (fun _ _ _ h => h) (Or.inl ⟨by rfl, ?_⟩) (by assumption) ?_
            · (intro w1 hSw; (try dsimp only at hSw); go_simp)
            simp only [List.getElem_toArray, List.getElem_cons_succ, List.getElem_cons_zero, Act.put, List.setIfInBounds_toArray, List.set_cons_zero, List.set_cons_succ]
            refine wpAnyH_ready (rs := [21]) (by kernel_rfl) (by simp) ?_
            refine AllReadyH.cons (o := _) rfl (fun K hK => ?_) AllReadyH.nil
            go_simp
            refine (as13_any _ s u5 (HU.out.below HBu5.out).r (by rw [HSL.out]; omega)).mono ?_
            rintro e u6 ⟨v6, rfl, hr6, hbu6⟩
            have HBu6 : Hid (Below w.heap.size w u6) := HBu5.out.trans (hbu6.mono HBu5.out.size)
            have HSu6 : Hid (u6.heap[w.heap.size]? = some (.cells #[.slice sa SL sc, .int .i64 s.lo, .int .i64 s.ne, .int .i64 s.ma] 24)) := (hbu6.block _ (by omega)).trans HSu5.out
            have HWu6 : Hid (u6.heap[P1]? = some (.cells #[.slice wa SL wc, .int .i64 s.lo, .int .i64 s.ne, .int .i64 s.ma] 31)) := (hbu6.block _ (by omega)).trans HWu5.out
            have HAu6 : Hid (u6.heap[P2]? = some (.cells #[.slice ta TL tc, .int .i64 t.lo, .int .i64 t.ne, .int .i64 t.ma] 24)) := (hbu6.block _ (by omega)).trans HAu5.out
            have HTu6 : Hid (u6.heap[v1.heap.size]? = some (.cells #[.slice ra TL rc, .int .i64 t.lo, .int .i64 t.ne, .int .i64 t.ma] 31)) := (hbu6.block _ (by omega)).trans HTu5.out
            have hzu6 : P2 < u6.heap.size ∧ v1.heap.size < u6.heap.size := by have := hbu6.size; omega
            have HRWu6 : Hid (UR u6 (.slice wa SL wc) s.ru) := HRWu5.out.below hbu6
            have HRAu6 : Hid (UR u6 (.slice ta TL tc) t.ru) := HRAu5.out.below hbu6
            have HRBu6 : Hid (UR u6 (.slice ra TL rc) t.ru) := HRBu5.out.below hbu6
            have HGu6 : Hid ((u6.cell? ⟨w.heap.size, 0, none⟩ = some (.slice sa SL sc) ∧ u6.cell? ⟨w.heap.size, 1, none⟩ = some (.int .i64 s.lo) ∧ u6.cell? ⟨w.heap.size, 2, none⟩ = some (.int .i64 s.ne) ∧ u6.cell? ⟨w.heap.size, 3, none⟩ = some (.int .i64 s.ma)) ∧ (u6.cell? ⟨P1, 0, none⟩ = some (.slice wa SL wc) ∧ u6.cell? ⟨P1, 1, none⟩ = some (.int .i64 s.lo) ∧ u6.cell? ⟨P1, 2, none⟩ = some (.int .i64 s.ne) ∧ u6.cell? ⟨P1, 3, none⟩ = some (.int .i64 s.ma)) ∧ (u6.cell? ⟨P2, 0, none⟩ = some (.slice ta TL tc) ∧ u6.cell? ⟨P2, 1, none⟩ = some (.int .i64 t.lo) ∧ u6.cell? ⟨P2, 2, none⟩ = some (.int .i64 t.ne) ∧ u6.cell? ⟨P2, 3, none⟩ = some (.int .i64 t.ma)) ∧ (u6.cell? ⟨v1.heap.size, 0, none⟩ = some (.slice ra TL rc) ∧ u6.cell? ⟨v1.heap.size, 1, none⟩ = some (.int .i64 t.lo) ∧ u6.cell? ⟨v1.heap.size, 2, none⟩ = some (.int .i64 t.ne) ∧ u6.cell? ⟨v1.heap.size, 3, none⟩ = some (.int .i64 t.ma))) := ⟨four13 HSu6.out, four13 HWu6.out, four13 HAu6.out, four13 HTu6.out⟩
            have HR6 : Hid (RuR u6 v6 s.ru) := hr6
            clear hr6
            obtain ⟨va6, vc6, hv6, _⟩ := HR6.out.form
            rw [HSL.out] at hv6
            subst hv6
            clear hbu6
            go_simp
            refine hK.out _ _ ?_ (fun hHeld => ?_)
            · exact HGu6.out
            clear hK K
            refine wpAnyH_ready (rs := [23]) (by kernel_rfl) (by simp) ?_
            refine AllReadyH.cons (o := _) rfl (fun K hK => ?_) AllReadyH.nil
            go_simp
            refine (same13_any _ _ s.ru s.ru s.lo s.ne s.ma s.lo s.ne s.ma u6 HR6.out HRWu6.out.r).mono ?_
            rintro e u7 ⟨b7, rfl, hr7, hbu7⟩
            have HBu7 : Hid (Below w.heap.size w u7) := HBu6.out.trans (hbu7.mono HBu6.out.size)
            have HSu7 : Hid (u7.heap[w.heap.size]? = some (.cells #[.slice sa SL sc, .int .i64 s.lo, .int .i64 s.ne, .int .i64 s.ma] 24)) := (hbu7.block _ (by omega)).trans HSu6.out
            have HWu7 : Hid (u7.heap[P1]? = some (.cells #[.slice wa SL wc, .int .i64 s.lo, .int .i64 s.ne, .int .i64 s.ma] 31)) := (hbu7.block _ (by omega)).trans HWu6.out
            have HAu7 : Hid (u7.heap[P2]? = some (.cells #[.slice ta TL tc, .int .i64 t.lo, .int .i64 t.ne, .int .i64 t.ma] 24)) := (hbu7.block _ (by omega)).trans HAu6.out
            have HTu7 : Hid (u7.heap[v1.heap.size]? = some (.cells #[.slice ra TL rc, .int .i64 t.lo, .int .i64 t.ne, .int .i64 t.ma] 31)) := (hbu7.block _ (by omega)).trans HTu6.out
            have hzu7 : P2 < u7.heap.size ∧ v1.heap.size < u7.heap.size := by have := hbu7.size; omega
            have HRWu7 : Hid (UR u7 (.slice wa SL wc) s.ru) := HRWu6.out.below hbu7
            have HRAu7 : Hid (UR u7 (.slice ta TL tc) t.ru) := HRAu6.out.below hbu7
            have HRBu7 : Hid (UR u7 (.slice ra TL rc) t.ru) := HRBu6.out.below hbu7
            have HGu7 : Hid ((u7.cell? ⟨w.heap.size, 0, none⟩ = some (.slice sa SL sc) ∧ u7.cell? ⟨w.heap.size, 1, none⟩ = some (.int .i64 s.lo) ∧ u7.cell? ⟨w.heap.size, 2, none⟩ = some (.int .i64 s.ne) ∧ u7.cell? ⟨w.heap.size, 3, none⟩ = some (.int .i64 s.ma)) ∧ (u7.cell? ⟨P1, 0, none⟩ = some (.slice wa SL wc) ∧ u7.cell? ⟨P1, 1, none⟩ = some (.int .i64 s.lo) ∧ u7.cell? ⟨P1, 2, none⟩ = some (.int .i64 s.ne) ∧ u7.cell? ⟨P1, 3, none⟩ = some (.int .i64 s.ma)) ∧ (u7.cell? ⟨P2, 0, none⟩ = some (.slice ta TL tc) ∧ u7.cell? ⟨P2, 1, none⟩ = some (.int .i64 t.lo) ∧ u7.cell? ⟨P2, 2, none⟩ = some (.int .i64 t.ne) ∧ u7.cell? ⟨P2, 3, none⟩ = some (.int .i64 t.ma)) ∧ (u7.cell? ⟨v1.heap.size, 0, none⟩ = some (.slice ra TL rc) ∧ u7.cell? ⟨v1.heap.size, 1, none⟩ = some (.int .i64 t.lo) ∧ u7.cell? ⟨v1.heap.size, 2, none⟩ = some (.int .i64 t.ne) ∧ u7.cell? ⟨v1.heap.size, 3, none⟩ = some (.int .i64 t.ma))) := ⟨four13 HSu7.out, four13 HWu7.out, four13 HAu7.out, four13 HTu7.out⟩
            obtain rfl := hr7 ⟨rfl, rfl, rfl, rfl⟩
            clear hr7
            clear hbu7
            go_simp
            refine hK.out _ _ ?_ (fun hHeld => ?_)
            · exact HGu7.out
            clear hK K
            refine wpAnyH_take (i := 24) (v := .bool true) rfl (by kernel_rfl) (by kernel_rfl) (by kernel_rfl) (fun _ _ _ h => h) (Or.inl ⟨by rfl, ?_⟩) (by assumption) ?_
            · (intro w1 hSw; (try dsimp only at hSw); go_simp)
            simp only [List.getElem_toArray, List.getElem_cons_succ, List.getElem_cons_zero, Act.put, List.setIfInBounds_toArray, List.set_cons_zero, List.set_cons_succ]
            refine wpAnyH_ready (rs := [25]) (by kernel_rfl) (by simp) ?_
            refine AllReadyH.cons (o := _) rfl (fun K hK => ?_) AllReadyH.nil
            go_simp
            refine hK.out _ _ ?_ (fun hHeld => ?_)
            · exact HGu7.out
            clear hK K
            refine wpAnyH_done (by kernel_rfl) ?_ _
            refine NoPanic.normal ?_
            go_wp2_with fail
            go_ret
            exact ⟨rfl, HBu7.out⟩
        · have HO1 : Hid (P2 = P2) := rfl
          go_simp
          obtain ⟨v1, HNv1⟩ := hid_ex (v0.alloc (.cells #[.slice none 0 0, .int .i64 0, .int .i64 0, .int .i64 0] 31))
          have hbv1 : Below v0.heap.size v0 v1 := by rw [HNv1.out]; exact (Below.refl _ _).alloc (Nat.le_refl _) _
          have HQv1 : Hid (v1.heap[v0.heap.size]? = some (.cells #[.slice none 0 0, .int .i64 0, .int .i64 0, .int .i64 0] 31)) := by unfold Hid; rw [HNv1.out]; exact heap_alloc_new _ _
          have HBv1 : Hid (Below w.heap.size w v1) := HBv0.out.trans (hbv1.mono HBv0.out.size)
          have HSv1 : Hid (v1.heap[w.heap.size]? = some (.cells #[.slice sa SL sc, .int .i64 s.lo, .int .i64 s.ne, .int .i64 s.ma] 24)) := (hbv1.block _ (by omega)).trans HSv0.out
          have HXv1 : Hid (v1.heap[w.heap.size + 1]? = some (.cells #[.slice da DL dc, .slice aa AL ac, .int .i64 x.lo, .int .i64 x.ne, .int .i64 x.ma] 27)) := (hbv1.block _ (by omega)).trans HXv0.out
          have HWv1 : Hid (v1.heap[P1]? = some (.cells #[.slice wa SL wc, .int .i64 s.lo, .int .i64 s.ne, .int .i64 s.ma] 31)) := (hbv1.block _ (by omega)).trans HWv0.out
          have HAv1 : Hid (v1.heap[P2]? = some (.cells #[.slice ta TL tc, .int .i64 t.lo, .int .i64 t.ne, .int .i64 t.ma] 24)) := (hbv1.block _ (by omega)).trans HAv0.out
          have hzv1 : P2 < v1.heap.size := by have := hbv1.size; omega
          have hszv1 : v0.heap.size ≤ v1.heap.size := by have := hbv1.size; omega
          have HFv1 : Hid ((v1.cell? ⟨P1, 0, none⟩ = some (.slice wa SL wc) ∧ v1.cell? ⟨P1, 1, none⟩ = some (.int .i64 s.lo) ∧ v1.cell? ⟨P1, 2, none⟩ = some (.int .i64 s.ne) ∧ v1.cell? ⟨P1, 3, none⟩ = some (.int .i64 s.ma)) ∧ v1.cell? ⟨w.heap.size + 1, 0, none⟩ = some (.slice da DL dc) ∧ v1.cell? ⟨w.heap.size + 1, 1, none⟩ = some (.slice aa AL ac) ∧ v1.cell? ⟨w.heap.size + 1, 2, none⟩ = some (.int .i64 x.lo) ∧ v1.cell? ⟨w.heap.size + 1, 3, none⟩ = some (.int .i64 x.ne) ∧ v1.cell? ⟨w.heap.size + 1, 4, none⟩ = some (.int .i64 x.ma)) := ⟨four13 HWv1.out, five HXv1.out⟩
          have hlqv1 : v0.heap.size < v1.heap.size := (Array.getElem?_eq_some_iff.1 HQv1.out).1
          have hpq : P2 < v0.heap.size := hzv0
          have HRWv1 : Hid (UR v1 (.slice wa SL wc) s.ru) := HRWv0.out.below hbv1
          have HRAv1 : Hid (UR v1 (.slice ta TL tc) t.ru) := HRAv0.out.below hbv1
          rw [← HNv1.out]
          clear HNv1
          refine hK.out _ _ ?_ (fun hHeld => ?_)
          · exact HFv1.out
          clear hK K
          refine wpAnyH_ready (rs := [2]) (by kernel_rfl) (by simp) ?_
          refine AllReadyH.cons (o := _) rfl (fun K hK => ?_) AllReadyH.nil
          go_simp
          refine (asEdit_any _ _ x v1 ⟨HD.out.below HBv1.out, (HA.out.below HBv1.out).r⟩ (by rw [HAL.out]; omega)).mono ?_
          rintro e v2 ⟨ve, rfl, he, hbv2⟩
          have HBv2 : Hid (Below w.heap.size w v2) := HBv1.out.trans (hbv2.mono HBv1.out.size)
          have HSv2 : Hid (v2.heap[w.heap.size]? = some (.cells #[.slice sa SL sc, .int .i64 s.lo, .int .i64 s.ne, .int .i64 s.ma] 24)) := (hbv2.block _ (by omega)).trans HSv1.out
          have HXv2 : Hid (v2.heap[w.heap.size + 1]? = some (.cells #[.slice da DL dc, .slice aa AL ac, .int .i64 x.lo, .int .i64 x.ne, .int .i64 x.ma] 27)) := (hbv2.block _ (by omega)).trans HXv1.out
          have HWv2 : Hid (v2.heap[P1]? = some (.cells #[.slice wa SL wc, .int .i64 s.lo, .int .i64 s.ne, .int .i64 s.ma] 31)) := (hbv2.block _ (by omega)).trans HWv1.out
          have HAv2 : Hid (v2.heap[P2]? = some (.cells #[.slice ta TL tc, .int .i64 t.lo, .int .i64 t.ne, .int .i64 t.ma] 24)) := (hbv2.block _ (by omega)).trans HAv1.out
          have hzv2 : P2 < v2.heap.size := by have := hbv2.size; omega
          have hszv2 : v0.heap.size ≤ v2.heap.size := by have := hbv2.size; omega
          have HFv2 : Hid ((v2.cell? ⟨P1, 0, none⟩ = some (.slice wa SL wc) ∧ v2.cell? ⟨P1, 1, none⟩ = some (.int .i64 s.lo) ∧ v2.cell? ⟨P1, 2, none⟩ = some (.int .i64 s.ne) ∧ v2.cell? ⟨P1, 3, none⟩ = some (.int .i64 s.ma)) ∧ v2.cell? ⟨w.heap.size + 1, 0, none⟩ = some (.slice da DL dc) ∧ v2.cell? ⟨w.heap.size + 1, 1, none⟩ = some (.slice aa AL ac) ∧ v2.cell? ⟨w.heap.size + 1, 2, none⟩ = some (.int .i64 x.lo) ∧ v2.cell? ⟨w.heap.size + 1, 3, none⟩ = some (.int .i64 x.ne) ∧ v2.cell? ⟨w.heap.size + 1, 4, none⟩ = some (.int .i64 x.ma)) := ⟨four13 HWv2.out, five HXv2.out⟩
          have HRWv2 : Hid (UR v2 (.slice wa SL wc) s.ru) := HRWv1.out.below hbv2
          have HRAv2 : Hid (UR v2 (.slice ta TL tc) t.ru) := HRAv1.out.below hbv2
          obtain ⟨ea, ec, hve, _⟩ := he.a.form
          rw [HAL.out] at hve
          subst hve
          have HREv2 : Hid (EdR v2 (.slice da DL dc) (.slice ea AL ec) x) := he
          clear he
          have HQv2 : Hid (v2.heap[v0.heap.size]? = some (.cells #[.slice none 0 0, .int .i64 0, .int .i64 0, .int .i64 0] 31)) := (hbv2.block _ (by omega)).trans HQv1.out
          have hlqv2 : v0.heap.size < v2.heap.size := by have := hbv2.size; omega
          go_simp
          refine hK.out _ _ ?_ (fun hHeld => ?_)
          · exact HFv2.out
          clear hK K
          refine wpAnyH_ready (rs := [3]) (by kernel_rfl) (by simp) ?_
          refine AllReadyH.cons (o := _) rfl (fun K hK => ?_) AllReadyH.nil
          go_simp
          refine (refApply_any _ _ _ s x v2 HRWv2.out HREv2.out.d HREv2.out.a (by rw [HSL.out]; omega) (by rw [HAL.out]; omega)).mono ?_
          rintro e v3 ⟨vr, hvr, hur, hbv3⟩
          rw [← Ht.out, ← HC.out] at hvr
          rw [← Ht.out] at hur
          subst hvr
          have HBv3 : Hid (Below w.heap.size w v3) := HBv2.out.trans (hbv3.mono HBv2.out.size)
          have HSv3 : Hid (v3.heap[w.heap.size]? = some (.cells #[.slice sa SL sc, .int .i64 s.lo, .int .i64 s.ne, .int .i64 s.ma] 24)) := (hbv3.block _ (by omega)).trans HSv2.out
          have HXv3 : Hid (v3.heap[w.heap.size + 1]? = some (.cells #[.slice da DL dc, .slice aa AL ac, .int .i64 x.lo, .int .i64 x.ne, .int .i64 x.ma] 27)) := (hbv3.block _ (by omega)).trans HXv2.out
          have HWv3 : Hid (v3.heap[P1]? = some (.cells #[.slice wa SL wc, .int .i64 s.lo, .int .i64 s.ne, .int .i64 s.ma] 31)) := (hbv3.block _ (by omega)).trans HWv2.out
          have HAv3 : Hid (v3.heap[P2]? = some (.cells #[.slice ta TL tc, .int .i64 t.lo, .int .i64 t.ne, .int .i64 t.ma] 24)) := (hbv3.block _ (by omega)).trans HAv2.out
          have hzv3 : P2 < v3.heap.size := by have := hbv3.size; omega
          have hszv3 : v0.heap.size ≤ v3.heap.size := by have := hbv3.size; omega
          have HFv3 : Hid ((v3.cell? ⟨P1, 0, none⟩ = some (.slice wa SL wc) ∧ v3.cell? ⟨P1, 1, none⟩ = some (.int .i64 s.lo) ∧ v3.cell? ⟨P1, 2, none⟩ = some (.int .i64 s.ne) ∧ v3.cell? ⟨P1, 3, none⟩ = some (.int .i64 s.ma)) ∧ v3.cell? ⟨w.heap.size + 1, 0, none⟩ = some (.slice da DL dc) ∧ v3.cell? ⟨w.heap.size + 1, 1, none⟩ = some (.slice aa AL ac) ∧ v3.cell? ⟨w.heap.size + 1, 2, none⟩ = some (.int .i64 x.lo) ∧ v3.cell? ⟨w.heap.size + 1, 3, none⟩ = some (.int .i64 x.ne) ∧ v3.cell? ⟨w.heap.size + 1, 4, none⟩ = some (.int .i64 x.ma)) := ⟨four13 HWv3.out, five HXv3.out⟩
          have HRWv3 : Hid (UR v3 (.slice wa SL wc) s.ru) := HRWv2.out.below hbv3
          have HRAv3 : Hid (UR v3 (.slice ta TL tc) t.ru) := HRAv2.out.below hbv3
          obtain ⟨ra, rc, hvr2, _⟩ := hur.r.form
          rw [HTL.out] at hvr2
          subst hvr2
          have HRBv3 : Hid (UR v3 (.slice ra TL rc) t.ru) := hur
          clear hur
          have HQv3 : Hid (v3.heap[v0.heap.size]? = some (.cells #[.slice none 0 0, .int .i64 0, .int .i64 0, .int .i64 0] 31)) := (hbv3.block _ (by omega)).trans HQv2.out
          have hlqv3 : v0.heap.size < v3.heap.size := by have := hbv3.size; omega
          go_simp
          refine hK.out _ _ ?_ (fun hHeld => ?_)
          · exact HFv3.out
          clear hK K
          refine wpAnyH_take (i := 4) (v := .tuple #[.agg #[.slice ra TL rc, .int .i64 t.lo, .int .i64 t.ne, .int .i64 t.ma], .int .i64 C]) rfl (by kernel_rfl) (by kernel_rfl) (by kernel_rfl) (fun _ _ _ h => h) (Or.inl ⟨by rfl, ?_⟩) (by assumption) ?_
          · (intro w1 hSw; (try dsimp only at hSw); go_simp)
          simp only [List.getElem_toArray, List.getElem_cons_succ, List.getElem_cons_zero, Act.put, List.setIfInBounds_toArray, List.set_cons_zero, List.set_cons_succ]
          refine wpAnyH_take (i := 5) (v := .agg #[.slice ra TL rc, .int .i64 t.lo, .int .i64 t.ne, .int .i64 t.ma]) rfl (by kernel_rfl) (by kernel_rfl) (by kernel_rfl) (fun _ _ _ h => h) (Or.inl ⟨by rfl, ?_⟩) (by assumption) ?_
          · (intro w1 hSw; (try dsimp only at hSw); go_simp)
          simp only [List.getElem_toArray, List.getElem_cons_succ, List.getElem_cons_zero, Act.put, List.setIfInBounds_toArray, List.set_cons_zero, List.set_cons_succ]
          refine wpAnyH_take (i := 6) (v := .int .i64 C) rfl (by kernel_rfl) (by kernel_rfl) (by kernel_rfl) (fun _ _ _ h => h) (Or.inl ⟨by rfl, ?_⟩) (by assumption) ?_
          · (intro w1 hSw; (try dsimp only at hSw); go_simp)
          simp only [List.getElem_toArray, List.getElem_cons_succ, List.getElem_cons_zero, Act.put, List.setIfInBounds_toArray, List.set_cons_zero, List.set_cons_succ]
          have HOn : Hid (([.slice ra TL rc, .int .i64 t.lo, .int .i64 t.ne, .int .i64 t.ma] : List Value).toArray.all (·.oneCell') = true) := by unfold Hid; kernel_rfl
          refine wpAnyH_ready (rs := [8]) (by kernel_rfl) (by simp) ?_
          refine AllReadyH.cons (o := _) rfl (fun K hK => ?_) AllReadyH.nil
          refine wp_storeN _ _ _ rfl (v0.heap.size) 0 [.slice ra TL rc, .int .i64 t.lo, .int .i64 t.ne, .int .i64 t.ma] rfl rfl _ _ HQv3.out (by simp) (by kernel_rfl) HOn.out (fun u0 hu0 => ?_)
          have HT0 : Hid (u0.heap[v0.heap.size]? = some (.cells #[.slice ra TL rc, .int .i64 t.lo, .int .i64 t.ne, .int .i64 t.ma] 31)) := stW_all hu0 (by simp)
          have hot : ∀ k, k ≠ v0.heap.size → u0.heap[k]? = v3.heap[k]? := hu0.o
          have HSu0 : Hid (u0.heap[w.heap.size]? = some (.cells #[.slice sa SL sc, .int .i64 s.lo, .int .i64 s.ne, .int .i64 s.ma] 24)) := (hot _ (by omega)).trans HSv3.out
          have HXu0 : Hid (u0.heap[w.heap.size + 1]? = some (.cells #[.slice da DL dc, .slice aa AL ac, .int .i64 x.lo, .int .i64 x.ne, .int .i64 x.ma] 27)) := (hot _ (by omega)).trans HXv3.out
          have HWu0 : Hid (u0.heap[P1]? = some (.cells #[.slice wa SL wc, .int .i64 s.lo, .int .i64 s.ne, .int .i64 s.ma] 31)) := (hot _ (by omega)).trans HWv3.out
          have HAu0 : Hid (u0.heap[P2]? = some (.cells #[.slice ta TL tc, .int .i64 t.lo, .int .i64 t.ne, .int .i64 t.ma] 24)) := (hot _ (by omega)).trans HAv3.out
          have HBu0 : Hid (Below w.heap.size w u0) := HBv3.out.trans (hu0.b _ (by omega))
          have HFu0 : Hid ((u0.cell? ⟨P1, 0, none⟩ = some (.slice wa SL wc) ∧ u0.cell? ⟨P1, 1, none⟩ = some (.int .i64 s.lo) ∧ u0.cell? ⟨P1, 2, none⟩ = some (.int .i64 s.ne) ∧ u0.cell? ⟨P1, 3, none⟩ = some (.int .i64 s.ma)) ∧ u0.cell? ⟨w.heap.size + 1, 0, none⟩ = some (.slice da DL dc) ∧ u0.cell? ⟨w.heap.size + 1, 1, none⟩ = some (.slice aa AL ac) ∧ u0.cell? ⟨w.heap.size + 1, 2, none⟩ = some (.int .i64 x.lo) ∧ u0.cell? ⟨w.heap.size + 1, 3, none⟩ = some (.int .i64 x.ne) ∧ u0.cell? ⟨w.heap.size + 1, 4, none⟩ = some (.int .i64 x.ma)) := ⟨four13 HWu0.out, five HXu0.out⟩
          have HLw : Hid (0 < s.ru.length → ∀ b off n c, (Value.slice wa SL wc) = .slice (some ⟨b, off, none⟩) n c → b ≠ v0.heap.size) := fun h0 b off n c e => notP_low HRWv0.out.r (by omega) h0 b off n c e
          have HLa : Hid (0 < t.ru.length → ∀ b off n c, (Value.slice ta TL tc) = .slice (some ⟨b, off, none⟩) n c → b ≠ v0.heap.size) := fun h0 b off n c e => row_ne HRAv3.out.r h0 (HTf.out h0) e HQv3.out
          have HLb : Hid (0 < t.ru.length → ∀ b off n c, (Value.slice ra TL rc) = .slice (some ⟨b, off, none⟩) n c → b ≠ v0.heap.size) := fun h0 b off n c e => row_ne HRBv3.out.r h0 (HTf.out h0) e HQv3.out
          have HRWu0 : Hid (UR u0 (.slice wa SL wc) s.ru) := ⟨HRWv3.out.r.keepC fun h0 b off n c e => hot b (HLw.out h0 b off n c e), HRWv3.out.c, HRWv3.out.z⟩
          have HRAu0 : Hid (UR u0 (.slice ta TL tc) t.ru) := ⟨HRAv3.out.r.keepC fun h0 b off n c e => hot b (HLa.out h0 b off n c e), HRAv3.out.c, HRAv3.out.z⟩
          have HRBu0 : Hid (UR u0 (.slice ra TL rc) t.ru) := ⟨HRBv3.out.r.keepC fun h0 b off n c e => hot b (HLb.out h0 b off n c e), HRBv3.out.c, HRBv3.out.z⟩
          have hzu0 : P2 < u0.heap.size ∧ v0.heap.size < u0.heap.size := ⟨(Array.getElem?_eq_some_iff.1 HAu0.out).1, (Array.getElem?_eq_some_iff.1 HT0.out).1⟩
          clear hu0 hot
          refine hK.out _ _ ?_ (fun hHeld => ?_)
          · exact HFu0.out
          clear hK K
          refine wpAnyH_ready (rs := [9]) (by kernel_rfl) (by simp) ?_
          refine AllReadyH.cons (o := _) rfl (fun K hK => ?_) AllReadyH.nil
          go_simp
          refine hK.out _ _ ?_ (fun hHeld => ?_)
          · exact HFu0.out
          clear hK K
          refine wpAnyH_done (by kernel_rfl) ?_ _
          refine NoPanic.normal ?_
          obtain ⟨x0, HX0e⟩ := hid_ex u0.drew
          have hbx0 : Below u0.heap.size u0 x0 := by rw [HX0e.out]; exact (Below.refl _ _).drew
          have HBx0 : Hid (Below w.heap.size w x0) := HBu0.out.trans (hbx0.mono HBu0.out.size)
          have HSx0 : Hid (x0.heap[w.heap.size]? = some (.cells #[.slice sa SL sc, .int .i64 s.lo, .int .i64 s.ne, .int .i64 s.ma] 24)) := (hbx0.block _ (by omega)).trans HSu0.out
          have HWx0 : Hid (x0.heap[P1]? = some (.cells #[.slice wa SL wc, .int .i64 s.lo, .int .i64 s.ne, .int .i64 s.ma] 31)) := (hbx0.block _ (by omega)).trans HWu0.out
          have HAx0 : Hid (x0.heap[P2]? = some (.cells #[.slice ta TL tc, .int .i64 t.lo, .int .i64 t.ne, .int .i64 t.ma] 24)) := (hbx0.block _ (by omega)).trans HAu0.out
          have HTx0 : Hid (x0.heap[v0.heap.size]? = some (.cells #[.slice ra TL rc, .int .i64 t.lo, .int .i64 t.ne, .int .i64 t.ma] 31)) := (hbx0.block _ (by omega)).trans HT0.out
          have hzx0 : P2 < x0.heap.size ∧ v0.heap.size < x0.heap.size := by have := hbx0.size; omega
          have HRWx0 : Hid (UR x0 (.slice wa SL wc) s.ru) := HRWu0.out.below hbx0
          have HRAx0 : Hid (UR x0 (.slice ta TL tc) t.ru) := HRAu0.out.below hbx0
          have HRBx0 : Hid (UR x0 (.slice ra TL rc) t.ru) := HRBu0.out.below hbx0
          have HGx0 : Hid ((x0.cell? ⟨w.heap.size, 0, none⟩ = some (.slice sa SL sc) ∧ x0.cell? ⟨w.heap.size, 1, none⟩ = some (.int .i64 s.lo) ∧ x0.cell? ⟨w.heap.size, 2, none⟩ = some (.int .i64 s.ne) ∧ x0.cell? ⟨w.heap.size, 3, none⟩ = some (.int .i64 s.ma)) ∧ (x0.cell? ⟨P1, 0, none⟩ = some (.slice wa SL wc) ∧ x0.cell? ⟨P1, 1, none⟩ = some (.int .i64 s.lo) ∧ x0.cell? ⟨P1, 2, none⟩ = some (.int .i64 s.ne) ∧ x0.cell? ⟨P1, 3, none⟩ = some (.int .i64 s.ma)) ∧ (x0.cell? ⟨P2, 0, none⟩ = some (.slice ta TL tc) ∧ x0.cell? ⟨P2, 1, none⟩ = some (.int .i64 t.lo) ∧ x0.cell? ⟨P2, 2, none⟩ = some (.int .i64 t.ne) ∧ x0.cell? ⟨P2, 3, none⟩ = some (.int .i64 t.ma)) ∧ (x0.cell? ⟨v0.heap.size, 0, none⟩ = some (.slice ra TL rc) ∧ x0.cell? ⟨v0.heap.size, 1, none⟩ = some (.int .i64 t.lo) ∧ x0.cell? ⟨v0.heap.size, 2, none⟩ = some (.int .i64 t.ne) ∧ x0.cell? ⟨v0.heap.size, 3, none⟩ = some (.int .i64 t.ma))) := ⟨four13 HSx0.out, four13 HWx0.out, four13 HAx0.out, four13 HTx0.out⟩
          clear HBu0 HSu0 HXu0 HWu0 HAu0 HFu0 HT0 hzu0 HRWu0 HRAu0 HRBu0 HLw HLa HLb HOn
          go_wp2_with fail
          refine wp_region_noPanic ?_
          refine wp_region_held_drew (S := fun w' => (w'.cell? ⟨w.heap.size, 0, none⟩ = some (.slice sa SL sc) ∧ w'.cell? ⟨w.heap.size, 1, none⟩ = some (.int .i64 s.lo) ∧ w'.cell? ⟨w.heap.size, 2, none⟩ = some (.int .i64 s.ne) ∧ w'.cell? ⟨w.heap.size, 3, none⟩ = some (.int .i64 s.ma)) ∧ (w'.cell? ⟨P1, 0, none⟩ = some (.slice wa SL wc) ∧ w'.cell? ⟨P1, 1, none⟩ = some (.int .i64 s.lo) ∧ w'.cell? ⟨P1, 2, none⟩ = some (.int .i64 s.ne) ∧ w'.cell? ⟨P1, 3, none⟩ = some (.int .i64 s.ma)) ∧ (w'.cell? ⟨P2, 0, none⟩ = some (.slice ta TL tc) ∧ w'.cell? ⟨P2, 1, none⟩ = some (.int .i64 t.lo) ∧ w'.cell? ⟨P2, 2, none⟩ = some (.int .i64 t.ne) ∧ w'.cell? ⟨P2, 3, none⟩ = some (.int .i64 t.ma)) ∧ (w'.cell? ⟨v0.heap.size, 0, none⟩ = some (.slice ra TL rc) ∧ w'.cell? ⟨v0.heap.size, 1, none⟩ = some (.int .i64 t.lo) ∧ w'.cell? ⟨v0.heap.size, 2, none⟩ = some (.int .i64 t.ne) ∧ w'.cell? ⟨v0.heap.size, 3, none⟩ = some (.int .i64 t.ma))) (by kernel_rfl) ?_ (fun hHeld => ?_)
          · (rw [← HX0e.out]; exact HGx0.out)
          rw [← HX0e.out]
          clear HX0e hbx0
          refine wpAnyH_ready (rs := [0]) (by kernel_rfl) (by simp) ?_
          refine AllReadyH.cons (o := _) rfl (fun K hK => ?_) AllReadyH.nil
          go_simp
          refine (alive13_any _).mono ?_
          rintro e u1 ⟨rfl, hbu1⟩
          have HBu1 : Hid (Below w.heap.size w u1) := HBx0.out.trans (hbu1.mono HBx0.out.size)
          have HSu1 : Hid (u1.heap[w.heap.size]? = some (.cells #[.slice sa SL sc, .int .i64 s.lo, .int .i64 s.ne, .int .i64 s.ma] 24)) := (hbu1.block _ (by omega)).trans HSx0.out
          have HWu1 : Hid (u1.heap[P1]? = some (.cells #[.slice wa SL wc, .int .i64 s.lo, .int .i64 s.ne, .int .i64 s.ma] 31)) := (hbu1.block _ (by omega)).trans HWx0.out
          have HAu1 : Hid (u1.heap[P2]? = some (.cells #[.slice ta TL tc, .int .i64 t.lo, .int .i64 t.ne, .int .i64 t.ma] 24)) := (hbu1.block _ (by omega)).trans HAx0.out
          have HTu1 : Hid (u1.heap[v0.heap.size]? = some (.cells #[.slice ra TL rc, .int .i64 t.lo, .int .i64 t.ne, .int .i64 t.ma] 31)) := (hbu1.block _ (by omega)).trans HTx0.out
          have hzu1 : P2 < u1.heap.size ∧ v0.heap.size < u1.heap.size := by have := hbu1.size; omega
          have HRWu1 : Hid (UR u1 (.slice wa SL wc) s.ru) := HRWx0.out.below hbu1
          have HRAu1 : Hid (UR u1 (.slice ta TL tc) t.ru) := HRAx0.out.below hbu1
          have HRBu1 : Hid (UR u1 (.slice ra TL rc) t.ru) := HRBx0.out.below hbu1
          have HGu1 : Hid ((u1.cell? ⟨w.heap.size, 0, none⟩ = some (.slice sa SL sc) ∧ u1.cell? ⟨w.heap.size, 1, none⟩ = some (.int .i64 s.lo) ∧ u1.cell? ⟨w.heap.size, 2, none⟩ = some (.int .i64 s.ne) ∧ u1.cell? ⟨w.heap.size, 3, none⟩ = some (.int .i64 s.ma)) ∧ (u1.cell? ⟨P1, 0, none⟩ = some (.slice wa SL wc) ∧ u1.cell? ⟨P1, 1, none⟩ = some (.int .i64 s.lo) ∧ u1.cell? ⟨P1, 2, none⟩ = some (.int .i64 s.ne) ∧ u1.cell? ⟨P1, 3, none⟩ = some (.int .i64 s.ma)) ∧ (u1.cell? ⟨P2, 0, none⟩ = some (.slice ta TL tc) ∧ u1.cell? ⟨P2, 1, none⟩ = some (.int .i64 t.lo) ∧ u1.cell? ⟨P2, 2, none⟩ = some (.int .i64 t.ne) ∧ u1.cell? ⟨P2, 3, none⟩ = some (.int .i64 t.ma)) ∧ (u1.cell? ⟨v0.heap.size, 0, none⟩ = some (.slice ra TL rc) ∧ u1.cell? ⟨v0.heap.size, 1, none⟩ = some (.int .i64 t.lo) ∧ u1.cell? ⟨v0.heap.size, 2, none⟩ = some (.int .i64 t.ne) ∧ u1.cell? ⟨v0.heap.size, 3, none⟩ = some (.int .i64 t.ma))) := ⟨four13 HSu1.out, four13 HWu1.out, four13 HAu1.out, four13 HTu1.out⟩
          clear hbu1
          go_simp
          refine hK.out _ _ ?_ (fun hHeld => ?_)
          · exact HGu1.out
          clear hK K
          refine wpAnyH_take (i := 1) (v := .bool true) rfl (by kernel_rfl) (by kernel_rfl) (by kernel_rfl) (fun _ _ _ h => h) (Or.inl ⟨by rfl, ?_⟩) (by assumption) ?_
          · (intro w1 hSw; (try dsimp only at hSw); go_simp)
          simp only [List.getElem_toArray, List.getElem_cons_succ, List.getElem_cons_zero, Act.put, List.setIfInBounds_toArray, List.set_cons_zero, List.set_cons_succ]
          refine wpAnyH_take (i := 2) (v := .agg #[.slice sa SL sc, .int .i64 s.lo, .int .i64 s.ne, .int .i64 s.ma]) rfl (by kernel_rfl) (by kernel_rfl) (by kernel_rfl) (fun _ _ _ h => h) (Or.inl ⟨by rfl, ?_⟩) (by assumption) ?_
          · (intro w1 hSw; (try dsimp only at hSw); go_simp)
          simp only [List.getElem_toArray, List.getElem_cons_succ, List.getElem_cons_zero, Act.put, List.setIfInBounds_toArray, List.set_cons_zero, List.set_cons_succ]
          refine wpAnyH_take (i := 4) (v := .agg #[.slice wa SL wc, .int .i64 s.lo, .int .i64 s.ne, .int .i64 s.ma]) rfl (by kernel_rfl) (by kernel_rfl) (by kernel_rfl) (fun _ _ _ h => h) (Or.inl ⟨by rfl, ?_⟩) (by assumption) ?_
          · (intro w1 hSw; (try dsimp only at hSw); go_simp)
          simp only [List.getElem_toArray, List.getElem_cons_succ, List.getElem_cons_zero, Act.put, List.setIfInBounds_toArray, List.set_cons_zero, List.set_cons_succ]
          refine wpAnyH_ready (rs := [3]) (by kernel_rfl) (by simp) ?_
          refine AllReadyH.cons (o := _) rfl (fun K hK => ?_) AllReadyH.nil
          go_simp
          refine (right13_any _ s u1 (HU.out.below HBu1.out)).mono ?_
          rintro e u2 ⟨rfl, hbu2⟩
          have HBu2 : Hid (Below w.heap.size w u2) := HBu1.out.trans (hbu2.mono HBu1.out.size)
          have HSu2 : Hid (u2.heap[w.heap.size]? = some (.cells #[.slice sa SL sc, .int .i64 s.lo, .int .i64 s.ne, .int .i64 s.ma] 24)) := (hbu2.block _ (by omega)).trans HSu1.out
          have HWu2 : Hid (u2.heap[P1]? = some (.cells #[.slice wa SL wc, .int .i64 s.lo, .int .i64 s.ne, .int .i64 s.ma] 31)) := (hbu2.block _ (by omega)).trans HWu1.out
          have HAu2 : Hid (u2.heap[P2]? = some (.cells #[.slice ta TL tc, .int .i64 t.lo, .int .i64 t.ne, .int .i64 t.ma] 24)) := (hbu2.block _ (by omega)).trans HAu1.out
          have HTu2 : Hid (u2.heap[v0.heap.size]? = some (.cells #[.slice ra TL rc, .int .i64 t.lo, .int .i64 t.ne, .int .i64 t.ma] 31)) := (hbu2.block _ (by omega)).trans HTu1.out
          have hzu2 : P2 < u2.heap.size ∧ v0.heap.size < u2.heap.size := by have := hbu2.size; omega
          have HRWu2 : Hid (UR u2 (.slice wa SL wc) s.ru) := HRWu1.out.below hbu2
          have HRAu2 : Hid (UR u2 (.slice ta TL tc) t.ru) := HRAu1.out.below hbu2
          have HRBu2 : Hid (UR u2 (.slice ra TL rc) t.ru) := HRBu1.out.below hbu2
          have HGu2 : Hid ((u2.cell? ⟨w.heap.size, 0, none⟩ = some (.slice sa SL sc) ∧ u2.cell? ⟨w.heap.size, 1, none⟩ = some (.int .i64 s.lo) ∧ u2.cell? ⟨w.heap.size, 2, none⟩ = some (.int .i64 s.ne) ∧ u2.cell? ⟨w.heap.size, 3, none⟩ = some (.int .i64 s.ma)) ∧ (u2.cell? ⟨P1, 0, none⟩ = some (.slice wa SL wc) ∧ u2.cell? ⟨P1, 1, none⟩ = some (.int .i64 s.lo) ∧ u2.cell? ⟨P1, 2, none⟩ = some (.int .i64 s.ne) ∧ u2.cell? ⟨P1, 3, none⟩ = some (.int .i64 s.ma)) ∧ (u2.cell? ⟨P2, 0, none⟩ = some (.slice ta TL tc) ∧ u2.cell? ⟨P2, 1, none⟩ = some (.int .i64 t.lo) ∧ u2.cell? ⟨P2, 2, none⟩ = some (.int .i64 t.ne) ∧ u2.cell? ⟨P2, 3, none⟩ = some (.int .i64 t.ma)) ∧ (u2.cell? ⟨v0.heap.size, 0, none⟩ = some (.slice ra TL rc) ∧ u2.cell? ⟨v0.heap.size, 1, none⟩ = some (.int .i64 t.lo) ∧ u2.cell? ⟨v0.heap.size, 2, none⟩ = some (.int .i64 t.ne) ∧ u2.cell? ⟨v0.heap.size, 3, none⟩ = some (.int .i64 t.ma))) := ⟨four13 HSu2.out, four13 HWu2.out, four13 HAu2.out, four13 HTu2.out⟩
          rw [← Hq.out]
          clear hbu2
          go_simp
          refine hK.out _ _ ?_ (fun hHeld => ?_)
          · exact HGu2.out
          clear hK K
          refine wpAnyH_ready (rs := [5]) (by kernel_rfl) (by simp) ?_
          refine AllReadyH.cons (o := _) rfl (fun K hK => ?_) AllReadyH.nil
          go_simp
          refine (refRight13_any _ s u2 HRWu2.out.r).mono ?_
          rintro e u3 ⟨rfl, hbu3⟩
          have HBu3 : Hid (Below w.heap.size w u3) := HBu2.out.trans (hbu3.mono HBu2.out.size)
          have HSu3 : Hid (u3.heap[w.heap.size]? = some (.cells #[.slice sa SL sc, .int .i64 s.lo, .int .i64 s.ne, .int .i64 s.ma] 24)) := (hbu3.block _ (by omega)).trans HSu2.out
          have HWu3 : Hid (u3.heap[P1]? = some (.cells #[.slice wa SL wc, .int .i64 s.lo, .int .i64 s.ne, .int .i64 s.ma] 31)) := (hbu3.block _ (by omega)).trans HWu2.out
          have HAu3 : Hid (u3.heap[P2]? = some (.cells #[.slice ta TL tc, .int .i64 t.lo, .int .i64 t.ne, .int .i64 t.ma] 24)) := (hbu3.block _ (by omega)).trans HAu2.out
          have HTu3 : Hid (u3.heap[v0.heap.size]? = some (.cells #[.slice ra TL rc, .int .i64 t.lo, .int .i64 t.ne, .int .i64 t.ma] 31)) := (hbu3.block _ (by omega)).trans HTu2.out
          have hzu3 : P2 < u3.heap.size ∧ v0.heap.size < u3.heap.size := by have := hbu3.size; omega
          have HRWu3 : Hid (UR u3 (.slice wa SL wc) s.ru) := HRWu2.out.below hbu3
          have HRAu3 : Hid (UR u3 (.slice ta TL tc) t.ru) := HRAu2.out.below hbu3
          have HRBu3 : Hid (UR u3 (.slice ra TL rc) t.ru) := HRBu2.out.below hbu3
          have HGu3 : Hid ((u3.cell? ⟨w.heap.size, 0, none⟩ = some (.slice sa SL sc) ∧ u3.cell? ⟨w.heap.size, 1, none⟩ = some (.int .i64 s.lo) ∧ u3.cell? ⟨w.heap.size, 2, none⟩ = some (.int .i64 s.ne) ∧ u3.cell? ⟨w.heap.size, 3, none⟩ = some (.int .i64 s.ma)) ∧ (u3.cell? ⟨P1, 0, none⟩ = some (.slice wa SL wc) ∧ u3.cell? ⟨P1, 1, none⟩ = some (.int .i64 s.lo) ∧ u3.cell? ⟨P1, 2, none⟩ = some (.int .i64 s.ne) ∧ u3.cell? ⟨P1, 3, none⟩ = some (.int .i64 s.ma)) ∧ (u3.cell? ⟨P2, 0, none⟩ = some (.slice ta TL tc) ∧ u3.cell? ⟨P2, 1, none⟩ = some (.int .i64 t.lo) ∧ u3.cell? ⟨P2, 2, none⟩ = some (.int .i64 t.ne) ∧ u3.cell? ⟨P2, 3, none⟩ = some (.int .i64 t.ma)) ∧ (u3.cell? ⟨v0.heap.size, 0, none⟩ = some (.slice ra TL rc) ∧ u3.cell? ⟨v0.heap.size, 1, none⟩ = some (.int .i64 t.lo) ∧ u3.cell? ⟨v0.heap.size, 2, none⟩ = some (.int .i64 t.ne) ∧ u3.cell? ⟨v0.heap.size, 3, none⟩ = some (.int .i64 t.ma))) := ⟨four13 HSu3.out, four13 HWu3.out, four13 HAu3.out, four13 HTu3.out⟩
          rw [← Hq.out]
          clear hbu3
          go_simp
          refine hK.out _ _ ?_ (fun hHeld => ?_)
          · exact HGu3.out
          clear hK K
          have hqq : (q == q) = true := by cases q <;> rfl
          refine wpAnyH_take (i := 6) (v := .bool true) rfl (by kernel_rfl) (by kernel_rfl) (by kernel_rfl) (fun _ _ _ h => h) (Or.inl ⟨by rfl, ?_⟩) (by assumption) ?_
          · (intro w1 hSw; (try dsimp only at hSw); go_simp)
          simp only [List.getElem_toArray, List.getElem_cons_succ, List.getElem_cons_zero, Act.put, List.setIfInBounds_toArray, List.set_cons_zero, List.set_cons_succ]
          refine wpAnyH_take (i := 7) (v := .bool true) rfl (by kernel_rfl) (by kernel_rfl) (by kernel_rfl) (fun _ _ _ h => h) (Or.inl ⟨by rfl, ?_⟩) (by assumption) ?_
          · (intro w1 hSw; (try dsimp only at hSw); go_simp)
          simp only [List.getElem_toArray, List.getElem_cons_succ, List.getElem_cons_zero, Act.put, List.setIfInBounds_toArray, List.set_cons_zero, List.set_cons_succ]
          refine wpAnyH_take (i := 8) (v := .bool true) rfl (by kernel_rfl) (by kernel_rfl) (by kernel_rfl) (fun _ _ _ h => h) (Or.inl ⟨by rfl, ?_⟩) (by assumption) ?_
          · (intro w1 hSw; (try dsimp only at hSw); go_simp)
          simp only [List.getElem_toArray, List.getElem_cons_succ, List.getElem_cons_zero, Act.put, List.setIfInBounds_toArray, List.set_cons_zero, List.set_cons_succ]
          refine wpAnyH_take (i := 9) (v := .agg #[.slice ta TL tc, .int .i64 t.lo, .int .i64 t.ne, .int .i64 t.ma]) rfl (by kernel_rfl) (by kernel_rfl) (by kernel_rfl) (fun _ _ _ h => h) (Or.inl ⟨by rfl, ?_⟩) (by assumption) ?_
          · (intro w1 hSw; (try dsimp only at hSw); go_simp)
          simp only [List.getElem_toArray, List.getElem_cons_succ, List.getElem_cons_zero, Act.put, List.setIfInBounds_toArray, List.set_cons_zero, List.set_cons_succ]
          refine wpAnyH_take (i := 11) (v := .agg #[.slice ra TL rc, .int .i64 t.lo, .int .i64 t.ne, .int .i64 t.ma]) rfl (by kernel_rfl) (by kernel_rfl) (by kernel_rfl) (fun _ _ _ h => h) (Or.inl ⟨by rfl, ?_⟩) (by assumption) ?_
          · (intro w1 hSw; (try dsimp only at hSw); go_simp)
          simp only [List.getElem_toArray, List.getElem_cons_succ, List.getElem_cons_zero, Act.put, List.setIfInBounds_toArray, List.set_cons_zero, List.set_cons_succ]
          refine wpAnyH_ready (rs := [10]) (by kernel_rfl) (by simp) ?_
          refine AllReadyH.cons (o := _) rfl (fun K hK => ?_) AllReadyH.nil
          go_simp
          refine (as13_any _ t u3 HRAu3.out.r HTl.out).mono ?_
          rintro e u4 ⟨v4, rfl, hr4, hbu4⟩
          have HBu4 : Hid (Below w.heap.size w u4) := HBu3.out.trans (hbu4.mono HBu3.out.size)
          have HSu4 : Hid (u4.heap[w.heap.size]? = some (.cells #[.slice sa SL sc, .int .i64 s.lo, .int .i64 s.ne, .int .i64 s.ma] 24)) := (hbu4.block _ (by omega)).trans HSu3.out
          have HWu4 : Hid (u4.heap[P1]? = some (.cells #[.slice wa SL wc, .int .i64 s.lo, .int .i64 s.ne, .int .i64 s.ma] 31)) := (hbu4.block _ (by omega)).trans HWu3.out
          have HAu4 : Hid (u4.heap[P2]? = some (.cells #[.slice ta TL tc, .int .i64 t.lo, .int .i64 t.ne, .int .i64 t.ma] 24)) := (hbu4.block _ (by omega)).trans HAu3.out
          have HTu4 : Hid (u4.heap[v0.heap.size]? = some (.cells #[.slice ra TL rc, .int .i64 t.lo, .int .i64 t.ne, .int .i64 t.ma] 31)) := (hbu4.block _ (by omega)).trans HTu3.out
          have hzu4 : P2 < u4.heap.size ∧ v0.heap.size < u4.heap.size := by have := hbu4.size; omega
          have HRWu4 : Hid (UR u4 (.slice wa SL wc) s.ru) := HRWu3.out.below hbu4
          have HRAu4 : Hid (UR u4 (.slice ta TL tc) t.ru) := HRAu3.out.below hbu4
          have HRBu4 : Hid (UR u4 (.slice ra TL rc) t.ru) := HRBu3.out.below hbu4
          have HGu4 : Hid ((u4.cell? ⟨w.heap.size, 0, none⟩ = some (.slice sa SL sc) ∧ u4.cell? ⟨w.heap.size, 1, none⟩ = some (.int .i64 s.lo) ∧ u4.cell? ⟨w.heap.size, 2, none⟩ = some (.int .i64 s.ne) ∧ u4.cell? ⟨w.heap.size, 3, none⟩ = some (.int .i64 s.ma)) ∧ (u4.cell? ⟨P1, 0, none⟩ = some (.slice wa SL wc) ∧ u4.cell? ⟨P1, 1, none⟩ = some (.int .i64 s.lo) ∧ u4.cell? ⟨P1, 2, none⟩ = some (.int .i64 s.ne) ∧ u4.cell? ⟨P1, 3, none⟩ = some (.int .i64 s.ma)) ∧ (u4.cell? ⟨P2, 0, none⟩ = some (.slice ta TL tc) ∧ u4.cell? ⟨P2, 1, none⟩ = some (.int .i64 t.lo) ∧ u4.cell? ⟨P2, 2, none⟩ = some (.int .i64 t.ne) ∧ u4.cell? ⟨P2, 3, none⟩ = some (.int .i64 t.ma)) ∧ (u4.cell? ⟨v0.heap.size, 0, none⟩ = some (.slice ra TL rc) ∧ u4.cell? ⟨v0.heap.size, 1, none⟩ = some (.int .i64 t.lo) ∧ u4.cell? ⟨v0.heap.size, 2, none⟩ = some (.int .i64 t.ne) ∧ u4.cell? ⟨v0.heap.size, 3, none⟩ = some (.int .i64 t.ma))) := ⟨four13 HSu4.out, four13 HWu4.out, four13 HAu4.out, four13 HTu4.out⟩
          have HR4 : Hid (RuR u4 v4 t.ru) := hr4
          clear hr4
          obtain ⟨va4, vc4, hv4, _⟩ := HR4.out.form
          rw [HTL.out] at hv4
          subst hv4
          clear hbu4
          go_simp
          refine hK.out _ _ ?_ (fun hHeld => ?_)
          · exact HGu4.out
          clear hK K
          refine wpAnyH_ready (rs := [12]) (by kernel_rfl) (by simp) ?_
          refine AllReadyH.cons (o := _) rfl (fun K hK => ?_) AllReadyH.nil
          go_simp
          refine (same13_any _ _ t.ru t.ru t.lo t.ne t.ma t.lo t.ne t.ma u4 HR4.out HRBu4.out.r).mono ?_
          rintro e u5 ⟨b5, rfl, hr5, hbu5⟩
          have HBu5 : Hid (Below w.heap.size w u5) := HBu4.out.trans (hbu5.mono HBu4.out.size)
          have HSu5 : Hid (u5.heap[w.heap.size]? = some (.cells #[.slice sa SL sc, .int .i64 s.lo, .int .i64 s.ne, .int .i64 s.ma] 24)) := (hbu5.block _ (by omega)).trans HSu4.out
          have HWu5 : Hid (u5.heap[P1]? = some (.cells #[.slice wa SL wc, .int .i64 s.lo, .int .i64 s.ne, .int .i64 s.ma] 31)) := (hbu5.block _ (by omega)).trans HWu4.out
          have HAu5 : Hid (u5.heap[P2]? = some (.cells #[.slice ta TL tc, .int .i64 t.lo, .int .i64 t.ne, .int .i64 t.ma] 24)) := (hbu5.block _ (by omega)).trans HAu4.out
          have HTu5 : Hid (u5.heap[v0.heap.size]? = some (.cells #[.slice ra TL rc, .int .i64 t.lo, .int .i64 t.ne, .int .i64 t.ma] 31)) := (hbu5.block _ (by omega)).trans HTu4.out
          have hzu5 : P2 < u5.heap.size ∧ v0.heap.size < u5.heap.size := by have := hbu5.size; omega
          have HRWu5 : Hid (UR u5 (.slice wa SL wc) s.ru) := HRWu4.out.below hbu5
          have HRAu5 : Hid (UR u5 (.slice ta TL tc) t.ru) := HRAu4.out.below hbu5
          have HRBu5 : Hid (UR u5 (.slice ra TL rc) t.ru) := HRBu4.out.below hbu5
          have HGu5 : Hid ((u5.cell? ⟨w.heap.size, 0, none⟩ = some (.slice sa SL sc) ∧ u5.cell? ⟨w.heap.size, 1, none⟩ = some (.int .i64 s.lo) ∧ u5.cell? ⟨w.heap.size, 2, none⟩ = some (.int .i64 s.ne) ∧ u5.cell? ⟨w.heap.size, 3, none⟩ = some (.int .i64 s.ma)) ∧ (u5.cell? ⟨P1, 0, none⟩ = some (.slice wa SL wc) ∧ u5.cell? ⟨P1, 1, none⟩ = some (.int .i64 s.lo) ∧ u5.cell? ⟨P1, 2, none⟩ = some (.int .i64 s.ne) ∧ u5.cell? ⟨P1, 3, none⟩ = some (.int .i64 s.ma)) ∧ (u5.cell? ⟨P2, 0, none⟩ = some (.slice ta TL tc) ∧ u5.cell? ⟨P2, 1, none⟩ = some (.int .i64 t.lo) ∧ u5.cell? ⟨P2, 2, none⟩ = some (.int .i64 t.ne) ∧ u5.cell? ⟨P2, 3, none⟩ = some (.int .i64 t.ma)) ∧ (u5.cell? ⟨v0.heap.size, 0, none⟩ = some (.slice ra TL rc) ∧ u5.cell? ⟨v0.heap.size, 1, none⟩ = some (.int .i64 t.lo) ∧ u5.cell? ⟨v0.heap.size, 2, none⟩ = some (.int .i64 t.ne) ∧ u5.cell? ⟨v0.heap.size, 3, none⟩ = some (.int .i64 t.ma))) := ⟨four13 HSu5.out, four13 HWu5.out, four13 HAu5.out, four13 HTu5.out⟩
          obtain rfl := hr5 ⟨rfl, rfl, rfl, rfl⟩
          clear hr5
          clear hbu5
          go_simp
          refine hK.out _ _ ?_ (fun hHeld => ?_)
          · exact HGu5.out
          clear hK K
          refine wpAnyH_take (i := 13) (v := .bool true) rfl (by kernel_rfl) (by kernel_rfl) (by kernel_rfl) (fun _ _ _ h => h) (Or.inl ⟨by rfl, ?_⟩) (by assumption) ?_
          · (intro w1 hSw; (try dsimp only at hSw); go_simp)
          simp only [List.getElem_toArray, List.getElem_cons_succ, List.getElem_cons_zero, Act.put, List.setIfInBounds_toArray, List.set_cons_zero, List.set_cons_succ]
          refine wpAnyH_take (i := 14) (v := .bool true) rfl (by kernel_rfl) (by kernel_rfl) (by kernel_rfl) (fun _ _ _ h => h) (Or.inl ⟨by rfl, ?_⟩) (by assumption) ?_
          · (intro w1 hSw; (try dsimp only at hSw); go_simp)
          simp only [List.getElem_toArray, List.getElem_cons_succ, List.getElem_cons_zero, Act.put, List.setIfInBounds_toArray, List.set_cons_zero, List.set_cons_succ]
          refine wpAnyH_take (i := 15) (v := .int .i64 C) rfl (by kernel_rfl) (by kernel_rfl) (by kernel_rfl) (fun _ _ _ h => h) (Or.inl ⟨by rfl, ?_⟩) (by assumption) ?_
          · (intro w1 hSw; (try dsimp only at hSw); go_simp)
          simp only [List.getElem_toArray, List.getElem_cons_succ, List.getElem_cons_zero, Act.put, List.setIfInBounds_toArray, List.set_cons_zero, List.set_cons_succ]
          refine wpAnyH_take (i := 16) (v := .int .i64 C) rfl (by kernel_rfl) (by kernel_rfl) (by kernel_rfl) (fun _ _ _ h => h) (Or.inl ⟨by rfl, ?_⟩) (by assumption) ?_
          · (intro w1 hSw; (try dsimp only at hSw); go_simp)
          simp only [List.getElem_toArray, List.getElem_cons_succ, List.getElem_cons_zero, Act.put, List.setIfInBounds_toArray, List.set_cons_zero, List.set_cons_succ]
          refine wpAnyH_take (i := 17) (v := .bool true) rfl (by kernel_rfl) (by kernel_rfl) (by kernel_rfl) (fun _ _ _ h => h) (Or.inl ⟨by rfl, ?_⟩) (by assumption) ?_
          · (intro w1 hSw; (try dsimp only at hSw); go_simp)
          simp only [List.getElem_toArray, List.getElem_cons_succ, List.getElem_cons_zero, Act.put, List.setIfInBounds_toArray, List.set_cons_zero, List.set_cons_succ]
          refine wpAnyH_take (i := 18) (v := .bool true) rfl (by kernel_rfl) (by kernel_rfl) (by kernel_rfl) (fun _ _ _ h => h) (Or.inl ⟨by rfl, ?_⟩) (by assumption) ?_
          · (intro w1 hSw; (try dsimp only at hSw); go_simp)
          simp only [List.getElem_toArray, List.getElem_cons_succ, List.getElem_cons_zero, Act.put, List.setIfInBounds_toArray, List.set_cons_zero, List.set_cons_succ]
          refine wpAnyH_take (i := 19) (v := .bool true) rfl (by kernel_rfl) (by kernel_rfl) (by kernel_rfl) (fun _ _ _ h => h) (Or.inl ⟨by rfl, ?_⟩) (by assumption) ?_
          · (intro w1 hSw; (try dsimp only at hSw); go_simp)
          simp only [List.getElem_toArray, List.getElem_cons_succ, List.getElem_cons_zero, Act.put, List.setIfInBounds_toArray, List.set_cons_zero, List.set_cons_succ]
          refine wpAnyH_take (i := 20) (v := .agg #[.slice sa SL sc, .int .i64 s.lo, .int .i64 s.ne, .int .i64 s.ma]) rfl (by kernel_rfl) (by kernel_rfl) (by kernel_rfl) (fun _ _ _ h => h) (Or.inl ⟨by rfl, ?_⟩) (by assumption) ?_
          · (intro w1 hSw; (try dsimp only at hSw); go_simp)
          simp only [List.getElem_toArray, List.getElem_cons_succ, List.getElem_cons_zero, Act.put, List.setIfInBounds_toArray, List.set_cons_zero, List.set_cons_succ]
          refine wpAnyH_take (i := 22) (v := .agg #[.slice wa SL wc, .int .i64 s.lo, .int .i64 s.ne, .int .i64 s.ma]) rfl (by kernel_rfl) (by kernel_rfl) (by kernel_rfl) (fun _ _ _ h => h) (Or.inl ⟨by rfl, ?_⟩) (by assumption) ?_
          · (intro w1 hSw; (try dsimp only at hSw); go_simp)
          simp only [List.getElem_toArray, List.getElem_cons_succ, List.getElem_cons_zero, Act.put, List.setIfInBounds_toArray, List.set_cons_zero, List.set_cons_succ]
          refine wpAnyH_ready (rs := [21]) (by kernel_rfl) (by simp) ?_
          refine AllReadyH.cons (o := _) rfl (fun K hK => ?_) AllReadyH.nil
          go_simp
          refine (as13_any _ s u5 (HU.out.below HBu5.out).r (by rw [HSL.out]; omega)).mono ?_
          rintro e u6 ⟨v6, rfl, hr6, hbu6⟩
          have HBu6 : Hid (Below w.heap.size w u6) := HBu5.out.trans (hbu6.mono HBu5.out.size)
          have HSu6 : Hid (u6.heap[w.heap.size]? = some (.cells #[.slice sa SL sc, .int .i64 s.lo, .int .i64 s.ne, .int .i64 s.ma] 24)) := (hbu6.block _ (by omega)).trans HSu5.out
          have HWu6 : Hid (u6.heap[P1]? = some (.cells #[.slice wa SL wc, .int .i64 s.lo, .int .i64 s.ne, .int .i64 s.ma] 31)) := (hbu6.block _ (by omega)).trans HWu5.out
          have HAu6 : Hid (u6.heap[P2]? = some (.cells #[.slice ta TL tc, .int .i64 t.lo, .int .i64 t.ne, .int .i64 t.ma] 24)) := (hbu6.block _ (by omega)).trans HAu5.out
          have HTu6 : Hid (u6.heap[v0.heap.size]? = some (.cells #[.slice ra TL rc, .int .i64 t.lo, .int .i64 t.ne, .int .i64 t.ma] 31)) := (hbu6.block _ (by omega)).trans HTu5.out
          have hzu6 : P2 < u6.heap.size ∧ v0.heap.size < u6.heap.size := by have := hbu6.size; omega
          have HRWu6 : Hid (UR u6 (.slice wa SL wc) s.ru) := HRWu5.out.below hbu6
          have HRAu6 : Hid (UR u6 (.slice ta TL tc) t.ru) := HRAu5.out.below hbu6
          have HRBu6 : Hid (UR u6 (.slice ra TL rc) t.ru) := HRBu5.out.below hbu6
          have HGu6 : Hid ((u6.cell? ⟨w.heap.size, 0, none⟩ = some (.slice sa SL sc) ∧ u6.cell? ⟨w.heap.size, 1, none⟩ = some (.int .i64 s.lo) ∧ u6.cell? ⟨w.heap.size, 2, none⟩ = some (.int .i64 s.ne) ∧ u6.cell? ⟨w.heap.size, 3, none⟩ = some (.int .i64 s.ma)) ∧ (u6.cell? ⟨P1, 0, none⟩ = some (.slice wa SL wc) ∧ u6.cell? ⟨P1, 1, none⟩ = some (.int .i64 s.lo) ∧ u6.cell? ⟨P1, 2, none⟩ = some (.int .i64 s.ne) ∧ u6.cell? ⟨P1, 3, none⟩ = some (.int .i64 s.ma)) ∧ (u6.cell? ⟨P2, 0, none⟩ = some (.slice ta TL tc) ∧ u6.cell? ⟨P2, 1, none⟩ = some (.int .i64 t.lo) ∧ u6.cell? ⟨P2, 2, none⟩ = some (.int .i64 t.ne) ∧ u6.cell? ⟨P2, 3, none⟩ = some (.int .i64 t.ma)) ∧ (u6.cell? ⟨v0.heap.size, 0, none⟩ = some (.slice ra TL rc) ∧ u6.cell? ⟨v0.heap.size, 1, none⟩ = some (.int .i64 t.lo) ∧ u6.cell? ⟨v0.heap.size, 2, none⟩ = some (.int .i64 t.ne) ∧ u6.cell? ⟨v0.heap.size, 3, none⟩ = some (.int .i64 t.ma))) := ⟨four13 HSu6.out, four13 HWu6.out, four13 HAu6.out, four13 HTu6.out⟩
          have HR6 : Hid (RuR u6 v6 s.ru) := hr6
          clear hr6
          obtain ⟨va6, vc6, hv6, _⟩ := HR6.out.form
          rw [HSL.out] at hv6
          subst hv6
          clear hbu6
          go_simp
          refine hK.out _ _ ?_ (fun hHeld => ?_)
          · exact HGu6.out
          clear hK K
          refine wpAnyH_ready (rs := [23]) (by kernel_rfl) (by simp) ?_
          refine AllReadyH.cons (o := _) rfl (fun K hK => ?_) AllReadyH.nil
          go_simp
          refine (same13_any _ _ s.ru s.ru s.lo s.ne s.ma s.lo s.ne s.ma u6 HR6.out HRWu6.out.r).mono ?_
          rintro e u7 ⟨b7, rfl, hr7, hbu7⟩
          have HBu7 : Hid (Below w.heap.size w u7) := HBu6.out.trans (hbu7.mono HBu6.out.size)
          have HSu7 : Hid (u7.heap[w.heap.size]? = some (.cells #[.slice sa SL sc, .int .i64 s.lo, .int .i64 s.ne, .int .i64 s.ma] 24)) := (hbu7.block _ (by omega)).trans HSu6.out
          have HWu7 : Hid (u7.heap[P1]? = some (.cells #[.slice wa SL wc, .int .i64 s.lo, .int .i64 s.ne, .int .i64 s.ma] 31)) := (hbu7.block _ (by omega)).trans HWu6.out
          have HAu7 : Hid (u7.heap[P2]? = some (.cells #[.slice ta TL tc, .int .i64 t.lo, .int .i64 t.ne, .int .i64 t.ma] 24)) := (hbu7.block _ (by omega)).trans HAu6.out
          have HTu7 : Hid (u7.heap[v0.heap.size]? = some (.cells #[.slice ra TL rc, .int .i64 t.lo, .int .i64 t.ne, .int .i64 t.ma] 31)) := (hbu7.block _ (by omega)).trans HTu6.out
          have hzu7 : P2 < u7.heap.size ∧ v0.heap.size < u7.heap.size := by have := hbu7.size; omega
          have HRWu7 : Hid (UR u7 (.slice wa SL wc) s.ru) := HRWu6.out.below hbu7
          have HRAu7 : Hid (UR u7 (.slice ta TL tc) t.ru) := HRAu6.out.below hbu7
          have HRBu7 : Hid (UR u7 (.slice ra TL rc) t.ru) := HRBu6.out.below hbu7
          have HGu7 : Hid ((u7.cell? ⟨w.heap.size, 0, none⟩ = some (.slice sa SL sc) ∧ u7.cell? ⟨w.heap.size, 1, none⟩ = some (.int .i64 s.lo) ∧ u7.cell? ⟨w.heap.size, 2, none⟩ = some (.int .i64 s.ne) ∧ u7.cell? ⟨w.heap.size, 3, none⟩ = some (.int .i64 s.ma)) ∧ (u7.cell? ⟨P1, 0, none⟩ = some (.slice wa SL wc) ∧ u7.cell? ⟨P1, 1, none⟩ = some (.int .i64 s.lo) ∧ u7.cell? ⟨P1, 2, none⟩ = some (.int .i64 s.ne) ∧ u7.cell? ⟨P1, 3, none⟩ = some (.int .i64 s.ma)) ∧ (u7.cell? ⟨P2, 0, none⟩ = some (.slice ta TL tc) ∧ u7.cell? ⟨P2, 1, none⟩ = some (.int .i64 t.lo) ∧ u7.cell? ⟨P2, 2, none⟩ = some (.int .i64 t.ne) ∧ u7.cell? ⟨P2, 3, none⟩ = some (.int .i64 t.ma)) ∧ (u7.cell? ⟨v0.heap.size, 0, none⟩ = some (.slice ra TL rc) ∧ u7.cell? ⟨v0.heap.size, 1, none⟩ = some (.int .i64 t.lo) ∧ u7.cell? ⟨v0.heap.size, 2, none⟩ = some (.int .i64 t.ne) ∧ u7.cell? ⟨v0.heap.size, 3, none⟩ = some (.int .i64 t.ma))) := ⟨four13 HSu7.out, four13 HWu7.out, four13 HAu7.out, four13 HTu7.out⟩
          obtain rfl := hr7 ⟨rfl, rfl, rfl, rfl⟩
          clear hr7
          clear hbu7
          go_simp
          refine hK.out _ _ ?_ (fun hHeld => ?_)
          · exact HGu7.out
          clear hK K
          refine wpAnyH_take (i := 24) (v := .bool true) rfl (by kernel_rfl) (by kernel_rfl) (by kernel_rfl) (fun _ _ _ h => h) (Or.inl ⟨by rfl, ?_⟩) (by assumption) ?_
          · (intro w1 hSw; (try dsimp only at hSw); go_simp)
          simp only [List.getElem_toArray, List.getElem_cons_succ, List.getElem_cons_zero, Act.put, List.setIfInBounds_toArray, List.set_cons_zero, List.set_cons_succ]
          refine wpAnyH_ready (rs := [25]) (by kernel_rfl) (by simp) ?_
          refine AllReadyH.cons (o := _) rfl (fun K hK => ?_) AllReadyH.nil
          go_simp
          refine hK.out _ _ ?_ (fun hHeld => ?_)
          · exact HGu7.out
          clear hK K
          refine wpAnyH_done (by kernel_rfl) ?_ _
          refine NoPanic.normal ?_
          go_wp2_with fail
          go_ret
          exact ⟨rfl, HBu7.out⟩
end Go.Proofs.YtcdmapjojldpdaaDoor
