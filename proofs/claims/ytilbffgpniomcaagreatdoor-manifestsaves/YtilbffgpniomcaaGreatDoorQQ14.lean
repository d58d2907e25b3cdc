/- MFs, joined. -/
import Derived.Test.YtilbffgpniomcaaGreatDoorQQ13
/- manifest: Apply (written by mkmfs.py). -/
namespace Go.Proofs.YtilbffgpniomcaaGreatDoor
open Go.RowKit Go.Shelf

set_option maxRecDepth 100000 in
set_option maxHeartbeats 4000000 in
theorem apply13f_any (sv dv av : Value) (s : St) (x : Ed) (w : World) (hs : UR w sv s.ru) (hd : JR w dv x.dr) (ha : UR w av x.ad) (hal : x.ad.length ≤ 900) :
    Calls Tryz.prog 28 #[.agg #[sv, .int .i64 s.lo, .int .i64 s.ne, .int .i64 s.ma], .agg #[dv, av, .int .i64 x.lo, .int .i64 x.ne, .int .i64 x.ma]] w (ApF s x sv w) := by
  obtain ⟨sa, sc, rfl, _⟩ := hs.r.form
  obtain ⟨da, dc, rfl, _⟩ := hd.form
  obtain ⟨aa, ac, rfl, _⟩ := ha.r.form
  have HU : Hid (UR w (.slice sa s.ru.length sc) s.ru) := hs
  have HD : Hid (JR w (.slice da x.dr.length dc) x.dr) := hd
  have HA : Hid (UR w (.slice aa x.ad.length ac) x.ad) := ha
  have HAl : Hid (x.ad.length ≤ 900) := hal
  obtain ⟨SL, HSL⟩ : ∃ n, Hid (s.ru.length = n) := ⟨_, rfl⟩
  obtain ⟨DL, HDL⟩ : ∃ n, Hid (x.dr.length = n) := ⟨_, rfl⟩
  obtain ⟨AL, HAL⟩ : ∃ n, Hid (x.ad.length = n) := ⟨_, rfl⟩
  rw [HSL.out, HDL.out, HAL.out]
  rw [HSL.out] at HU
  rw [HDL.out] at HD
  rw [HAL.out] at HA HAl
  clear hs hd ha hal
  obtain ⟨ru, lo, ne, ma⟩ := s
  obtain ⟨dr, ad, xlo, xne, xma⟩ := x
  simp only at *
  obtain ⟨W0, HW0⟩ := hid_ex (((w.alloc (.cells #[.slice sa SL sc, .int .i64 lo, .int .i64 ne, .int .i64 ma] 33)).alloc (.cells #[.slice da DL dc, .slice aa AL ac, .int .i64 xlo, .int .i64 xne, .int .i64 xma] 52)).alloc (.cells #[.slice none 0 0, .int .i64 0, .int .i64 0, .int .i64 0] 33))
  have HB0 : Hid (Below w.heap.size w W0) := by rw [HW0.out]; exact (((Below.refl _ _).alloc (Nat.le_refl _) _).alloc (by simp) _).alloc (by simp; omega) _
  have hz0 : W0.heap.size = w.heap.size + 3 := by rw [HW0.out]; simp
  have HZ0s : Hid (W0.heap.size = w.heap.size + 3) := hz0
  have HS0 : Hid (W0.heap[w.heap.size]? = some (.cells #[.slice sa SL sc, .int .i64 lo, .int .i64 ne, .int .i64 ma] 33)) := by
    unfold Hid; rw [HW0.out]; exact (Below.heap_alloc _ _ _ (by simp; omega)).trans ((Below.heap_alloc _ _ _ (by simp)).trans (heap_alloc_new _ _))
  have HX0 : Hid (W0.heap[w.heap.size + 1]? = some (.cells #[.slice da DL dc, .slice aa AL ac, .int .i64 xlo, .int .i64 xne, .int .i64 xma] 52)) := by
    unfold Hid; rw [HW0.out]
    have e := heap_alloc_new (w.alloc (.cells #[.slice sa SL sc, .int .i64 lo, .int .i64 ne, .int .i64 ma] 33)) (.cells #[.slice da DL dc, .slice aa AL ac, .int .i64 xlo, .int .i64 xne, .int .i64 xma] 52)
    rw [World.size_alloc] at e
    exact (Below.heap_alloc _ _ _ (by simp)).trans e
  have HZ0 : Hid (W0.heap[w.heap.size + 2]? = some (.cells #[.slice none 0 0, .int .i64 0, .int .i64 0, .int .i64 0] 33)) := by
    unfold Hid; rw [HW0.out]
    have e := heap_alloc_new ((w.alloc (.cells #[.slice sa SL sc, .int .i64 lo, .int .i64 ne, .int .i64 ma] 33)).alloc (.cells #[.slice da DL dc, .slice aa AL ac, .int .i64 xlo, .int .i64 xne, .int .i64 xma] 52)) (.cells #[.slice none 0 0, .int .i64 0, .int .i64 0, .int .i64 0] 33)
    rw [World.size_alloc, World.size_alloc] at e
    exact e
  obtain ⟨c0, c1, c2, c3⟩ := four13 HS0.out
  rw [HW0.out] at c0 c1 c2 c3
  have HC : Hid (Calls Tryz.prog 25 #[.agg #[.slice sa SL sc, .int .i64 lo, .int .i64 ne, .int .i64 ma]] W0 fun e w' => e = .returned (.bool (decide (okSt ⟨ru, lo, ne, ma⟩))) ∧ Below W0.heap.size W0 w') := right13_any _ ⟨ru, lo, ne, ma⟩ W0 (HU.out.below HB0.out)
  rw [HW0.out] at HC
  go_enter Tryz.func28, Tryz.ntmps28
  go_wp2_with fail
  refine HC.out.mono ?_
  rw [← HW0.out]
  clear HC c0 c1 c2 c3 HW0
  rintro e W1 ⟨rfl, hb1⟩
  have HB1 : Hid (Below w.heap.size w W1) := HB0.out.trans (hb1.mono HB0.out.size)
  have hz1 : w.heap.size + 3 ≤ W1.heap.size := by have := hb1.size; omega
  have HS1 : Hid (W1.heap[w.heap.size]? = some (.cells #[.slice sa SL sc, .int .i64 lo, .int .i64 ne, .int .i64 ma] 33)) := (hb1.block _ (by omega)).trans HS0.out
  have HX1 : Hid (W1.heap[w.heap.size + 1]? = some (.cells #[.slice da DL dc, .slice aa AL ac, .int .i64 xlo, .int .i64 xne, .int .i64 xma] 52)) := (hb1.block _ (by omega)).trans HX0.out
  have HZ1 : Hid (W1.heap[w.heap.size + 2]? = some (.cells #[.slice none 0 0, .int .i64 0, .int .i64 0, .int .i64 0] 33)) := (hb1.block _ (by omega)).trans HZ0.out
  clear hb1 hz0
  by_cases hok : okSt ⟨ru, lo, ne, ma⟩
  · have HOk : Hid (okSt ⟨ru, lo, ne, ma⟩) := hok
    rw [show decide (okSt ⟨ru, lo, ne, ma⟩) = true from decide_eq_true hok]
    clear hok
    obtain ⟨c0, c1, c2, c3⟩ := four13 HS1.out
    obtain ⟨d0, d1, d2, d3, d4⟩ := five HX1.out
    go_wp2_with fail
    refine (without_any _ _ ru dr W1 (HU.out.below HB1.out).r (HD.out.below HB1.out) (unl_of HOk.out.2.2.2.2.2.2.2) (Nat.le_trans HOk.out.2.2.2.2.2.1 (by decide))).mono ?_
    rintro e W2 hwo
    cases hdr : dropF ru dr with
    | none =>
      rw [hdr] at hwo
      obtain ⟨rfl, hb2⟩ := hwo
      have HB2 : Hid (Below w.heap.size w W2) := HB1.out.trans (hb2.mono HB1.out.size)
      have hz2 : w.heap.size + 3 ≤ W2.heap.size := by have := hb2.size; omega
      have HAP : Hid (apS ⟨ru, lo, ne, ma⟩ ⟨dr, ad, xlo, xne, xma⟩ = (none, 100)) := apS_drop HOk.out hdr
      have HS2 : Hid (W2.heap[w.heap.size]? = some (.cells #[.slice sa SL sc, .int .i64 lo, .int .i64 ne, .int .i64 ma] 33)) := (hb2.block _ (by omega)).trans HS1.out
      have HX2 : Hid (W2.heap[w.heap.size + 1]? = some (.cells #[.slice da DL dc, .slice aa AL ac, .int .i64 xlo, .int .i64 xne, .int .i64 xma] 52)) := (hb2.block _ (by omega)).trans HX1.out
      have HZ2 : Hid (W2.heap[w.heap.size + 2]? = some (.cells #[.slice none 0 0, .int .i64 0, .int .i64 0, .int .i64 0] 33)) := (hb2.block _ (by omega)).trans HZ1.out
      clear hb2 c0 c1 c2 c3 d0 d1 d2 d3 d4 hdr
      go_wp2_with (refine stop_store 33 _ _ rfl ?_)
      refine Stop.of ?_
      refine wpList_storeN rfl _ _ _ rfl (w.heap.size + 2) 0 [.slice none 0 0, .int .i64 0, .int .i64 0, .int .i64 0] rfl rfl _ _ HZ2.out (by simp) (by kernel_rfl) (by kernel_rfl) ?_
      intro W9 hW9
      have HK9 := stW_all hW9 (by simp)
      have HB9 : Hid (Below w.heap.size w W9) := HB2.out.trans (hW9.b _ (by omega))
      clear hW9
      go_wp2_with fail
      refine bodyPost_ret (results_c13 rfl _ _ (w.heap.size + 2) _ rfl (run_loadVar_row _ (w.heap.size + 2) _ _ _ (0, 0) _ HK9 Tryz.underlying33 rfl (by kernel_rfl))) rfl ?_
      exact ApF.err HAP.out HB9.out
    | some l =>
      rw [hdr] at hwo
      obtain ⟨v2, rfl, ho2, hb2⟩ := hwo
      have HB2 : Hid (Below w.heap.size w W2) := HB1.out.trans (hb2.mono HB1.out.size)
      have hz2 : w.heap.size + 3 ≤ W2.heap.size := by have := hb2.size; omega
      have HO2 : Hid (UOwn W2 W1.heap.size v2 l) := ho2
      have HDr : Hid (dropF ru dr = some l) := hdr
      have HLl : Hid (l.length ≤ 64) := by have h1 := dropF_len hdr; have h2 := HOk.out.2.2.2.2.2.1; show l.length ≤ 64; simp only at h2; omega
      have HB12 : Hid (W1.heap.size ≤ W2.heap.size) := hb2.size
      have HS2 : Hid (W2.heap[w.heap.size]? = some (.cells #[.slice sa SL sc, .int .i64 lo, .int .i64 ne, .int .i64 ma] 33)) := (hb2.block _ (by omega)).trans HS1.out
      have HX2 : Hid (W2.heap[w.heap.size + 1]? = some (.cells #[.slice da DL dc, .slice aa AL ac, .int .i64 xlo, .int .i64 xne, .int .i64 xma] 52)) := (hb2.block _ (by omega)).trans HX1.out
      have HZ2 : Hid (W2.heap[w.heap.size + 2]? = some (.cells #[.slice none 0 0, .int .i64 0, .int .i64 0, .int .i64 0] 33)) := (hb2.block _ (by omega)).trans HZ1.out
      clear hb2 c0 c1 c2 c3 d0 d1 d2 d3 d4 hdr ho2
      obtain ⟨c0, c1, c2, c3⟩ := four13 HS2.out
      obtain ⟨d0, d1, d2, d3, d4⟩ := five HX2.out
      obtain ⟨va, vc, hv2, _⟩ := (gown_ur HO2.out.gown).r.form
      obtain ⟨VL, HVL⟩ : ∃ n, Hid (l.length = n) := ⟨_, rfl⟩
      rw [HVL.out] at hv2
      subst hv2
      by_cases hlo : xlo < lo
      · have HAP : Hid (apS ⟨ru, lo, ne, ma⟩ ⟨dr, ad, xlo, xne, xma⟩ = (none, 100)) := apS_back HOk.out HDr.out (.inl hlo)
        go_wp2_with (refine stop_store 33 _ _ rfl ?_)
        refine Stop.of ?_
        refine wpList_storeN rfl _ _ _ rfl (w.heap.size + 2) 0 [.slice none 0 0, .int .i64 0, .int .i64 0, .int .i64 0] rfl rfl _ _ HZ2.out (by simp) (by kernel_rfl) (by kernel_rfl) ?_
        intro W9 hW9
        have HK9 := stW_all hW9 (by simp)
        have HB9 : Hid (Below w.heap.size w W9) := HB2.out.trans (hW9.b _ (by omega))
        clear hW9
        go_wp2_with fail
        refine bodyPost_ret (results_c13 rfl _ _ (w.heap.size + 2) _ rfl (run_loadVar_row _ (w.heap.size + 2) _ _ _ (0, 0) _ HK9 Tryz.underlying33 rfl (by kernel_rfl))) rfl ?_
        exact ApF.err HAP.out HB9.out
      · by_cases hne : xne < ne
        · have HAP : Hid (apS ⟨ru, lo, ne, ma⟩ ⟨dr, ad, xlo, xne, xma⟩ = (none, 100)) := apS_back HOk.out HDr.out (.inr (.inl hne))
          go_wp2_with (refine stop_store 33 _ _ rfl ?_)
          refine Stop.of ?_
          refine wpList_storeN rfl _ _ _ rfl (w.heap.size + 2) 0 [.slice none 0 0, .int .i64 0, .int .i64 0, .int .i64 0] rfl rfl _ _ HZ2.out (by simp) (by kernel_rfl) (by kernel_rfl) ?_
          intro W9 hW9
          have HK9 := stW_all hW9 (by simp)
          have HB9 : Hid (Below w.heap.size w W9) := HB2.out.trans (hW9.b _ (by omega))
          clear hW9
          go_wp2_with fail
          refine bodyPost_ret (results_c13 rfl _ _ (w.heap.size + 2) _ rfl (run_loadVar_row _ (w.heap.size + 2) _ _ _ (0, 0) _ HK9 Tryz.underlying33 rfl (by kernel_rfl))) rfl ?_
          exact ApF.err HAP.out HB9.out
        · by_cases hma : xma < ma
          · have HAP : Hid (apS ⟨ru, lo, ne, ma⟩ ⟨dr, ad, xlo, xne, xma⟩ = (none, 100)) := apS_back HOk.out HDr.out (.inr (.inr hma))
            go_wp2_with (refine stop_store 33 _ _ rfl ?_)
            refine Stop.of ?_
            refine wpList_storeN rfl _ _ _ rfl (w.heap.size + 2) 0 [.slice none 0 0, .int .i64 0, .int .i64 0, .int .i64 0] rfl rfl _ _ HZ2.out (by simp) (by kernel_rfl) (by kernel_rfl) ?_
            intro W9 hW9
            have HK9 := stW_all hW9 (by simp)
            have HB9 : Hid (Below w.heap.size w W9) := HB2.out.trans (hW9.b _ (by omega))
            clear hW9
            go_wp2_with fail
            refine bodyPost_ret (results_c13 rfl _ _ (w.heap.size + 2) _ rfl (run_loadVar_row _ (w.heap.size + 2) _ _ _ (0, 0) _ HK9 Tryz.underlying33 rfl (by kernel_rfl))) rfl ?_
            exact ApF.err HAP.out HB9.out
          · obtain ⟨v3, W3, hrun, hu3, hk3, hb3⟩ := run_add13 HO2.out (HA.out.below HB2.out) (Nat.le_trans HLl.out (by decide)) (by rw [HAL.out]; exact Nat.le_trans HAl.out (by decide)) HB12.out
            have HU3 : Hid (UG0 W3 v3 (l ++ ad)) := hu3
            have HK3 : Hid (∀ k, v3.ownBlock = some k → W1.heap.size ≤ k) := hk3
            have HB23 : Hid (Below W1.heap.size W2 W3) := hb3
            have HB3 : Hid (Below w.heap.size w W3) := HB2.out.trans (hb3.mono (by omega))
            have hz3 : w.heap.size + 3 ≤ W3.heap.size := by have := hb3.size; omega
            have HNb : Hid (¬ (xlo < lo ∨ xne < ne ∨ xma < ma)) := by unfold Hid; omega
            have HS3 : Hid (W3.heap[w.heap.size]? = some (.cells #[.slice sa SL sc, .int .i64 lo, .int .i64 ne, .int .i64 ma] 33)) := (hb3.block _ (by omega)).trans HS2.out
            have HX3 : Hid (W3.heap[w.heap.size + 1]? = some (.cells #[.slice da DL dc, .slice aa AL ac, .int .i64 xlo, .int .i64 xne, .int .i64 xma] 52)) := (hb3.block _ (by omega)).trans HX2.out
            have HZ3 : Hid (W3.heap[w.heap.size + 2]? = some (.cells #[.slice none 0 0, .int .i64 0, .int .i64 0, .int .i64 0] 33)) := (hb3.block _ (by omega)).trans HZ2.out
            obtain ⟨va3, vc3, hv3, _⟩ := (gown_ur hu3).r.form
            obtain ⟨M3, HM3⟩ : ∃ n, Hid ((l ++ ad).length = n) := ⟨_, rfl⟩
            rw [HM3.out] at hv3
            subst hv3
            clear hu3 hk3 hb3
            go_wp2_with (at_builtin; refine wpList_app_runG rfl _ _ 31 31 rfl rfl _ _ _ rfl rfl hrun ?_; clear hrun c0 c1 c2 c3 d0 d1 d2 d3 d4)
            refine (sort13_any _ (l ++ ad) W1.heap.size W3 HU3.out HK3.out (by have := HB12.out; have := HB23.out.size; omega) (by have h1 := HLl.out; have h2 := HAl.out; have h3 := HAL.out; rw [List.length_append]; omega)).mono ?_
            rintro e W4 ⟨rfl, r, hp4, hk4, hu4, hb4⟩
            have HU4 : Hid (UG0 W4 (.slice va3 M3 vc3) r) := hu4
            have HAP : Hid (apS ⟨ru, lo, ne, ma⟩ ⟨dr, ad, xlo, xne, xma⟩ = if okSt ⟨r, xlo, xne, xma⟩ then (some ⟨r, xlo, xne, xma⟩, 0) else (none, 100)) := apS_sorted HOk.out HDr.out HNb.out hk4 hp4
            have HB4 : Hid (Below w.heap.size w W4) := HB3.out.trans (hb4.mono (by omega))
            have hz4 : w.heap.size + 3 ≤ W4.heap.size := by have := hb4.size; omega
            have HS4 : Hid (W4.heap[w.heap.size]? = some (.cells #[.slice sa SL sc, .int .i64 lo, .int .i64 ne, .int .i64 ma] 33)) := (hb4.block _ (by omega)).trans HS3.out
            have HX4 : Hid (W4.heap[w.heap.size + 1]? = some (.cells #[.slice da DL dc, .slice aa AL ac, .int .i64 xlo, .int .i64 xne, .int .i64 xma] 52)) := (hb4.block _ (by omega)).trans HX3.out
            have HZ4 : Hid (W4.heap[w.heap.size + 2]? = some (.cells #[.slice none 0 0, .int .i64 0, .int .i64 0, .int .i64 0] 33)) := (hb4.block _ (by omega)).trans HZ3.out
            clear hp4 hk4 hu4 hb4
            obtain ⟨d0, d1, d2, d3, d4⟩ := five HX4.out
            have HOne : Hid (([.slice va3 M3 vc3, .int .i64 xlo, .int .i64 xne, .int .i64 xma] : List Value).toArray.all (·.oneCell') = true) := by unfold Hid; kernel_rfl
            go_wp2_with (refine stop_store 33 _ _ rfl ?_)
            refine Stop.of ?_
            refine wpList_storeN rfl _ _ _ rfl W4.heap.size 0 [.slice va3 M3 vc3, .int .i64 xlo, .int .i64 xne, .int .i64 xma] rfl rfl _ _ (heap_alloc_new _ _) (by simp) (by kernel_rfl) HOne.out ?_
            intro W5 hW5
            obtain ⟨hb5, hx5, hl5⟩ := stW_nw hW5 (by simp)
            have HB5 : Hid (Below w.heap.size w W5) := HB4.out.trans (hb5.mono HB4.out.size)
            have HY5 : Hid (W5.heap[W4.heap.size]? = some (.cells #[.slice va3 M3 vc3, .int .i64 xlo, .int .i64 xne, .int .i64 xma] 33)) := hx5
            have HZ5 : Hid (W5.heap[w.heap.size + 2]? = some (.cells #[.slice none 0 0, .int .i64 0, .int .i64 0, .int .i64 0] 33)) := (hb5.block _ (by omega)).trans HZ4.out
            have HU5 : Hid (UR W5 (.slice va3 M3 vc3) r) := (gown_ur HU4.out).below hb5
            have HB45 : Hid (Below W4.heap.size W4 W5) := hb5
            clear hW5 hb5 hx5 d0 d1 d2 d3 d4
            obtain ⟨e0, e1, e2, e3⟩ := four13 HY5.out
            go_wp2_with fail
            refine (right13_any _ ⟨r, xlo, xne, xma⟩ W5 HU5.out).mono ?_
            rintro e W6 ⟨rfl, hb6⟩
            have HB6 : Hid (Below w.heap.size w W6) := HB5.out.trans (hb6.mono HB5.out.size)
            have HY6 : Hid (W6.heap[W4.heap.size]? = some (.cells #[.slice va3 M3 vc3, .int .i64 xlo, .int .i64 xne, .int .i64 xma] 33)) := (hb6.block _ hl5).trans HY5.out
            have HZ6 : Hid (W6.heap[w.heap.size + 2]? = some (.cells #[.slice none 0 0, .int .i64 0, .int .i64 0, .int .i64 0] 33)) := (hb6.block _ (by omega)).trans HZ5.out
            have HU6 : Hid (UG0 W6 (.slice va3 M3 vc3) r) := by
              refine GOwn.keep HU4.out fun k q => ?_
              obtain ⟨cur, hc⟩ := GOwn.block HU4.out q
              have hk := (Array.getElem?_eq_some_iff.1 hc).1
              rw [hb6.block k (by omega)]
              exact HB45.out.block k hk
            clear hb6 e0 e1 e2 e3
            obtain ⟨e0, e1, e2, e3⟩ := four13 HY6.out
            by_cases hok : okSt ⟨r, xlo, xne, xma⟩
            · rw [show decide (okSt ⟨r, xlo, xne, xma⟩) = true from decide_eq_true hok]
              rw [if_pos hok] at HAP
              clear hok
              go_wp2_with (refine stop_store 33 _ _ rfl ?_)
              refine Stop.of ?_
              refine wpList_storeN rfl _ _ _ rfl (w.heap.size + 2) 0 [.slice va3 M3 vc3, .int .i64 xlo, .int .i64 xne, .int .i64 xma] rfl rfl _ _ HZ6.out (by simp) (by kernel_rfl) HOne.out ?_
              intro W9 hW9
              have HK9 := stW_all hW9 (by simp)
              have HB9 : Hid (Below w.heap.size w W9) := HB6.out.trans (hW9.b _ (by omega))
              have HO9 : Hid (∀ k, k ≠ w.heap.size + 2 → W9.heap[k]? = W6.heap[k]?) := hW9.o
              clear hW9
              go_wp2_with fail
              refine bodyPost_ret (results_c13 rfl _ _ (w.heap.size + 2) _ rfl (run_loadVar_row _ (w.heap.size + 2) _ _ _ (0, 0) _ HK9 Tryz.underlying33 rfl (by kernel_rfl))) rfl ?_
              exact ApF.ok HAP.out (gown_ur (GOwn.keep HU6.out fun k q => HO9.out k (by have := HK3.out k q; omega))) HB9.out (fun Q hQ _ _ b off n c e => by have := HK3.out b (by rw [e]; rfl); omega)
            · rw [show decide (okSt ⟨r, xlo, xne, xma⟩) = false from decide_eq_false hok]
              rw [if_neg hok] at HAP
              clear hok
              go_wp2_with (refine stop_store 33 _ _ rfl ?_)
              refine Stop.of ?_
              refine wpList_storeN rfl _ _ _ rfl (w.heap.size + 2) 0 [.slice none 0 0, .int .i64 0, .int .i64 0, .int .i64 0] rfl rfl _ _ HZ6.out (by simp) (by kernel_rfl) (by kernel_rfl) ?_
              intro W9 hW9
              have HK9 := stW_all hW9 (by simp)
              have HB9 : Hid (Below w.heap.size w W9) := HB6.out.trans (hW9.b _ (by omega))
              clear hW9
              go_wp2_with fail
              refine bodyPost_ret (results_c13 rfl _ _ (w.heap.size + 2) _ rfl (run_loadVar_row _ (w.heap.size + 2) _ _ _ (0, 0) _ HK9 Tryz.underlying33 rfl (by kernel_rfl))) rfl ?_
              exact ApF.err HAP.out HB9.out
  · have HAP : Hid (apS ⟨ru, lo, ne, ma⟩ ⟨dr, ad, xlo, xne, xma⟩ = (none, 1)) := apS_no hok
    rw [show decide (okSt ⟨ru, lo, ne, ma⟩) = false from decide_eq_false hok]
    clear hok
    go_wp2_with (refine stop_store 33 _ _ rfl ?_)
    refine Stop.of ?_
    refine wpList_storeN rfl _ _ _ rfl (w.heap.size + 2) 0 [.slice none 0 0, .int .i64 0, .int .i64 0, .int .i64 0] rfl rfl _ _ HZ1.out (by simp) (by kernel_rfl) (by kernel_rfl) ?_
    intro W9 hW9
    have HK9 := stW_all hW9 (by simp)
    have HB9 : Hid (Below w.heap.size w W9) := HB1.out.trans (hW9.b _ (by omega))
    clear hW9
    go_wp2_with fail
    refine bodyPost_ret (results_c13 rfl _ _ (w.heap.size + 2) _ rfl (run_loadVar_row _ (w.heap.size + 2) _ _ _ (0, 0) _ HK9 Tryz.underlying33 rfl (by kernel_rfl))) rfl ?_
    exact ApF.err HAP.out HB9.out
theorem apply13_any (sv dv av : Value) (s : St) (x : Ed) (w : World) (hs : UR w sv s.ru) (hd : JR w dv x.dr) (ha : UR w av x.ad) (hal : x.ad.length ≤ 900) :
    Calls Tryz.prog 28 #[.agg #[sv, .int .i64 s.lo, .int .i64 s.ne, .int .i64 s.ma], .agg #[dv, av, .int .i64 x.lo, .int .i64 x.ne, .int .i64 x.ma]] w (ApP s x w) := (apply13f_any sv dv av s x w hs hd ha hal).mono fun _ _ h => h.p
end Go.Proofs.YtilbffgpniomcaaGreatDoor
