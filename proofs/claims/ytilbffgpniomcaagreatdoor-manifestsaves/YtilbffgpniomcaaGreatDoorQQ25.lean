/- MA6x, joined. -/
import Derived.Test.YtilbffgpniomcaaGreatDoorQQ18
/- The reference of layer 13: Apply (written by mkma6.py). -/
namespace Go.Proofs.YtilbffgpniomcaaGreatDoor
open Go.RowKit Go.Shelf

theorem putAll_len : ∀ (a l : List Ru), (a.foldl (fun l r => putR r l) l).length = l.length + a.length := fun a l => by
  have := (putAll_perm a l).length_eq; rw [List.length_append] at this; exact this
theorem putAll_snoc {a : List Ru} {j : Nat} (hj : j < a.length) {r : Ru} (hr : r = a[j]) (l : List Ru) : (a.take (j + 1)).foldl (fun l r => putR r l) l = putR r ((a.take j).foldl (fun l r => putR r l) l) := by
  rw [snocU hj hr, List.foldl_append]; rfl
set_option maxRecDepth 100000 in
set_option maxHeartbeats 8000000 in
theorem refApplyF_any (sv dv av : Value) (s : St) (x : Ed) (w : World) (hs : UR w sv s.ru) (hd : JR w dv x.dr) (ha : RuR w av x.ad) (hsl : s.ru.length ≤ 900) (hal : x.ad.length ≤ 900) :
    Calls Tryz.prog 20 #[.agg #[sv, .int .i64 s.lo, .int .i64 s.ne, .int .i64 s.ma], .agg #[dv, av, .int .i64 x.lo, .int .i64 x.ne, .int .i64 x.ma]] w (ApF s x sv w) := by
  obtain ⟨sa, sc, rfl, _⟩ := hs.r.form
  obtain ⟨da, dc, rfl, hm1⟩ := hd.form
  obtain ⟨aa, ac, rfl, hm2⟩ := ha.form
  unfold maxLen at hm1 hm2
  have HU : Hid (UR w (.slice sa s.ru.length sc) s.ru) := hs
  have HD : Hid (JR w (.slice da x.dr.length dc) x.dr) := hd
  have HA : Hid (RuR w (.slice aa x.ad.length ac) x.ad) := ha
  have HAl : Hid (x.ad.length ≤ 900) := hal
  have HSl : Hid (s.ru.length ≤ 900) := hsl
  obtain ⟨SL, HSL⟩ : ∃ n, Hid (s.ru.length = n) := ⟨_, rfl⟩
  obtain ⟨DL, HDL⟩ : ∃ n, Hid (x.dr.length = n) := ⟨_, rfl⟩
  obtain ⟨AL, HAL⟩ : ∃ n, Hid (x.ad.length = n) := ⟨_, rfl⟩
  rw [HSL.out, HDL.out, HAL.out]
  rw [HSL.out] at HU HSl
  rw [HDL.out] at HD hm1
  rw [HAL.out] at HA HAl hm2
  clear hs hd ha hal hsl
  obtain ⟨ru, lo, ne, ma⟩ := s
  obtain ⟨dr, ad, xlo, xne, xma⟩ := x
  simp only at *
  obtain ⟨W0, HW0⟩ := hid_ex (((w.alloc (.cells #[.slice sa SL sc, .int .i64 lo, .int .i64 ne, .int .i64 ma] 38)).alloc (.cells #[.slice da DL dc, .slice aa AL ac, .int .i64 xlo, .int .i64 xne, .int .i64 xma] 56)).alloc (.cells #[.slice none 0 0, .int .i64 0, .int .i64 0, .int .i64 0] 38))
  have HB0 : Hid (Below w.heap.size w W0) := by rw [HW0.out]; exact (((Below.refl _ _).alloc (Nat.le_refl _) _).alloc (by simp) _).alloc (by simp; omega) _
  have hz0 : W0.heap.size = w.heap.size + 3 := by rw [HW0.out]; simp
  have HS0 : Hid (W0.heap[w.heap.size]? = some (.cells #[.slice sa SL sc, .int .i64 lo, .int .i64 ne, .int .i64 ma] 38)) := by
    unfold Hid; rw [HW0.out]; exact (Below.heap_alloc _ _ _ (by simp; omega)).trans ((Below.heap_alloc _ _ _ (by simp)).trans (heap_alloc_new _ _))
  have HX0 : Hid (W0.heap[w.heap.size + 1]? = some (.cells #[.slice da DL dc, .slice aa AL ac, .int .i64 xlo, .int .i64 xne, .int .i64 xma] 56)) := by
    unfold Hid; rw [HW0.out]
    have e := heap_alloc_new (w.alloc (.cells #[.slice sa SL sc, .int .i64 lo, .int .i64 ne, .int .i64 ma] 38)) (.cells #[.slice da DL dc, .slice aa AL ac, .int .i64 xlo, .int .i64 xne, .int .i64 xma] 56)
    rw [World.size_alloc] at e
    exact (Below.heap_alloc _ _ _ (by simp)).trans e
  have HZ0 : Hid (W0.heap[w.heap.size + 2]? = some (.cells #[.slice none 0 0, .int .i64 0, .int .i64 0, .int .i64 0] 38)) := by
    unfold Hid; rw [HW0.out]
    have e := heap_alloc_new ((w.alloc (.cells #[.slice sa SL sc, .int .i64 lo, .int .i64 ne, .int .i64 ma] 38)).alloc (.cells #[.slice da DL dc, .slice aa AL ac, .int .i64 xlo, .int .i64 xne, .int .i64 xma] 56)) (.cells #[.slice none 0 0, .int .i64 0, .int .i64 0, .int .i64 0] 38)
    rw [World.size_alloc, World.size_alloc] at e
    exact e
  obtain ⟨c0, c1, c2, c3⟩ := four13 HS0.out
  rw [HW0.out] at c0 c1 c2 c3
  have HC : Hid (Calls Tryz.prog 18 #[.agg #[.slice sa SL sc, .int .i64 lo, .int .i64 ne, .int .i64 ma]] W0 fun e w' => e = .returned (.bool (decide (okSt ⟨ru, lo, ne, ma⟩))) ∧ Below W0.heap.size W0 w') := refRight13_any _ ⟨ru, lo, ne, ma⟩ W0 (HU.out.below HB0.out).r
  rw [HW0.out] at HC
  go_enter Tryz.func20, Tryz.ntmps20
  go_wp2_with fail
  refine HC.out.mono ?_
  rw [← HW0.out]
  clear HC c0 c1 c2 c3 HW0
  rintro e W1 ⟨rfl, hb1⟩
  have HB1 : Hid (Below w.heap.size w W1) := HB0.out.trans (hb1.mono HB0.out.size)
  have hz1 : w.heap.size + 3 ≤ W1.heap.size := by have := hb1.size; omega
  have HS1 : Hid (W1.heap[w.heap.size]? = some (.cells #[.slice sa SL sc, .int .i64 lo, .int .i64 ne, .int .i64 ma] 38)) := (hb1.block _ (by omega)).trans HS0.out
  have HX1 : Hid (W1.heap[w.heap.size + 1]? = some (.cells #[.slice da DL dc, .slice aa AL ac, .int .i64 xlo, .int .i64 xne, .int .i64 xma] 56)) := (hb1.block _ (by omega)).trans HX0.out
  have HZ1 : Hid (W1.heap[w.heap.size + 2]? = some (.cells #[.slice none 0 0, .int .i64 0, .int .i64 0, .int .i64 0] 38)) := (hb1.block _ (by omega)).trans HZ0.out
  clear hb1 hz0
  by_cases hok : okSt ⟨ru, lo, ne, ma⟩
  · have HOk : Hid (okSt ⟨ru, lo, ne, ma⟩) := hok
    rw [show decide (okSt ⟨ru, lo, ne, ma⟩) = true from decide_eq_true hok]
    clear hok
    obtain ⟨c0, c1, c2, c3⟩ := four13 HS1.out
    obtain ⟨d0, d1, d2, d3, d4⟩ := five HX1.out
    by_cases hdl : 64 < DL
    · have hdl' : (64 : Int) < (DL : Int) := by omega
      have HAP : Hid (apS ⟨ru, lo, ne, ma⟩ ⟨dr, ad, xlo, xne, xma⟩ = (none, 100)) := apS_long HOk.out (.inl (by show 64 < dr.length; rw [HDL.out]; exact hdl))
      go_wp2_with (refine stop_store 38 _ _ rfl ?_)
      refine Stop.of ?_
      refine wpList_storeN rfl _ _ _ rfl (w.heap.size + 2) 0 [.slice none 0 0, .int .i64 0, .int .i64 0, .int .i64 0] rfl rfl _ _ HZ1.out (by simp) (by kernel_rfl) (by kernel_rfl) ?_
      intro W9 hW9
      have HK9 := stW_all hW9 (by simp)
      have HB9 : Hid (Below w.heap.size w W9) := HB1.out.trans (hW9.b _ (by omega))
      clear hW9
      go_wp2_with fail
      refine bodyPost_ret (results_c13 rfl _ _ (w.heap.size + 2) _ rfl (run_loadVar_row _ (w.heap.size + 2) _ _ _ (0, 0) _ HK9 Tryz.underlying38 rfl (by kernel_rfl))) rfl ?_
      exact ApF.err HAP.out HB9.out
    · have hdl' : ¬ (64 : Int) < (DL : Int) := by omega
      by_cases hal : 64 < AL
      · have hal' : (64 : Int) < (AL : Int) := by omega
        have HAP : Hid (apS ⟨ru, lo, ne, ma⟩ ⟨dr, ad, xlo, xne, xma⟩ = (none, 100)) := apS_long HOk.out (.inr (by show 64 < ad.length; rw [HAL.out]; exact hal))
        go_wp2_with (refine stop_store 38 _ _ rfl ?_)
        refine Stop.of ?_
        refine wpList_storeN rfl _ _ _ rfl (w.heap.size + 2) 0 [.slice none 0 0, .int .i64 0, .int .i64 0, .int .i64 0] rfl rfl _ _ HZ1.out (by simp) (by kernel_rfl) (by kernel_rfl) ?_
        intro W9 hW9
        have HK9 := stW_all hW9 (by simp)
        have HB9 : Hid (Below w.heap.size w W9) := HB1.out.trans (hW9.b _ (by omega))
        clear hW9
        go_wp2_with fail
        refine bodyPost_ret (results_c13 rfl _ _ (w.heap.size + 2) _ rfl (run_loadVar_row _ (w.heap.size + 2) _ _ _ (0, 0) _ HK9 Tryz.underlying38 rfl (by kernel_rfl))) rfl ?_
        exact ApF.err HAP.out HB9.out
      · have hal' : ¬ (64 : Int) < (AL : Int) := by omega
        have HOne : Hid (([.slice sa SL sc, .int .i64 xlo, .int .i64 xne, .int .i64 xma] : List Value).toArray.all (·.oneCell') = true) := by unfold Hid; kernel_rfl
        go_wp2_with (refine stop_store 38 _ _ rfl ?_)
        refine Stop.of ?_
        refine wpList_storeN rfl _ _ _ rfl W1.heap.size 0 [.slice sa SL sc, .int .i64 xlo, .int .i64 xne, .int .i64 xma] rfl rfl _ _ (heap_alloc_new _ _) (by simp) (by kernel_rfl) HOne.out ?_
        intro W2 hW2
        obtain ⟨hb2, hx2, hl2⟩ := stW_nw hW2 (by simp)
        have HB2 : Hid (Below w.heap.size w W2) := HB1.out.trans (hb2.mono HB1.out.size)
        have HO2 : Hid (W2.heap[W1.heap.size]? = some (.cells #[.slice sa SL sc, .int .i64 xlo, .int .i64 xne, .int .i64 xma] 38)) := hx2
        have HS2 : Hid (W2.heap[w.heap.size]? = some (.cells #[.slice sa SL sc, .int .i64 lo, .int .i64 ne, .int .i64 ma] 38)) := (hb2.block _ (by omega)).trans HS1.out
        have HX2 : Hid (W2.heap[w.heap.size + 1]? = some (.cells #[.slice da DL dc, .slice aa AL ac, .int .i64 xlo, .int .i64 xne, .int .i64 xma] 56)) := (hb2.block _ (by omega)).trans HX1.out
        have HZ2 : Hid (W2.heap[w.heap.size + 2]? = some (.cells #[.slice none 0 0, .int .i64 0, .int .i64 0, .int .i64 0] 38)) := (hb2.block _ (by omega)).trans HZ1.out
        have HN2 : Hid (notP W1.heap.size (.slice sa SL sc) ru ∧ notP (w.heap.size + 2) (.slice sa SL sc) ru ∧ ∀ Q, Q < w.heap.size → notP Q (.slice sa SL sc) ru → notP Q (.slice sa SL sc) ru) := ⟨notP_low HU.out.r (by omega), notP_low HU.out.r (by omega), fun _ _ h => h⟩
        clear hW2 hb2 hx2 c0 c1 c2 c3 d0 d1 d2 d3 d4
        obtain ⟨P, HPe⟩ := hid_ex W1.heap.size
        rw [← HPe.out] at HO2 HN2 hz1 hl2
        have hfr : ∃ P', Hid (P' = P) := ⟨P, rfl⟩
        clear hfr
        have HU2 : Hid (UR W2 (.slice sa SL sc) ru) := HU.out.below HB2.out
        have HSL2 : Hid (ru.length = SL) := HSL.out
        have hSL : SL ≤ 900 := HSl.out
        go_wp2_with fail
        rw [← HPe.out]
        clear HPe HB1 HS1 HX1 HZ1
        go_loopw [7] (fun iv wr => ∃ (j VL vc : Nat) (va : Option Addr) (L' : List Ru), iv = .int .i64 (j : Int) ∧ j ≤ DL ∧ VL ≤ 900 ∧ Hid (L'.length = VL) ∧ Hid (UR wr (.slice va VL vc) L') ∧ Hid (notP P (.slice va VL vc) L' ∧ notP (w.heap.size + 2) (.slice va VL vc) L' ∧ ∀ Q, Q < w.heap.size → notP Q (.slice sa SL sc) ru → notP Q (.slice va VL vc) L') ∧ Hid (dropF ru (dr.take j) = some L') ∧ Hid (wr.heap[P]? = some (.cells #[.slice va VL vc, .int .i64 xlo, .int .i64 xne, .int .i64 xma] 38)) ∧ Hid (wr.heap[w.heap.size]? = some (.cells #[.slice sa SL sc, .int .i64 lo, .int .i64 ne, .int .i64 ma] 38) ∧ wr.heap[w.heap.size + 1]? = some (.cells #[.slice da DL dc, .slice aa AL ac, .int .i64 xlo, .int .i64 xne, .int .i64 xma] 56) ∧ wr.heap[w.heap.size + 2]? = some (.cells #[.slice none 0 0, .int .i64 0, .int .i64 0, .int .i64 0] 38)) ∧ Hid (Below w.heap.size w wr)) (fun iv _ => DL - (intOf iv).toNat)
        case atStart => exact ⟨0, SL, sc, sa, ru, rfl, by omega, hSL, HSL2, HU2, HN2, rfl, HO2, ⟨HS2.out, HX2.out, HZ2.out⟩, HB2⟩
        case round =>
          clear HO2 HN2 HU2 HS2 HX2 HZ2 HB2 HSL2
          obtain ⟨j, VL, vc, va, L', rfl, hj, hVL, HVl, HUr, HNr, HDr, HOr, HH, HBr⟩ := hrel
          have hPl : P < wr.heap.size := (Array.getElem?_eq_some_iff.1 HOr.out).1
          obtain ⟨e0, e1, e2, e3⟩ := four13 HOr.out
          obtain ⟨d0, d1, d2, d3, d4⟩ := five HH.out.2.1
          by_cases hlt : j < DL
          · have hlt' : (j : Int) < (DL : Int) := by omega
            have hjl : j < dr.length := by rw [HDL.out]; exact hlt
            obtain ⟨f, Hf⟩ := hid_ex dr[j]
            have HT : Hid (dropF ru (dr.take (j + 1)) = drop1 L' f) := by
              unfold Hid
              rw [snocI hjl Hf.out, dropF_app, HDr.out, Option.bind_some, dropF_one]
            obtain ⟨db, doff, rfl, hdb, f0⟩ := (HD.out.below HBr.out).at hjl Hf.out
            have HC : Hid ((wr.drew.cell? ⟨P, 0, none⟩ = some (.slice va VL vc) ∧ wr.drew.cell? ⟨w.heap.size + 1, 0, none⟩ = some (.slice (some ⟨db, doff, none⟩) DL dc)) ∧ wr.drew.cell? ⟨db, doff + j, none⟩ = some (.int .i64 f)) := ⟨⟨e0, d0⟩, f0⟩
            clear f0 e1 e2 e3 d1 d2 d3 d4
            go_wp2_with fail
            clear e0 d0
            refine wp_region_noPanic ?_
            refine wp_region_held_drew (S := fun w' => (w'.cell? ⟨P, 0, none⟩ = some (.slice va VL vc) ∧ w'.cell? ⟨w.heap.size + 1, 0, none⟩ = some (.slice (some ⟨db, doff, none⟩) DL dc)) ∧ w'.cell? ⟨db, doff + j, none⟩ = some (.int .i64 f)) (by kernel_rfl) ?_ (fun hHeld => ?_)
            · exact HC.out
            refine wpAnyH_take (i := 0) (v := .pointer (some ⟨P, 0, none⟩)) rfl (by kernel_rfl) (by kernel_rfl) (by kernel_rfl) (fun _ _ _ h => h) (Or.inl ⟨by rfl, ?_⟩) (by assumption) ?_
            · (intro w1 hSw; (try dsimp only at hSw); go_simp)
            simp only [List.getElem_toArray, List.getElem_cons_zero, Act.put, List.setIfInBounds_toArray, List.set_cons_zero, List.set_cons_succ]
            refine wpAnyH_take (i := 1) (v := .slice va VL vc) rfl (by kernel_rfl) (by kernel_rfl) (by kernel_rfl) (fun _ _ _ h => h) (Or.inl ⟨by rfl, ?_⟩) (by assumption) ?_
            · (intro w1 hSw; (try dsimp only at hSw); go_simp)
            simp only [List.getElem_toArray, List.getElem_cons_succ, List.getElem_cons_zero, Act.put, List.setIfInBounds_toArray, List.set_cons_zero, List.set_cons_succ]
            refine wpAnyH_take (i := 2) (v := .pointer (some ⟨w.heap.size + 1, 0, none⟩)) rfl (by kernel_rfl) (by kernel_rfl) (by kernel_rfl) (fun _ _ _ h => h) (Or.inl ⟨by rfl, ?_⟩) (by assumption) ?_
            · (intro w1 hSw; (try dsimp only at hSw); go_simp)
            simp only [List.getElem_toArray, List.getElem_cons_succ, List.getElem_cons_zero, Act.put, List.setIfInBounds_toArray, List.set_cons_zero, List.set_cons_succ]
            refine wpAnyH_take (i := 3) (v := .slice (some ⟨db, doff, none⟩) DL dc) rfl (by kernel_rfl) (by kernel_rfl) (by kernel_rfl) (fun _ _ _ h => h) (Or.inl ⟨by rfl, ?_⟩) (by assumption) ?_
            · (intro w1 hSw; (try dsimp only at hSw); go_simp)
            simp only [List.getElem_toArray, List.getElem_cons_succ, List.getElem_cons_zero, Act.put, List.setIfInBounds_toArray, List.set_cons_zero, List.set_cons_succ]
            refine wpAnyH_take (i := 4) (v := .int .i64 (j : Int)) rfl (by kernel_rfl) (by kernel_rfl) (by kernel_rfl) (fun _ _ _ h => h) (Or.inl ⟨by rfl, ?_⟩) (by assumption) ?_
            · (intro w1 hSw; (try dsimp only at hSw); go_simp)
            simp only [List.getElem_toArray, List.getElem_cons_succ, List.getElem_cons_zero, Act.put, List.setIfInBounds_toArray, List.set_cons_zero, List.set_cons_succ]
            refine wpAnyH_take (i := 5) (v := .pointer (some ⟨db, doff + j, none⟩)) rfl (by kernel_rfl) (by kernel_rfl) (by kernel_rfl) (fun _ _ _ h => h) (Or.inl ⟨by rfl, ?_⟩) (by assumption) ?_
            · (intro w1 hSw; (try dsimp only at hSw); go_simp)
            simp only [List.getElem_toArray, List.getElem_cons_succ, List.getElem_cons_zero, Act.put, List.setIfInBounds_toArray, List.set_cons_zero, List.set_cons_succ]
            refine wpAnyH_take (i := 6) (v := .int .i64 f) rfl (by kernel_rfl) (by kernel_rfl) (by kernel_rfl) (fun _ _ _ h => h) (Or.inl ⟨by rfl, ?_⟩) (by assumption) ?_
            · (intro w1 hSw; (try dsimp only at hSw); go_simp)
            simp only [List.getElem_toArray, List.getElem_cons_succ, List.getElem_cons_zero, Act.put, List.setIfInBounds_toArray, List.set_cons_zero, List.set_cons_succ]
            refine wpAnyH_ready (rs := [7]) (by kernel_rfl) (by simp) ?_
            refine AllReadyH.cons (o := _) rfl (fun K hK => ?_) AllReadyH.nil
            go_simp
            refine (refDrop_any _ L' f wr.drew (HUr.out.below (Below.refl _ _).drew).r (by rw [HVl.out]; omega)).mono ?_
            rintro e W3 ⟨v3, rfl, hu3, ha3, hb3⟩
            have HB3r : Hid (Below wr.heap.size wr W3) := (Below.refl wr.heap.size wr).drew.trans hb3
            have HB3 : Hid (Below w.heap.size w W3) := HBr.out.trans (HB3r.out.mono HBr.out.size)
            have HU3 : Hid (UR W3 v3 (L'.filter (fltF f))) := hu3
            have HA3 : Hid (AboveV wr.heap.size v3) := ha3
            have HO3 : Hid (W3.heap[P]? = some (.cells #[.slice va VL vc, .int .i64 xlo, .int .i64 xne, .int .i64 xma] 38)) := (HB3r.out.block _ hPl).trans HOr.out
            have HH3 : Hid (W3.heap[w.heap.size]? = some (.cells #[.slice sa SL sc, .int .i64 lo, .int .i64 ne, .int .i64 ma] 38) ∧ W3.heap[w.heap.size + 1]? = some (.cells #[.slice (some ⟨db, doff, none⟩) DL dc, .slice aa AL ac, .int .i64 xlo, .int .i64 xne, .int .i64 xma] 56) ∧ W3.heap[w.heap.size + 2]? = some (.cells #[.slice none 0 0, .int .i64 0, .int .i64 0, .int .i64 0] 38)) := ⟨(HB3r.out.block _ (by omega)).trans HH.out.1, (HB3r.out.block _ (by omega)).trans HH.out.2.1, (HB3r.out.block _ (by omega)).trans HH.out.2.2⟩
            have HC3 : Hid ((W3.cell? ⟨P, 0, none⟩ = some (.slice va VL vc) ∧ W3.cell? ⟨w.heap.size + 1, 0, none⟩ = some (.slice (some ⟨db, doff, none⟩) DL dc)) ∧ W3.cell? ⟨db, doff + j, none⟩ = some (.int .i64 f)) := ⟨⟨(four13 HO3.out).1, (five HH3.out.2.1).1⟩, (hb3.cell (p := ⟨db, _, none⟩) hdb).trans HC.out.2⟩
            have HV3l : Hid ((L'.filter (fltF f)).length ≤ VL) := by unfold Hid; rw [← HVl.out]; exact List.length_filter_le _ _
            obtain ⟨va3, vc3, hv3, _⟩ := hu3.r.form
            obtain ⟨V3, HV3⟩ : ∃ n, Hid ((L'.filter (fltF f)).length = n) := ⟨_, rfl⟩
            rw [HV3.out] at hv3 HV3l
            subst hv3
            clear hu3 ha3 hb3 HC
            cases hd1 : drop1 L' f with
            | none =>
              have HAP : Hid (apS ⟨ru, lo, ne, ma⟩ ⟨dr, ad, xlo, xne, xma⟩ = (none, 100)) := apS_drop HOk.out (by
                show dropF ru dr = none
                have e : dr = dr.take (j + 1) ++ dr.drop (j + 1) := (List.take_append_drop _ _).symm
                rw [e, dropF_app, HT.out, hd1]; rfl)
              have HZ3 : Hid (W3.heap[w.heap.size + 2]? = some (.cells #[.slice none 0 0, .int .i64 0, .int .i64 0, .int .i64 0] 38)) := HH3.out.2.2
              clear hd1 HT
              go_simp
              refine hK.out _ _ ?_ (fun hHeld => ?_)
              · exact HC3.out
              clear hK K
              refine wpAnyH_take (i := 8) (v := .tuple #[.slice va3 V3 vc3, .bool false]) rfl (by kernel_rfl) (by kernel_rfl) (by kernel_rfl) (fun _ _ _ h => h) (Or.inl ⟨by rfl, ?_⟩) (by assumption) ?_
              · (intro w1 hSw; (try dsimp only at hSw); go_simp)
              simp only [List.getElem_toArray, List.getElem_cons_succ, List.getElem_cons_zero, Act.put, List.setIfInBounds_toArray, List.set_cons_zero, List.set_cons_succ]
              refine wpAnyH_take (i := 9) (v := .slice va3 V3 vc3) rfl (by kernel_rfl) (by kernel_rfl) (by kernel_rfl) (fun _ _ _ h => h) (Or.inl ⟨by rfl, ?_⟩) (by assumption) ?_
              · (intro w1 hSw; (try dsimp only at hSw); go_simp)
              simp only [List.getElem_toArray, List.getElem_cons_succ, List.getElem_cons_zero, Act.put, List.setIfInBounds_toArray, List.set_cons_zero, List.set_cons_succ]
              refine wpAnyH_take (i := 10) (v := .bool false) rfl (by kernel_rfl) (by kernel_rfl) (by kernel_rfl) (fun _ _ _ h => h) (Or.inl ⟨by rfl, ?_⟩) (by assumption) ?_
              · (intro w1 hSw; (try dsimp only at hSw); go_simp)
              simp only [List.getElem_toArray, List.getElem_cons_succ, List.getElem_cons_zero, Act.put, List.setIfInBounds_toArray, List.set_cons_zero, List.set_cons_succ]
              refine wpAnyH_ready (rs := [11]) (by kernel_rfl) (by simp) ?_
              refine AllReadyH.cons (o := _) rfl (fun K hK => ?_) AllReadyH.nil
              go_simp
              refine hK.out _ _ ?_ (fun hHeld => ?_)
              · exact HC3.out
              clear hK K
              refine wpAnyH_ready (rs := [12]) (by kernel_rfl) (by simp) ?_
              refine AllReadyH.cons (o := _) rfl (fun K hK => ?_) AllReadyH.nil
              go_simp
              refine hK.out _ _ ?_ (fun hHeld => ?_)
              · exact HC3.out
              clear hK K
              refine wpAnyH_done (by kernel_rfl) ?_ _
              refine NoPanic.normal ?_
              clear HC3
              go_wp2_with (refine stop_store 38 _ _ rfl ?_)
              refine Stop.of ?_
              refine wpList_storeN rfl _ _ _ rfl (w.heap.size + 2) 0 [.slice none 0 0, .int .i64 0, .int .i64 0, .int .i64 0] rfl rfl _ _ HZ3.out (by simp) (by kernel_rfl) (by kernel_rfl) ?_
              intro W9 hW9
              have HK9 := stW_all hW9 (by simp)
              have HB9 : Hid (Below w.heap.size w W9) := HB3.out.trans (hW9.b _ (by omega))
              clear hW9
              go_wp2_with fail
              refine bodyPost_ret (results_c13 rfl _ _ (w.heap.size + 2) _ rfl (run_loadVar_row _ (w.heap.size + 2) _ _ _ (0, 0) _ HK9 Tryz.underlying38 rfl (by kernel_rfl))) rfl ?_
              exact ApF.err HAP.out HB9.out
            | some L2 =>
              have hL2 := drop1_val hd1
              have HD3 : Hid (dropF ru (dr.take (j + 1)) = some (L'.filter (fltF f))) := by unfold Hid; rw [HT.out, hd1, hL2]
              clear hd1 HT hL2
              have c9 := (four13 HO3.out).1
              have f9 := frzOf HO3.out 0
              have HV9 : Hid (V3 ≤ VL) := HV3l.out
              go_simp
              refine hK.out _ _ ?_ (fun hHeld => ?_)
              · exact HC3.out
              clear hK K
              refine wpAnyH_take (i := 8) (v := .tuple #[.slice va3 V3 vc3, .bool true]) rfl (by kernel_rfl) (by kernel_rfl) (by kernel_rfl) (fun _ _ _ h => h) (Or.inl ⟨by rfl, ?_⟩) (by assumption) ?_
              · (intro w1 hSw; (try dsimp only at hSw); go_simp)
              simp only [List.getElem_toArray, List.getElem_cons_succ, List.getElem_cons_zero, Act.put, List.setIfInBounds_toArray, List.set_cons_zero, List.set_cons_succ]
              refine wpAnyH_take (i := 9) (v := .slice va3 V3 vc3) rfl (by kernel_rfl) (by kernel_rfl) (by kernel_rfl) (fun _ _ _ h => h) (Or.inl ⟨by rfl, ?_⟩) (by assumption) ?_
              · (intro w1 hSw; (try dsimp only at hSw); go_simp)
              simp only [List.getElem_toArray, List.getElem_cons_succ, List.getElem_cons_zero, Act.put, List.setIfInBounds_toArray, List.set_cons_zero, List.set_cons_succ]
              refine wpAnyH_take (i := 10) (v := .bool true) rfl (by kernel_rfl) (by kernel_rfl) (by kernel_rfl) (fun _ _ _ h => h) (Or.inl ⟨by rfl, ?_⟩) (by assumption) ?_
              · (intro w1 hSw; (try dsimp only at hSw); go_simp)
              simp only [List.getElem_toArray, List.getElem_cons_succ, List.getElem_cons_zero, Act.put, List.setIfInBounds_toArray, List.set_cons_zero, List.set_cons_succ]
              refine wpAnyH_ready (rs := [11]) (by kernel_rfl) (by simp) ?_
              refine AllReadyH.cons (o := _) rfl (fun K hK => ?_) AllReadyH.nil
              go_simp
              refine hK.out _ _ ?_ (fun hHeld => ?_)
              · exact HC3.out
              clear hK K
              refine wpAnyH_ready (rs := [12]) (by kernel_rfl) (by simp) ?_
              refine AllReadyH.cons (o := _) rfl (fun K hK => ?_) AllReadyH.nil
              go_simp
              refine hK.out _ _ ?_ (fun hHeld => ?_)
              · exact HC3.out
              clear hK K
              refine wpAnyH_done (by kernel_rfl) ?_ _
              refine NoPanic.normal ?_
              clear HC3
              go_wp2_with fail
              have hot : ∀ k, k ≠ P → (W3.setCell ⟨P, 0, none⟩ (.slice va3 V3 vc3)).heap[k]? = W3.heap[k]? := fun k hk => Go.heap_setCell_other _ _ _ _ hk
              have HN4 : Hid (notP P (.slice va3 V3 vc3) (L'.filter (fltF f)) ∧ notP (w.heap.size + 2) (.slice va3 V3 vc3) (L'.filter (fltF f)) ∧ ∀ Q, Q < w.heap.size → notP Q (.slice sa SL sc) ru → notP Q (.slice va3 V3 vc3) (L'.filter (fltF f))) := ⟨fun _ b off n c e => by have := HA3.out b off n c e; omega, fun _ b off n c e => by have := HA3.out b off n c e; omega, fun Q hQ _ _ b off n c e => by have := HA3.out b off n c e; omega⟩
              have HU4 : Hid (UR (W3.setCell ⟨P, 0, none⟩ (.slice va3 V3 vc3)) (.slice va3 V3 vc3) (L'.filter (fltF f))) := HU3.out.setQ HN4.out.1
              have HO4 : Hid ((W3.setCell ⟨P, 0, none⟩ (.slice va3 V3 vc3)).heap[P]? = some (.cells #[.slice va3 V3 vc3, .int .i64 xlo, .int .i64 xne, .int .i64 xma] 38)) := (heap_setCell_same _ _ _ _ _ _ HO3.out).trans rfl
              have HH4 : Hid ((W3.setCell ⟨P, 0, none⟩ (.slice va3 V3 vc3)).heap[w.heap.size]? = some (.cells #[.slice sa SL sc, .int .i64 lo, .int .i64 ne, .int .i64 ma] 38) ∧ (W3.setCell ⟨P, 0, none⟩ (.slice va3 V3 vc3)).heap[w.heap.size + 1]? = some (.cells #[.slice (some ⟨db, doff, none⟩) DL dc, .slice aa AL ac, .int .i64 xlo, .int .i64 xne, .int .i64 xma] 56) ∧ (W3.setCell ⟨P, 0, none⟩ (.slice va3 V3 vc3)).heap[w.heap.size + 2]? = some (.cells #[.slice none 0 0, .int .i64 0, .int .i64 0, .int .i64 0] 38)) := ⟨(hot _ (by omega)).trans HH3.out.1, (hot _ (by omega)).trans HH3.out.2.1, (hot _ (by omega)).trans HH3.out.2.2⟩
              have HB4 : Hid (Below w.heap.size w (W3.setCell ⟨P, 0, none⟩ (.slice va3 V3 vc3))) := HB3.out.setCell (by show w.heap.size ≤ P; omega) _
              clear c9 f9 hot
              go_roundw
              case rel => exact ⟨j + 1, V3, vc3, va3, _, by go_num, by omega, by have := HV9.out; omega, HV3, HU4, HN4, HD3, HO4, HH4, HB4⟩
              case measure => simp [intOf]; omega
          · have hlt' : ¬ (j : Int) < (DL : Int) := by omega
            have HDe : Hid (dropF ru dr = some L') := by
              have := HDr.out
              rwa [List.take_of_length_le (by rw [HDL.out]; omega)] at this
            have HL64 : Hid (L'.length ≤ 64) := by have h1 := dropF_len HDe.out; have h2 := HOk.out.2.2.2.2.2.1; show L'.length ≤ 64; simp only at h2; omega
            clear e1 e2 e3 d1 d2 d3 d4
            go_wp2_with fail
            clear e0 d0
            go_loopw [10] (fun iv wr => ∃ (j VL vc : Nat) (va : Option Addr) (M : List Ru), iv = .int .i64 (j : Int) ∧ j ≤ AL ∧ Hid (M.length = VL) ∧ Hid (M = (ad.take j).foldl (fun l r => putR r l) L') ∧ Hid (UR wr (.slice va VL vc) M) ∧ Hid (notP P (.slice va VL vc) M ∧ notP (w.heap.size + 2) (.slice va VL vc) M ∧ ∀ Q, Q < w.heap.size → notP Q (.slice sa SL sc) ru → notP Q (.slice va VL vc) M) ∧ Hid (wr.heap[P]? = some (.cells #[.slice va VL vc, .int .i64 xlo, .int .i64 xne, .int .i64 xma] 38)) ∧ Hid (wr.heap[w.heap.size]? = some (.cells #[.slice sa SL sc, .int .i64 lo, .int .i64 ne, .int .i64 ma] 38) ∧ wr.heap[w.heap.size + 1]? = some (.cells #[.slice da DL dc, .slice aa AL ac, .int .i64 xlo, .int .i64 xne, .int .i64 xma] 56) ∧ wr.heap[w.heap.size + 2]? = some (.cells #[.slice none 0 0, .int .i64 0, .int .i64 0, .int .i64 0] 38)) ∧ Hid (Below w.heap.size w wr)) (fun iv _ => AL - (intOf iv).toNat)
            case atStart => exact ⟨0, VL, vc, va, L', rfl, by omega, HVl, rfl, HUr, HNr, HOr, HH, HBr⟩
            case round =>
              clear HUr HNr HOr HH HBr HVl HDr hPl
              obtain ⟨j, VL, vc, va, M, rfl, hj, HVl, HMe, HUr, HNr, HOr, HH, HBr⟩ := hrel
              have hPl : P < wr.heap.size := (Array.getElem?_eq_some_iff.1 HOr.out).1
              obtain ⟨e0, e1, e2, e3⟩ := four13 HOr.out
              obtain ⟨d0, d1, d2, d3, d4⟩ := five HH.out.2.1
              by_cases hlt : j < AL
              · have hlt' : (j : Int) < (AL : Int) := by omega
                have hjl : j < ad.length := by rw [HAL.out]; exact hlt
                obtain ⟨r, Hr⟩ := hid_ex ad[j]
                have HM2 : Hid (putR r M = (ad.take (j + 1)).foldl (fun l r => putR r l) L') := by unfold Hid; rw [putAll_snoc hjl Hr.out, ← HMe.out]
                have HMl : Hid (M.length ≤ 10000) := by
                  unfold Hid
                  rw [HMe.out, putAll_len, List.length_take]
                  have := HL64.out
                  have := HAl.out
                  omega
                obtain ⟨ab, aoff, rfl, hab, f0, f1, f2⟩ := (HA.out.below HBr.out).at hjl Hr.out
                have hab0 : ab < w.heap.size := by
                  obtain ⟨b', off', e', hb', _⟩ := HA.out.at hjl Hr.out
                  simp only [Option.some.injEq, Addr.mk.injEq] at e'
                  omega
                have HCs : Hid (wr.drew.cell? ⟨w.heap.size + 1, 1, none⟩ = some (.slice (some ⟨ab, aoff, none⟩) AL ac) ∧ (wr.drew.cell? ⟨ab, aoff + j * 3, none⟩ = some (.int .i64 r.f) ∧ wr.drew.cell? ⟨ab, aoff + j * 3 + 1, none⟩ = some (.int .i64 r.l) ∧ wr.drew.cell? ⟨ab, aoff + j * 3 + 2, none⟩ = some (.int .i64 r.c))) := ⟨d1, f0, f1, f2⟩
                have HCp : Hid (wr.drew.cell? ⟨P, 0, none⟩ = some (.slice va VL vc)) := e0
                clear f0 f1 f2 e1 e2 e3 d0 d2 d3 d4
                go_wp2_with fail
                clear e0 d1
                refine wp_region_noPanic ?_
                refine wp_region_S 9 (fun w' => w'.cell? ⟨w.heap.size + 1, 1, none⟩ = some (.slice (some ⟨ab, aoff, none⟩) AL ac) ∧ (w'.cell? ⟨ab, aoff + j * 3, none⟩ = some (.int .i64 r.f) ∧ w'.cell? ⟨ab, aoff + j * 3 + 1, none⟩ = some (.int .i64 r.l) ∧ w'.cell? ⟨ab, aoff + j * 3 + 2, none⟩ = some (.int .i64 r.c))) (fun w' => w'.cell? ⟨P, 0, none⟩ = some (.slice va VL vc)) (by kernel_rfl) ?_ ?_ (fun hHeld => ?_)
                · exact HCs.out
                · exact HCp.out
                refine wpAnyS_take (i := 0) (v := .pointer (some ⟨P, 0, none⟩)) _ rfl (by kernel_rfl) (by kernel_rfl) (by kernel_rfl) (by kernel_rfl) (by kernel_rfl) rfl (fun _ _ _ h => h) (Or.inl ⟨by rfl, ?_⟩) hHeld (fun hHeld => ?_)
                · (intro w1 hSw; have hSw := hSw.1; (try dsimp only at hSw); go_simp)
                simp only [List.getElem_toArray, List.getElem_cons_zero, Act.put, List.setIfInBounds_toArray, List.set_cons_zero, List.set_cons_succ]
                refine wpAnyS_take (i := 1) (v := .slice va VL vc) true rfl (by kernel_rfl) (by kernel_rfl) (by kernel_rfl) (by kernel_rfl) (by kernel_rfl) (by kernel_rfl) (fun _ _ _ h => h) (Or.inl ⟨by rfl, ?_⟩) hHeld (fun hHeld => ?_)
                · (intro w1 hSw; have hSw2 := hSw.2 rfl; have hSw := hSw.1; (try dsimp only at hSw hSw2); go_simp)
                simp only [List.getElem_toArray, List.getElem_cons_succ, List.getElem_cons_zero, Act.put, List.setIfInBounds_toArray, List.set_cons_zero, List.set_cons_succ]
                refine wpAnyS_take (i := 2) (v := .pointer (some ⟨w.heap.size + 1, 1, none⟩)) _ rfl (by kernel_rfl) (by kernel_rfl) (by kernel_rfl) (by kernel_rfl) (by kernel_rfl) rfl (fun _ _ _ h => h) (Or.inl ⟨by rfl, ?_⟩) hHeld (fun hHeld => ?_)
                · (intro w1 hSw; have hSw := hSw.1; (try dsimp only at hSw); go_simp)
                simp only [List.getElem_toArray, List.getElem_cons_succ, List.getElem_cons_zero, Act.put, List.setIfInBounds_toArray, List.set_cons_zero, List.set_cons_succ]
                refine wpAnyS_take (i := 3) (v := .slice (some ⟨ab, aoff, none⟩) AL ac) _ rfl (by kernel_rfl) (by kernel_rfl) (by kernel_rfl) (by kernel_rfl) (by kernel_rfl) rfl (fun _ _ _ h => h) (Or.inl ⟨by rfl, ?_⟩) hHeld (fun hHeld => ?_)
                · (intro w1 hSw; have hSw := hSw.1; (try dsimp only at hSw); go_simp)
                simp only [List.getElem_toArray, List.getElem_cons_succ, List.getElem_cons_zero, Act.put, List.setIfInBounds_toArray, List.set_cons_zero, List.set_cons_succ]
                refine wpAnyS_take (i := 4) (v := .int .i64 (j : Int)) _ rfl (by kernel_rfl) (by kernel_rfl) (by kernel_rfl) (by kernel_rfl) (by kernel_rfl) rfl (fun _ _ _ h => h) (Or.inl ⟨by rfl, ?_⟩) hHeld (fun hHeld => ?_)
                · (intro w1 hSw; have hSw := hSw.1; (try dsimp only at hSw); go_simp)
                simp only [List.getElem_toArray, List.getElem_cons_succ, List.getElem_cons_zero, Act.put, List.setIfInBounds_toArray, List.set_cons_zero, List.set_cons_succ]
                refine wpAnyS_take (i := 5) (v := .pointer (some ⟨ab, aoff + j * 3, none⟩)) _ rfl (by kernel_rfl) (by kernel_rfl) (by kernel_rfl) (by kernel_rfl) (by kernel_rfl) rfl (fun _ _ _ h => h) (Or.inl ⟨by rfl, ?_⟩) hHeld (fun hHeld => ?_)
                · (intro w1 hSw; have hSw := hSw.1; (try dsimp only at hSw); go_simp)
                simp only [List.getElem_toArray, List.getElem_cons_succ, List.getElem_cons_zero, Act.put, List.setIfInBounds_toArray, List.set_cons_zero, List.set_cons_succ]
                refine wpAnyS_take (i := 6) (v := .agg #[.int .i64 r.f, .int .i64 r.l, .int .i64 r.c]) _ rfl (by kernel_rfl) (by kernel_rfl) (by kernel_rfl) (by kernel_rfl) (by kernel_rfl) rfl (fun _ _ _ h => h) (Or.inl ⟨by rfl, ?_⟩) hHeld (fun hHeld => ?_)
                · (intro w1 hSw; have hSw := hSw.1; (try dsimp only at hSw); go_simp)
                simp only [List.getElem_toArray, List.getElem_cons_succ, List.getElem_cons_zero, Act.put, List.setIfInBounds_toArray, List.set_cons_zero, List.set_cons_succ]
                refine wpAnyS_ready (i := 7) (by kernel_rfl) rfl (fun K hK => ?_)
                go_simp
                refine (refPut_any _ M r wr.drew (HUr.out.below (Below.refl _ _).drew) HMl.out).mono ?_
                rintro e W3 ⟨v3, rfl, hu3, ha3, hb3⟩
                have HB3r : Hid (Below wr.heap.size wr W3) := (Below.refl wr.heap.size wr).drew.trans hb3
                have HB3 : Hid (Below w.heap.size w W3) := HBr.out.trans (HB3r.out.mono HBr.out.size)
                have HU3 : Hid (UR W3 v3 (putR r M)) := hu3
                have HA3 : Hid (AboveV wr.heap.size v3) := ha3
                have HO3 : Hid (W3.heap[P]? = some (.cells #[.slice va VL vc, .int .i64 xlo, .int .i64 xne, .int .i64 xma] 38)) := (HB3r.out.block _ hPl).trans HOr.out
                have HH3 : Hid (W3.heap[w.heap.size]? = some (.cells #[.slice sa SL sc, .int .i64 lo, .int .i64 ne, .int .i64 ma] 38) ∧ W3.heap[w.heap.size + 1]? = some (.cells #[.slice da DL dc, .slice (some ⟨ab, aoff, none⟩) AL ac, .int .i64 xlo, .int .i64 xne, .int .i64 xma] 56) ∧ W3.heap[w.heap.size + 2]? = some (.cells #[.slice none 0 0, .int .i64 0, .int .i64 0, .int .i64 0] 38)) := ⟨(HB3r.out.block _ (by omega)).trans HH.out.1, (HB3r.out.block _ (by omega)).trans HH.out.2.1, (HB3r.out.block _ (by omega)).trans HH.out.2.2⟩
                have HC3 : Hid (W3.cell? ⟨w.heap.size + 1, 1, none⟩ = some (.slice (some ⟨ab, aoff, none⟩) AL ac) ∧ (W3.cell? ⟨ab, aoff + j * 3, none⟩ = some (.int .i64 r.f) ∧ W3.cell? ⟨ab, aoff + j * 3 + 1, none⟩ = some (.int .i64 r.l) ∧ W3.cell? ⟨ab, aoff + j * 3 + 2, none⟩ = some (.int .i64 r.c))) := ⟨(five HH3.out.2.1).2.1, (hb3.cell (p := ⟨ab, _, none⟩) hab).trans HCs.out.2.1, (hb3.cell (p := ⟨ab, _, none⟩) hab).trans HCs.out.2.2.1, (hb3.cell (p := ⟨ab, _, none⟩) hab).trans HCs.out.2.2.2⟩
                obtain ⟨va3, vc3, hv3, _⟩ := hu3.r.form
                obtain ⟨V3, HV3⟩ : ∃ n, Hid ((putR r M).length = n) := ⟨_, rfl⟩
                rw [HV3.out] at hv3
                subst hv3
                have c9 := (four13 HO3.out).1
                have f9 := frzOf HO3.out 0
                have hot : ∀ k, k ≠ P → (W3.setCell ⟨P, 0, none⟩ (.slice va3 V3 vc3)).heap[k]? = W3.heap[k]? := fun k hk => Go.heap_setCell_other _ _ _ _ hk
                have HN4 : Hid (notP P (.slice va3 V3 vc3) (putR r M) ∧ notP (w.heap.size + 2) (.slice va3 V3 vc3) (putR r M) ∧ ∀ Q, Q < w.heap.size → notP Q (.slice sa SL sc) ru → notP Q (.slice va3 V3 vc3) (putR r M)) := ⟨fun _ b off n c e => by have := HA3.out b off n c e; omega, fun _ b off n c e => by have := HA3.out b off n c e; omega, fun Q hQ _ _ b off n c e => by have := HA3.out b off n c e; omega⟩
                have HU4 : Hid (UR (W3.setCell ⟨P, 0, none⟩ (.slice va3 V3 vc3)) (.slice va3 V3 vc3) (putR r M)) := HU3.out.setQ HN4.out.1
                have HO4 : Hid ((W3.setCell ⟨P, 0, none⟩ (.slice va3 V3 vc3)).heap[P]? = some (.cells #[.slice va3 V3 vc3, .int .i64 xlo, .int .i64 xne, .int .i64 xma] 38)) := (heap_setCell_same _ _ _ _ _ _ HO3.out).trans rfl
                have HH4 : Hid ((W3.setCell ⟨P, 0, none⟩ (.slice va3 V3 vc3)).heap[w.heap.size]? = some (.cells #[.slice sa SL sc, .int .i64 lo, .int .i64 ne, .int .i64 ma] 38) ∧ (W3.setCell ⟨P, 0, none⟩ (.slice va3 V3 vc3)).heap[w.heap.size + 1]? = some (.cells #[.slice da DL dc, .slice (some ⟨ab, aoff, none⟩) AL ac, .int .i64 xlo, .int .i64 xne, .int .i64 xma] 56) ∧ (W3.setCell ⟨P, 0, none⟩ (.slice va3 V3 vc3)).heap[w.heap.size + 2]? = some (.cells #[.slice none 0 0, .int .i64 0, .int .i64 0, .int .i64 0] 38)) := ⟨(hot _ (by omega)).trans HH3.out.1, (hot _ (by omega)).trans HH3.out.2.1, (hot _ (by omega)).trans HH3.out.2.2⟩
                have HC4 : Hid ((W3.setCell ⟨P, 0, none⟩ (.slice va3 V3 vc3)).cell? ⟨w.heap.size + 1, 1, none⟩ = some (.slice (some ⟨ab, aoff, none⟩) AL ac) ∧ ((W3.setCell ⟨P, 0, none⟩ (.slice va3 V3 vc3)).cell? ⟨ab, aoff + j * 3, none⟩ = some (.int .i64 r.f) ∧ (W3.setCell ⟨P, 0, none⟩ (.slice va3 V3 vc3)).cell? ⟨ab, aoff + j * 3 + 1, none⟩ = some (.int .i64 r.l) ∧ (W3.setCell ⟨P, 0, none⟩ (.slice va3 V3 vc3)).cell? ⟨ab, aoff + j * 3 + 2, none⟩ = some (.int .i64 r.c))) := ⟨(five HH4.out.2.1).2.1, (World.cell?_setCell_other _ _ _ _ (by first | (simp; done) | (simp; omega))).trans HC3.out.2.1, (World.cell?_setCell_other _ _ _ _ (by first | (simp; done) | (simp; omega))).trans HC3.out.2.2.1, (World.cell?_setCell_other _ _ _ _ (by first | (simp; done) | (simp; omega))).trans HC3.out.2.2.2⟩
                have HB4 : Hid (Below w.heap.size w (W3.setCell ⟨P, 0, none⟩ (.slice va3 V3 vc3))) := HB3.out.setCell (by show w.heap.size ≤ P; omega) _
                clear hu3 ha3 hb3 hot
                go_simp
                refine hK.out _ _ ⟨?_, fun _ => ?_⟩ (fun hHeld => ?_)
                · exact HC3.out
                · exact c9
                clear hK K
                refine wpAnyS_take (i := 8) (v := .pointer (some ⟨P, 0, none⟩)) _ rfl (by kernel_rfl) (by kernel_rfl) (by kernel_rfl) (by kernel_rfl) (by kernel_rfl) rfl (fun _ _ _ h => h) (Or.inl ⟨by rfl, ?_⟩) hHeld (fun hHeld => ?_)
                · (intro w1 hSw; have hSw := hSw.1; (try dsimp only at hSw); go_simp)
                simp only [List.getElem_toArray, List.getElem_cons_succ, List.getElem_cons_zero, Act.put, List.setIfInBounds_toArray, List.set_cons_zero, List.set_cons_succ]
                refine wpAnyS_ready (i := 9) (by kernel_rfl) rfl (fun K hK => ?_)
                go_simp
                refine hK.out _ _ ⟨?_, fun hno => absurd hno (by decide)⟩ (fun hHeld => ?_)
                · exact HC4.out
                clear hK K
                refine wpAnyS_done (by kernel_rfl) ?_ _
                refine NoPanic.normal ?_
                clear HC3 HC4 HCs HCp c9 f9
                go_wp2_with fail
                go_roundw
                case rel => exact ⟨j + 1, V3, vc3, va3, _, by go_num, by omega, HV3, HM2, HU4, HN4, HO4, HH4, HB4⟩
                case measure => simp [intOf]; omega
              · have hlt' : ¬ (j : Int) < (AL : Int) := by omega
                have HMt : Hid (M = (apT L' ⟨dr, ad, xlo, xne, xma⟩).ru) := by
                  have := HMe.out
                  rwa [List.take_of_length_le (by rw [HAL.out]; omega)] at this
                obtain ⟨s0, s1, s2, s3⟩ := four13 HH.out.1
                have HZr : Hid (wr.heap[w.heap.size + 2]? = some (.cells #[.slice none 0 0, .int .i64 0, .int .i64 0, .int .i64 0] 38)) := HH.out.2.2
                by_cases hlo : xlo < lo
                · have HAP : Hid (apS ⟨ru, lo, ne, ma⟩ ⟨dr, ad, xlo, xne, xma⟩ = (none, 100)) := apS_back HOk.out HDe.out (.inl hlo)
                  go_wp2_with (refine stop_store 38 _ _ rfl ?_)
                  refine Stop.of ?_
                  refine wpList_storeN rfl _ _ _ rfl (w.heap.size + 2) 0 [.slice none 0 0, .int .i64 0, .int .i64 0, .int .i64 0] rfl rfl _ _ HZr.out (by simp) (by kernel_rfl) (by kernel_rfl) ?_
                  intro W9 hW9
                  have HK9 := stW_all hW9 (by simp)
                  have HB9 : Hid (Below w.heap.size w W9) := HBr.out.trans (hW9.b _ (by omega))
                  clear hW9
                  go_wp2_with fail
                  refine bodyPost_ret (results_c13 rfl _ _ (w.heap.size + 2) _ rfl (run_loadVar_row _ (w.heap.size + 2) _ _ _ (0, 0) _ HK9 Tryz.underlying38 rfl (by kernel_rfl))) rfl ?_
                  exact ApF.err HAP.out HB9.out
                · by_cases hne : xne < ne
                  · have HAP : Hid (apS ⟨ru, lo, ne, ma⟩ ⟨dr, ad, xlo, xne, xma⟩ = (none, 100)) := apS_back HOk.out HDe.out (.inr (.inl hne))
                    go_wp2_with (refine stop_store 38 _ _ rfl ?_)
                    refine Stop.of ?_
                    refine wpList_storeN rfl _ _ _ rfl (w.heap.size + 2) 0 [.slice none 0 0, .int .i64 0, .int .i64 0, .int .i64 0] rfl rfl _ _ HZr.out (by simp) (by kernel_rfl) (by kernel_rfl) ?_
                    intro W9 hW9
                    have HK9 := stW_all hW9 (by simp)
                    have HB9 : Hid (Below w.heap.size w W9) := HBr.out.trans (hW9.b _ (by omega))
                    clear hW9
                    go_wp2_with fail
                    refine bodyPost_ret (results_c13 rfl _ _ (w.heap.size + 2) _ rfl (run_loadVar_row _ (w.heap.size + 2) _ _ _ (0, 0) _ HK9 Tryz.underlying38 rfl (by kernel_rfl))) rfl ?_
                    exact ApF.err HAP.out HB9.out
                  · by_cases hma : xma < ma
                    · have HAP : Hid (apS ⟨ru, lo, ne, ma⟩ ⟨dr, ad, xlo, xne, xma⟩ = (none, 100)) := apS_back HOk.out HDe.out (.inr (.inr hma))
                      go_wp2_with (refine stop_store 38 _ _ rfl ?_)
                      refine Stop.of ?_
                      refine wpList_storeN rfl _ _ _ rfl (w.heap.size + 2) 0 [.slice none 0 0, .int .i64 0, .int .i64 0, .int .i64 0] rfl rfl _ _ HZr.out (by simp) (by kernel_rfl) (by kernel_rfl) ?_
                      intro W9 hW9
                      have HK9 := stW_all hW9 (by simp)
                      have HB9 : Hid (Below w.heap.size w W9) := HBr.out.trans (hW9.b _ (by omega))
                      clear hW9
                      go_wp2_with fail
                      refine bodyPost_ret (results_c13 rfl _ _ (w.heap.size + 2) _ rfl (run_loadVar_row _ (w.heap.size + 2) _ _ _ (0, 0) _ HK9 Tryz.underlying38 rfl (by kernel_rfl))) rfl ?_
                      exact ApF.err HAP.out HB9.out
                    · have HAo : Hid (apS ⟨ru, lo, ne, ma⟩ ⟨dr, ad, xlo, xne, xma⟩ = if okSt (apT L' ⟨dr, ad, xlo, xne, xma⟩) then (some (apT L' ⟨dr, ad, xlo, xne, xma⟩), 0) else (none, 100)) := apS_on HOk.out HDe.out (by show ¬ (xlo < lo ∨ xne < ne ∨ xma < ma); omega)
                      have HT : Hid (apT L' ⟨dr, ad, xlo, xne, xma⟩ = ⟨M, xlo, xne, xma⟩) := by unfold Hid; rw [HMt.out]; rfl
                      rw [HT.out] at HAo
                      have HC : Hid (Calls Tryz.prog 18 #[.agg #[.slice va VL vc, .int .i64 xlo, .int .i64 xne, .int .i64 xma]] wr fun e w' => e = .returned (.bool (decide (okSt ⟨M, xlo, xne, xma⟩))) ∧ Below wr.heap.size wr w') := refRight13_any _ ⟨M, xlo, xne, xma⟩ wr HUr.out.r
                      go_wp2_with fail
                      refine HC.out.mono ?_
                      rintro e W5 ⟨rfl, hb5⟩
                      have HB5 : Hid (Below w.heap.size w W5) := HBr.out.trans (hb5.mono HBr.out.size)
                      have HZ5 : Hid (W5.heap[w.heap.size + 2]? = some (.cells #[.slice none 0 0, .int .i64 0, .int .i64 0, .int .i64 0] 38)) := (hb5.block _ (by omega)).trans HZr.out
                      have HO5 : Hid (W5.heap[P]? = some (.cells #[.slice va VL vc, .int .i64 xlo, .int .i64 xne, .int .i64 xma] 38)) := (hb5.block _ hPl).trans HOr.out
                      have HU5 : Hid (UR W5 (.slice va VL vc) M) := HUr.out.below hb5
                      clear hb5 HC e0 e1 e2 e3
                      obtain ⟨e0, e1, e2, e3⟩ := four13 HO5.out
                      have HOn5 : Hid (([.slice va VL vc, .int .i64 xlo, .int .i64 xne, .int .i64 xma] : List Value).toArray.all (·.oneCell') = true) := by unfold Hid; kernel_rfl
                      by_cases hok : okSt ⟨M, xlo, xne, xma⟩
                      · rw [show decide (okSt ⟨M, xlo, xne, xma⟩) = true from decide_eq_true hok]
                        rw [if_pos hok] at HAo
                        clear hok
                        go_wp2_with (refine stop_store 38 _ _ rfl ?_)
                        refine Stop.of ?_
                        refine wpList_storeN rfl _ _ _ rfl (w.heap.size + 2) 0 [.slice va VL vc, .int .i64 xlo, .int .i64 xne, .int .i64 xma] rfl rfl _ _ HZ5.out (by simp) (by kernel_rfl) HOn5.out ?_
                        intro W9 hW9
                        have HK9 := stW_all hW9 (by simp)
                        have HB9 : Hid (Below w.heap.size w W9) := HB5.out.trans (hW9.b _ (by omega))
                        have HU9 : Hid (UR W9 (.slice va VL vc) M) := ⟨HU5.out.r.keepC fun h0 b off n c e => hW9.o b (HNr.out.2.1 h0 b off n c e), HU5.out.c, HU5.out.z⟩
                        clear hW9
                        go_wp2_with fail
                        refine bodyPost_ret (results_c13 rfl _ _ (w.heap.size + 2) _ rfl (run_loadVar_row _ (w.heap.size + 2) _ _ _ (0, 0) _ HK9 Tryz.underlying38 rfl (by kernel_rfl))) rfl ?_
                        exact ApF.ok HAo.out HU9.out HB9.out HNr.out.2.2
                      · rw [show decide (okSt ⟨M, xlo, xne, xma⟩) = false from decide_eq_false hok]
                        rw [if_neg hok] at HAo
                        clear hok
                        go_wp2_with (refine stop_store 38 _ _ rfl ?_)
                        refine Stop.of ?_
                        refine wpList_storeN rfl _ _ _ rfl (w.heap.size + 2) 0 [.slice none 0 0, .int .i64 0, .int .i64 0, .int .i64 0] rfl rfl _ _ HZ5.out (by simp) (by kernel_rfl) (by kernel_rfl) ?_
                        intro W9 hW9
                        have HK9 := stW_all hW9 (by simp)
                        have HB9 : Hid (Below w.heap.size w W9) := HB5.out.trans (hW9.b _ (by omega))
                        clear hW9
                        go_wp2_with fail
                        refine bodyPost_ret (results_c13 rfl _ _ (w.heap.size + 2) _ rfl (run_loadVar_row _ (w.heap.size + 2) _ _ _ (0, 0) _ HK9 Tryz.underlying38 rfl (by kernel_rfl))) rfl ?_
                        exact ApF.err HAo.out HB9.out
  · have HAP : Hid (apS ⟨ru, lo, ne, ma⟩ ⟨dr, ad, xlo, xne, xma⟩ = (none, 1)) := apS_no hok
    rw [show decide (okSt ⟨ru, lo, ne, ma⟩) = false from decide_eq_false hok]
    clear hok
    go_wp2_with (refine stop_store 38 _ _ rfl ?_)
    refine Stop.of ?_
    refine wpList_storeN rfl _ _ _ rfl (w.heap.size + 2) 0 [.slice none 0 0, .int .i64 0, .int .i64 0, .int .i64 0] rfl rfl _ _ HZ1.out (by simp) (by kernel_rfl) (by kernel_rfl) ?_
    intro W9 hW9
    have HK9 := stW_all hW9 (by simp)
    have HB9 : Hid (Below w.heap.size w W9) := HB1.out.trans (hW9.b _ (by omega))
    clear hW9
    go_wp2_with fail
    refine bodyPost_ret (results_c13 rfl _ _ (w.heap.size + 2) _ rfl (run_loadVar_row _ (w.heap.size + 2) _ _ _ (0, 0) _ HK9 Tryz.underlying38 rfl (by kernel_rfl))) rfl ?_
    exact ApF.err HAP.out HB9.out
theorem refApply_any (sv dv av : Value) (s : St) (x : Ed) (w : World) (hs : UR w sv s.ru) (hd : JR w dv x.dr) (ha : RuR w av x.ad) (hsl : s.ru.length ≤ 900) (hal : x.ad.length ≤ 900) :
    Calls Tryz.prog 20 #[.agg #[sv, .int .i64 s.lo, .int .i64 s.ne, .int .i64 s.ma], .agg #[dv, av, .int .i64 x.lo, .int .i64 x.ne, .int .i64 x.ma]] w (ApP s x w) := (refApplyF_any sv dv av s x w hs hd ha hsl hal).mono fun _ _ h => h.p
end Go.Proofs.YtilbffgpniomcaaGreatDoor
