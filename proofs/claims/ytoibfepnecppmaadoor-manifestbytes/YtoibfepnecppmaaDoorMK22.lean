/- MY7x, joined. -/
import Derived.Test.YtoibfepnecppmaaDoorMK21
/- ManifestBytes: the walk (written by mkmy7.py). -/
namespace Go.Proofs.YtoibfepnecppmaaDoor
open Go.RowKit Go.Shelf

theorem edR_lens {b : List UInt8} : ((edR b).getD edZ).ad.length ≤ 64 := by
  cases h : edR b with
  | none => exact Nat.zero_le _
  | some x =>
    have hw := edW_rd h
    unfold edW at hw
    split at hw
    · cases hw
    · simp only [Option.getD_some]; omega
set_option maxRecDepth 100000 in
set_option maxHeartbeats 8000000 in
theorem bytes13_walk (xv : Value) (x : Ed) (bv : Value) (b : List UInt8) (w : World) (hx : EdI w xv x) (hb : Reads w bv b) :
    Calls Tryd.prog 3 #[xv, bv] w fun e w' => e = .returned (.bool true) ∧ Below w.heap.size w w' := by
  obtain ⟨dv, av, rfl, hd, ha⟩ := hx.e
  have hdz : ∀ n c, dv = .slice none n c → c = 0 := fun n c e => hx.z _ _ _ _ _ n c rfl e
  obtain ⟨da, dc, rfl, hm1⟩ := hd.form
  obtain ⟨aa, ac, rfl, hm2⟩ := ha.r.form
  obtain ⟨ba, bc', rfl, hm3⟩ := hb.form
  unfold maxLen at hm1 hm2 hm3
  have HSm : Hid (x.dr.length ≤ 1000000 → x.ad.length ≤ 1000000 → smI x) := hx.sm
  have HR : Hid (Reads w (.slice ba b.length bc') b) := hb
  have HE0 : Hid (EdR w (.slice da x.dr.length dc) (.slice aa x.ad.length ac) x) := ⟨hd, ha.r⟩
  have HDZ : Hid (∀ n c, (Value.slice da x.dr.length dc) = .slice none n c → c = 0) := hdz
  obtain ⟨DL, HDL⟩ : ∃ n, Hid (x.dr.length = n) := ⟨_, rfl⟩
  obtain ⟨AL, HAL⟩ : ∃ n, Hid (x.ad.length = n) := ⟨_, rfl⟩
  obtain ⟨N, HN⟩ : ∃ n, Hid (b.length = n) := ⟨_, rfl⟩
  rw [HDL.out, HAL.out] at HE0
  rw [HDL.out] at HDZ hm1
  rw [HAL.out] at hm2
  rw [HN.out] at HR hm3
  rw [HDL.out, HAL.out, HN.out]
  clear hx hd ha hb hdz
  have hX0 : (w.alloc (.cells #[.slice da DL dc, .slice aa AL ac, .int .i64 x.lo, .int .i64 x.ne, .int .i64 x.ma] 25)).heap[w.heap.size]? = some (.cells #[.slice da DL dc, .slice aa AL ac, .int .i64 x.lo, .int .i64 x.ne, .int .i64 x.ma] 25) := heap_alloc_new _ _
  have HX0 : Hid ((w.alloc (.cells #[.slice da DL dc, .slice aa AL ac, .int .i64 x.lo, .int .i64 x.ne, .int .i64 x.ma] 25)).heap[w.heap.size]? = some (.cells #[.slice da DL dc, .slice aa AL ac, .int .i64 x.lo, .int .i64 x.ne, .int .i64 x.ma] 25)) := hX0
  have HB0 : Hid (Below w.heap.size w (w.alloc (.cells #[.slice da DL dc, .slice aa AL ac, .int .i64 x.lo, .int .i64 x.ne, .int .i64 x.ma] 25))) := (Below.refl _ _).alloc (Nat.le_refl _) _
  have HZ0 : Hid ((w.alloc (.cells #[.slice da DL dc, .slice aa AL ac, .int .i64 x.lo, .int .i64 x.ne, .int .i64 x.ma] 25)).heap.size = w.heap.size + 1) := by unfold Hid; simp
  obtain ⟨c0, c1, c2, c3, c4⟩ := five hX0
  clear hX0
  by_cases h1 : 100 < AL
  · have h1' : (100 : Int) < (AL : Int) := by omega
    go_enter Tryd.func3, Tryd.ntmps3
    go_wp2_with fail
    refine (alive13_any _).mono ?_
    rintro e w9 ⟨rfl, hb9⟩
    have HB9 : Hid (Below w.heap.size w w9) := HB0.out.trans (hb9.mono HB0.out.size)
    clear hb9
    go_wp2_with fail
    go_ret
    exact ⟨rfl, HB9.out⟩
  · have h1' : ¬ (100 : Int) < (AL : Int) := by omega
    by_cases h2 : 100 < DL
    · have h2' : (100 : Int) < (DL : Int) := by omega
      go_enter Tryd.func3, Tryd.ntmps3
      go_wp2_with fail
      refine (alive13_any _).mono ?_
      rintro e w9 ⟨rfl, hb9⟩
      have HB9 : Hid (Below w.heap.size w w9) := HB0.out.trans (hb9.mono HB0.out.size)
      clear hb9
      go_wp2_with fail
      go_ret
      exact ⟨rfl, HB9.out⟩
    · have h2' : ¬ (100 : Int) < (DL : Int) := by omega
      by_cases h3 : 2000 < N
      · have h3' : (2000 : Int) < (N : Int) := by omega
        go_enter Tryd.func3, Tryd.ntmps3
        go_wp2_with fail
        refine (alive13_any _).mono ?_
        rintro e w9 ⟨rfl, hb9⟩
        have HB9 : Hid (Below w.heap.size w w9) := HB0.out.trans (hb9.mono HB0.out.size)
        clear hb9
        go_wp2_with fail
        go_ret
        exact ⟨rfl, HB9.out⟩
      · have h3' : ¬ (2000 : Int) < (N : Int) := by omega
        have HS : Hid (smI x) := HSm.out (by rw [HDL.out]; omega) (by rw [HAL.out]; omega)
        obtain ⟨ps, Hps⟩ := hid_ex ((edW x).getD [])
        obtain ⟨C, HC⟩ := hid_ex (edE (edW x))
        obtain ⟨PL, HPL⟩ : ∃ n, Hid (ps.length = n) := ⟨_, rfl⟩
        have hC := write13_any _ _ x (w.alloc (.cells #[.slice da DL dc, .slice aa AL ac, .int .i64 x.lo, .int .i64 x.ne, .int .i64 x.ma] 25)) (HE0.out.below HB0.out) HS.out
        rw [← Hps.out, ← HC.out] at hC
        have HCw : Hid (Calls Tryd.prog 5 #[.agg #[.slice da DL dc, .slice aa AL ac, .int .i64 x.lo, .int .i64 x.ne, .int .i64 x.ma]] (w.alloc (.cells #[.slice da DL dc, .slice aa AL ac, .int .i64 x.lo, .int .i64 x.ne, .int .i64 x.ma] 25)) fun e w' => ∃ v, e = .returned (.tuple #[v, .int .i64 C]) ∧ Own w' (w.alloc (.cells #[.slice da DL dc, .slice aa AL ac, .int .i64 x.lo, .int .i64 x.ne, .int .i64 x.ma] 25)).heap.size v ps ∧ Below (w.alloc (.cells #[.slice da DL dc, .slice aa AL ac, .int .i64 x.lo, .int .i64 x.ne, .int .i64 x.ma] 25)).heap.size (w.alloc (.cells #[.slice da DL dc, .slice aa AL ac, .int .i64 x.lo, .int .i64 x.ne, .int .i64 x.ma] 25)) w') := hC
        clear hC
        go_enter Tryd.func3, Tryd.ntmps3
        go_wp2_with fail
        refine HCw.out.mono ?_
        rintro e w1 ⟨v1, rfl, ho1, hb1⟩
        have HO1 : Hid (Own w1 w.heap.size v1 ps) := ho1.mono HB0.out.size
        have HB1 : Hid (Below w.heap.size w w1) := HB0.out.trans (hb1.mono HB0.out.size)
        have hz1 : w.heap.size + 1 ≤ w1.heap.size := by have := hb1.size; have := HZ0.out; omega
        have HX1 : Hid (w1.heap[w.heap.size]? = some (.cells #[.slice da DL dc, .slice aa AL ac, .int .i64 x.lo, .int .i64 x.ne, .int .i64 x.ma] 25)) := (hb1.block _ (by have := HZ0.out; omega)).trans HX0.out
        obtain ⟨pa, pc, hv1, _⟩ := ho1.form
        rw [HPL.out] at hv1
        subst hv1
        clear ho1 hb1 HCw c0 c1 c2 c3 c4 HX0 HB0 HZ0
        obtain ⟨c0, c1, c2, c3, c4⟩ := five HX1.out
        go_wp2_with fail
        refine (asEdit_any _ _ x w1 (HE0.out.below HB1.out) (by rw [HAL.out]; omega)).mono ?_
        rintro e w2 ⟨v2, rfl, he2, hb2⟩
        have HB2 : Hid (Below w.heap.size w w2) := HB1.out.trans (hb2.mono HB1.out.size)
        have HO2 : Hid (Own w2 w.heap.size (.slice pa PL pc) ps) := HO1.out.below hb2
        obtain ⟨ea, ec, hv2, _⟩ := he2.a.form
        rw [HAL.out] at hv2
        subst hv2
        have HE2 : Hid (EdR w2 (.slice da DL dc) (.slice ea AL ec) x) := he2
        clear hb2 he2 c0 c1 c2 c3 c4
        have hC2 := refWrite13_any _ _ x w2 HE2.out HDZ.out HS.out
        rw [← Hps.out, ← HC.out] at hC2
        have HC2 : Hid (Calls Tryd.prog 6 #[.agg #[.slice da DL dc, .slice ea AL ec, .int .i64 x.lo, .int .i64 x.ne, .int .i64 x.ma]] w2 fun e w' => ∃ v, e = .returned (.tuple #[v, .int .i64 C]) ∧ Own w' w2.heap.size v ps ∧ Below w2.heap.size w2 w') := hC2
        clear hC2
        go_wp2_with fail
        refine HC2.out.mono ?_
        rintro e w3 ⟨v3, rfl, ho3, hb3⟩
        have HB3 : Hid (Below w.heap.size w w3) := HB2.out.trans (hb3.mono HB2.out.size)
        have HO3 : Hid (Own w3 w.heap.size (.slice pa PL pc) ps) := HO2.out.below hb3
        obtain ⟨qa, qc, hv3, _⟩ := ho3.form
        rw [HPL.out] at hv3
        subst hv3
        have HQ3 : Hid (Own w3 w2.heap.size (.slice qa PL qc) ps) := ho3
        clear ho3 hb3 HC2
        obtain ⟨y, Hy⟩ := hid_ex ((edR b).getD edZ)
        obtain ⟨D, HD⟩ := hid_ex (edE (edR b))
        have HYl : Hid (y.ad.length ≤ 64) := by unfold Hid; rw [Hy.out]; exact edR_lens
        obtain ⟨DL1, HDL1⟩ : ∃ n, Hid (y.dr.length = n) := ⟨_, rfl⟩
        obtain ⟨AL1, HAL1⟩ : ∃ n, Hid (y.ad.length = n) := ⟨_, rfl⟩
        go_wp2_with fail
        refine (read13_any _ b w3 (HR.out.below HB3.out)).mono ?_
        rintro e w4 ⟨dv4, av4, hv4, he4, hb4⟩
        rw [← Hy.out, ← HD.out] at hv4
        rw [← Hy.out] at he4
        obtain ⟨da1, dc1, rfl, _⟩ := he4.d.form
        obtain ⟨aa1, ac1, rfl, _⟩ := he4.a.form
        rw [HDL1.out, HAL1.out] at hv4 he4
        subst hv4
        have HB4 : Hid (Below w.heap.size w w4) := HB3.out.trans (hb4.mono HB3.out.size)
        have HO4 : Hid (Own w4 w.heap.size (.slice pa PL pc) ps) := HO3.out.below hb4
        have HQ4 : Hid (Own w4 w2.heap.size (.slice qa PL qc) ps) := HQ3.out.below hb4
        have HE4 : Hid (EdR w4 (.slice da1 DL1 dc1) (.slice aa1 AL1 ac1) y) := he4
        clear hb4 he4
        have HOn1 : Hid (([.slice da1 DL1 dc1, .slice aa1 AL1 ac1, .int .i64 y.lo, .int .i64 y.ne, .int .i64 y.ma] : List Value).toArray.all (·.oneCell') = true) := by unfold Hid; kernel_rfl
        go_wp2_with (refine stop_store 25 _ _ rfl ?_)
        refine Stop.of ?_
        refine wpList_storeN rfl _ _ _ rfl w4.heap.size 0 [.slice da1 DL1 dc1, .slice aa1 AL1 ac1, .int .i64 y.lo, .int .i64 y.ne, .int .i64 y.ma] rfl rfl _ _ (heap_alloc_new _ _) (by simp) (by kernel_rfl) HOn1.out ?_
        intro w5 hw5
        obtain ⟨hb5, hx5, hl5⟩ := stW_nw hw5 (by simp)
        obtain ⟨P1, HP1⟩ := hid_ex w4.heap.size
        rw [← HP1.out] at hx5 hl5 ⊢
        have HB5 : Hid (Below w.heap.size w w5) := HB4.out.trans (hb5.mono HB4.out.size)
        have HO5 : Hid (Own w5 w.heap.size (.slice pa PL pc) ps) := HO4.out.below hb5
        have HQ5 : Hid (Own w5 w2.heap.size (.slice qa PL qc) ps) := HQ4.out.below hb5
        have HE5 : Hid (EdR w5 (.slice da1 DL1 dc1) (.slice aa1 AL1 ac1) y) := HE4.out.below hb5
        have HY5 : Hid (w5.heap[P1]? = some (.cells #[.slice da1 DL1 dc1, .slice aa1 AL1 ac1, .int .i64 y.lo, .int .i64 y.ne, .int .i64 y.ma] 25)) := hx5
        clear hw5 hb5 hx5 HP1
        go_wp2_with fail
        refine (refRead13_any _ b w5 (HR.out.below HB5.out) (by rw [HN.out]; omega)).mono ?_
        rintro e w6 ⟨dv6, av6, hv6, he6, hb6⟩
        rw [← Hy.out, ← HD.out] at hv6
        rw [← Hy.out] at he6
        obtain ⟨da2, dc2, rfl, _⟩ := he6.d.form
        obtain ⟨aa2, ac2, rfl, _⟩ := he6.a.form
        rw [HDL1.out, HAL1.out] at hv6 he6
        subst hv6
        have HB6 : Hid (Below w.heap.size w w6) := HB5.out.trans (hb6.mono HB5.out.size)
        have HO6 : Hid (Own w6 w.heap.size (.slice pa PL pc) ps) := HO5.out.below hb6
        have HQ6 : Hid (Own w6 w2.heap.size (.slice qa PL qc) ps) := HQ5.out.below hb6
        have HE6 : Hid (EdR w6 (.slice da1 DL1 dc1) (.slice aa1 AL1 ac1) y) := HE5.out.below hb6
        have HF6 : Hid (EdR w6 (.slice da2 DL1 dc2) (.slice aa2 AL1 ac2) y) := he6
        have HY6 : Hid (w6.heap[P1]? = some (.cells #[.slice da1 DL1 dc1, .slice aa1 AL1 ac1, .int .i64 y.lo, .int .i64 y.ne, .int .i64 y.ma] 25)) := (hb6.block _ hl5).trans HY5.out
        have hl6 : P1 < w6.heap.size := (Array.getElem?_eq_some_iff.1 HY6.out).1
        clear hb6 he6
        have HOn2 : Hid (([.slice da2 DL1 dc2, .slice aa2 AL1 ac2, .int .i64 y.lo, .int .i64 y.ne, .int .i64 y.ma] : List Value).toArray.all (·.oneCell') = true) := by unfold Hid; kernel_rfl
        go_wp2_with (refine stop_store 34 _ _ rfl ?_)
        refine Stop.of ?_
        refine wpList_storeN rfl _ _ _ rfl w6.heap.size 0 [.slice da2 DL1 dc2, .slice aa2 AL1 ac2, .int .i64 y.lo, .int .i64 y.ne, .int .i64 y.ma] rfl rfl _ _ (heap_alloc_new _ _) (by simp) (by kernel_rfl) HOn2.out ?_
        intro w7 hw7
        obtain ⟨hb7, hx7, hl7⟩ := stW_nw hw7 (by simp)
        obtain ⟨P2, HP2⟩ := hid_ex w6.heap.size
        rw [← HP2.out] at hx7 hl7 hl6 ⊢
        obtain ⟨u0, HU0⟩ := hid_ex w7.drew
        have hbu : Below w6.heap.size w6 u0 := by rw [HU0.out]; exact hb7.drew
        have HBu0 : Hid (Below w.heap.size w u0) := HB6.out.trans (hbu.mono HB6.out.size)
        have HOu0 : Hid (Own u0 w.heap.size (.slice pa PL pc) ps) := HO6.out.below hbu
        have HQu0 : Hid (Own u0 w2.heap.size (.slice qa PL qc) ps) := HQ6.out.below hbu
        have HEu0 : Hid (EdR u0 (.slice da1 DL1 dc1) (.slice aa1 AL1 ac1) y) := HE6.out.below hbu
        have HFu0 : Hid (EdR u0 (.slice da2 DL1 dc2) (.slice aa2 AL1 ac2) y) := HF6.out.below hbu
        have HYu0 : Hid (u0.heap[P1]? = some (.cells #[.slice da1 DL1 dc1, .slice aa1 AL1 ac1, .int .i64 y.lo, .int .i64 y.ne, .int .i64 y.ma] 25)) := (hbu.block _ (by rw [← HP2.out]; exact hl6)).trans HY6.out
        have HRu0 : Hid (u0.heap[P2]? = some (.cells #[.slice da2 DL1 dc2, .slice aa2 AL1 ac2, .int .i64 y.lo, .int .i64 y.ne, .int .i64 y.ma] 34)) := by unfold Hid; rw [HU0.out]; exact hx7
        have HGu0 : Hid ((u0.cell? ⟨P1, 0, none⟩ = some (.slice da1 DL1 dc1) ∧ u0.cell? ⟨P1, 1, none⟩ = some (.slice aa1 AL1 ac1) ∧ u0.cell? ⟨P1, 2, none⟩ = some (.int .i64 y.lo) ∧ u0.cell? ⟨P1, 3, none⟩ = some (.int .i64 y.ne) ∧ u0.cell? ⟨P1, 4, none⟩ = some (.int .i64 y.ma)) ∧ (u0.cell? ⟨P2, 0, none⟩ = some (.slice da2 DL1 dc2) ∧ u0.cell? ⟨P2, 1, none⟩ = some (.slice aa2 AL1 ac2) ∧ u0.cell? ⟨P2, 2, none⟩ = some (.int .i64 y.lo) ∧ u0.cell? ⟨P2, 3, none⟩ = some (.int .i64 y.ne) ∧ u0.cell? ⟨P2, 4, none⟩ = some (.int .i64 y.ma)) ∧ (convert 26 9 (.slice pa PL pc)).run Tryd.prog u0 = .ok (.string ⟨ps.toArray⟩) u0 ∧ (convert 26 9 (.slice qa PL qc)).run Tryd.prog u0 = .ok (.string ⟨ps.toArray⟩) u0) := ⟨five HYu0.out, five HRu0.out, (by have := reads_text HOu0.out.reads; exact this), (by have := reads_text HQu0.out.reads; exact this)⟩
        have hlu0 : P1 < u0.heap.size ∧ P2 < u0.heap.size := ⟨(Array.getElem?_eq_some_iff.1 HYu0.out).1, (Array.getElem?_eq_some_iff.1 HRu0.out).1⟩
        clear hw7 hb7 hx7 hbu HP2
        go_wp2_with fail
        refine wp_region_noPanic ?_
        refine wp_region_held_drew (S := fun w' => (w'.cell? ⟨P1, 0, none⟩ = some (.slice da1 DL1 dc1) ∧ w'.cell? ⟨P1, 1, none⟩ = some (.slice aa1 AL1 ac1) ∧ w'.cell? ⟨P1, 2, none⟩ = some (.int .i64 y.lo) ∧ w'.cell? ⟨P1, 3, none⟩ = some (.int .i64 y.ne) ∧ w'.cell? ⟨P1, 4, none⟩ = some (.int .i64 y.ma)) ∧ (w'.cell? ⟨P2, 0, none⟩ = some (.slice da2 DL1 dc2) ∧ w'.cell? ⟨P2, 1, none⟩ = some (.slice aa2 AL1 ac2) ∧ w'.cell? ⟨P2, 2, none⟩ = some (.int .i64 y.lo) ∧ w'.cell? ⟨P2, 3, none⟩ = some (.int .i64 y.ne) ∧ w'.cell? ⟨P2, 4, none⟩ = some (.int .i64 y.ma)) ∧ (convert 26 9 (.slice pa PL pc)).run Tryd.prog w' = .ok (.string ⟨ps.toArray⟩) w' ∧ (convert 26 9 (.slice qa PL qc)).run Tryd.prog w' = .ok (.string ⟨ps.toArray⟩) w') (by kernel_rfl) ?_ (fun hHeld => ?_)
        · (rw [← HU0.out]; exact HGu0.out)
        rw [← HU0.out]
        clear HU0
        refine wpAnyH_ready (rs := [0]) (by kernel_rfl) (by simp) ?_
        refine AllReadyH.cons (o := _) rfl (fun K hK => ?_) AllReadyH.nil
        go_simp
        refine (alive13_any _).mono ?_
        rintro e u1 ⟨rfl, hb1⟩
        have HBu1 : Hid (Below w.heap.size w u1) := HBu0.out.trans (hb1.mono HBu0.out.size)
        have HOu1 : Hid (Own u1 w.heap.size (.slice pa PL pc) ps) := HOu0.out.below hb1
        have HQu1 : Hid (Own u1 w2.heap.size (.slice qa PL qc) ps) := HQu0.out.below hb1
        have HEu1 : Hid (EdR u1 (.slice da1 DL1 dc1) (.slice aa1 AL1 ac1) y) := HEu0.out.below hb1
        have HFu1 : Hid (EdR u1 (.slice da2 DL1 dc2) (.slice aa2 AL1 ac2) y) := HFu0.out.below hb1
        have HYu1 : Hid (u1.heap[P1]? = some (.cells #[.slice da1 DL1 dc1, .slice aa1 AL1 ac1, .int .i64 y.lo, .int .i64 y.ne, .int .i64 y.ma] 25)) := (hb1.block _ hlu0.1).trans HYu0.out
        have HRu1 : Hid (u1.heap[P2]? = some (.cells #[.slice da2 DL1 dc2, .slice aa2 AL1 ac2, .int .i64 y.lo, .int .i64 y.ne, .int .i64 y.ma] 34)) := (hb1.block _ hlu0.2).trans HRu0.out
        have HGu1 : Hid ((u1.cell? ⟨P1, 0, none⟩ = some (.slice da1 DL1 dc1) ∧ u1.cell? ⟨P1, 1, none⟩ = some (.slice aa1 AL1 ac1) ∧ u1.cell? ⟨P1, 2, none⟩ = some (.int .i64 y.lo) ∧ u1.cell? ⟨P1, 3, none⟩ = some (.int .i64 y.ne) ∧ u1.cell? ⟨P1, 4, none⟩ = some (.int .i64 y.ma)) ∧ (u1.cell? ⟨P2, 0, none⟩ = some (.slice da2 DL1 dc2) ∧ u1.cell? ⟨P2, 1, none⟩ = some (.slice aa2 AL1 ac2) ∧ u1.cell? ⟨P2, 2, none⟩ = some (.int .i64 y.lo) ∧ u1.cell? ⟨P2, 3, none⟩ = some (.int .i64 y.ne) ∧ u1.cell? ⟨P2, 4, none⟩ = some (.int .i64 y.ma)) ∧ (convert 26 9 (.slice pa PL pc)).run Tryd.prog u1 = .ok (.string ⟨ps.toArray⟩) u1 ∧ (convert 26 9 (.slice qa PL qc)).run Tryd.prog u1 = .ok (.string ⟨ps.toArray⟩) u1) := ⟨five HYu1.out, five HRu1.out, reads_text HOu1.out.reads, reads_text HQu1.out.reads⟩
        have hlu1 : P1 < u1.heap.size ∧ P2 < u1.heap.size := ⟨(Array.getElem?_eq_some_iff.1 HYu1.out).1, (Array.getElem?_eq_some_iff.1 HRu1.out).1⟩
        clear hb1
        go_simp
        refine hK.out _ _ ?_ (fun hHeld => ?_)
        · exact HGu1.out
        clear hK K
        refine wpAnyH_take (i := 1) (v := .bool true) rfl (by kernel_rfl) (by kernel_rfl) (by kernel_rfl) (fun _ _ _ h => h) (Or.inl ⟨by rfl, ?_⟩) (by assumption) ?_
        · (intro w1 hSw; (try dsimp only at hSw); go_simp)
        simp only [List.getElem_toArray, List.getElem_cons_succ, List.getElem_cons_zero, Act.put, List.setIfInBounds_toArray, List.set_cons_zero, List.set_cons_succ]
        refine wpAnyH_take (i := 2) (v := .slice pa PL pc) rfl (by kernel_rfl) (by kernel_rfl) (by kernel_rfl) (fun _ _ _ h => h) (Or.inl ⟨by rfl, ?_⟩) (by assumption) ?_
        · (intro w1 hSw; (try dsimp only at hSw); go_simp)
        simp only [List.getElem_toArray, List.getElem_cons_succ, List.getElem_cons_zero, Act.put, List.setIfInBounds_toArray, List.set_cons_zero, List.set_cons_succ]
        refine wpAnyH_take (i := 3) (v := .string ⟨ps.toArray⟩) rfl (by kernel_rfl) (by kernel_rfl) (by kernel_rfl) (fun _ _ _ h => h) (Or.inl ⟨by rfl, ?_⟩) (by assumption) ?_
        · (intro w1 hSw; (try dsimp only at hSw); go_simp)
        simp only [List.getElem_toArray, List.getElem_cons_succ, List.getElem_cons_zero, Act.put, List.setIfInBounds_toArray, List.set_cons_zero, List.set_cons_succ]
        refine wpAnyH_take (i := 4) (v := .slice qa PL qc) rfl (by kernel_rfl) (by kernel_rfl) (by kernel_rfl) (fun _ _ _ h => h) (Or.inl ⟨by rfl, ?_⟩) (by assumption) ?_
        · (intro w1 hSw; (try dsimp only at hSw); go_simp)
        simp only [List.getElem_toArray, List.getElem_cons_succ, List.getElem_cons_zero, Act.put, List.setIfInBounds_toArray, List.set_cons_zero, List.set_cons_succ]
        refine wpAnyH_take (i := 5) (v := .string ⟨ps.toArray⟩) rfl (by kernel_rfl) (by kernel_rfl) (by kernel_rfl) (fun _ _ _ h => h) (Or.inl ⟨by rfl, ?_⟩) (by assumption) ?_
        · (intro w1 hSw; (try dsimp only at hSw); go_simp)
        simp only [List.getElem_toArray, List.getElem_cons_succ, List.getElem_cons_zero, Act.put, List.setIfInBounds_toArray, List.set_cons_zero, List.set_cons_succ]
        refine wpAnyH_take (i := 6) (v := .bool true) rfl (by kernel_rfl) (by kernel_rfl) (by kernel_rfl) (fun _ _ _ h => h) (Or.inl ⟨by rfl, ?_⟩) (by assumption) ?_
        · (intro w1 hSw; (try dsimp only at hSw); go_simp)
        simp only [List.getElem_toArray, List.getElem_cons_succ, List.getElem_cons_zero, Act.put, List.setIfInBounds_toArray, List.set_cons_zero, List.set_cons_succ]
        refine wpAnyH_take (i := 7) (v := .bool true) rfl (by kernel_rfl) (by kernel_rfl) (by kernel_rfl) (fun _ _ _ h => h) (Or.inl ⟨by rfl, ?_⟩) (by assumption) ?_
        · (intro w1 hSw; (try dsimp only at hSw); go_simp)
        simp only [List.getElem_toArray, List.getElem_cons_succ, List.getElem_cons_zero, Act.put, List.setIfInBounds_toArray, List.set_cons_zero, List.set_cons_succ]
        refine wpAnyH_take (i := 8) (v := .bool true) rfl (by kernel_rfl) (by kernel_rfl) (by kernel_rfl) (fun _ _ _ h => h) (Or.inl ⟨by rfl, ?_⟩) (by assumption) ?_
        · (intro w1 hSw; (try dsimp only at hSw); go_simp)
        simp only [List.getElem_toArray, List.getElem_cons_succ, List.getElem_cons_zero, Act.put, List.setIfInBounds_toArray, List.set_cons_zero, List.set_cons_succ]
        refine wpAnyH_take (i := 9) (v := .int .i64 C) rfl (by kernel_rfl) (by kernel_rfl) (by kernel_rfl) (fun _ _ _ h => h) (Or.inl ⟨by rfl, ?_⟩) (by assumption) ?_
        · (intro w1 hSw; (try dsimp only at hSw); go_simp)
        simp only [List.getElem_toArray, List.getElem_cons_succ, List.getElem_cons_zero, Act.put, List.setIfInBounds_toArray, List.set_cons_zero, List.set_cons_succ]
        refine wpAnyH_take (i := 10) (v := .int .i64 C) rfl (by kernel_rfl) (by kernel_rfl) (by kernel_rfl) (fun _ _ _ h => h) (Or.inl ⟨by rfl, ?_⟩) (by assumption) ?_
        · (intro w1 hSw; (try dsimp only at hSw); go_simp)
        simp only [List.getElem_toArray, List.getElem_cons_succ, List.getElem_cons_zero, Act.put, List.setIfInBounds_toArray, List.set_cons_zero, List.set_cons_succ]
        refine wpAnyH_take (i := 11) (v := .bool true) rfl (by kernel_rfl) (by kernel_rfl) (by kernel_rfl) (fun _ _ _ h => h) (Or.inl ⟨by rfl, ?_⟩) (by assumption) ?_
        · (intro w1 hSw; (try dsimp only at hSw); go_simp)
        simp only [List.getElem_toArray, List.getElem_cons_succ, List.getElem_cons_zero, Act.put, List.setIfInBounds_toArray, List.set_cons_zero, List.set_cons_succ]
        refine wpAnyH_take (i := 12) (v := .bool true) rfl (by kernel_rfl) (by kernel_rfl) (by kernel_rfl) (fun _ _ _ h => h) (Or.inl ⟨by rfl, ?_⟩) (by assumption) ?_
        · (intro w1 hSw; (try dsimp only at hSw); go_simp)
        simp only [List.getElem_toArray, List.getElem_cons_succ, List.getElem_cons_zero, Act.put, List.setIfInBounds_toArray, List.set_cons_zero, List.set_cons_succ]
        refine wpAnyH_take (i := 13) (v := .bool true) rfl (by kernel_rfl) (by kernel_rfl) (by kernel_rfl) (fun _ _ _ h => h) (Or.inl ⟨by rfl, ?_⟩) (by assumption) ?_
        · (intro w1 hSw; (try dsimp only at hSw); go_simp)
        simp only [List.getElem_toArray, List.getElem_cons_succ, List.getElem_cons_zero, Act.put, List.setIfInBounds_toArray, List.set_cons_zero, List.set_cons_succ]
        refine wpAnyH_take (i := 14) (v := .agg #[.slice da1 DL1 dc1, .slice aa1 AL1 ac1, .int .i64 y.lo, .int .i64 y.ne, .int .i64 y.ma]) rfl (by kernel_rfl) (by kernel_rfl) (by kernel_rfl) (fun _ _ _ h => h) (Or.inl ⟨by rfl, ?_⟩) (by assumption) ?_
        · (intro w1 hSw; (try dsimp only at hSw); go_simp)
        simp only [List.getElem_toArray, List.getElem_cons_succ, List.getElem_cons_zero, Act.put, List.setIfInBounds_toArray, List.set_cons_zero, List.set_cons_succ]
        refine wpAnyH_take (i := 16) (v := .agg #[.slice da2 DL1 dc2, .slice aa2 AL1 ac2, .int .i64 y.lo, .int .i64 y.ne, .int .i64 y.ma]) rfl (by kernel_rfl) (by kernel_rfl) (by kernel_rfl) (fun _ _ _ h => h) (Or.inl ⟨by rfl, ?_⟩) (by assumption) ?_
        · (intro w1 hSw; (try dsimp only at hSw); go_simp)
        simp only [List.getElem_toArray, List.getElem_cons_succ, List.getElem_cons_zero, Act.put, List.setIfInBounds_toArray, List.set_cons_zero, List.set_cons_succ]
        refine wpAnyH_ready (rs := [15]) (by kernel_rfl) (by simp) ?_
        refine AllReadyH.cons (o := _) rfl (fun K hK => ?_) AllReadyH.nil
        go_simp
        refine (asEdit_any _ _ y u1 HEu1.out (by have := HYl.out; omega)).mono ?_
        rintro e u2 ⟨v2, rfl, he2, hb2⟩
        have HBu2 : Hid (Below w.heap.size w u2) := HBu1.out.trans (hb2.mono HBu1.out.size)
        have HOu2 : Hid (Own u2 w.heap.size (.slice pa PL pc) ps) := HOu1.out.below hb2
        have HQu2 : Hid (Own u2 w2.heap.size (.slice qa PL qc) ps) := HQu1.out.below hb2
        have HFu2 : Hid (EdR u2 (.slice da2 DL1 dc2) (.slice aa2 AL1 ac2) y) := HFu1.out.below hb2
        have HYu2 : Hid (u2.heap[P1]? = some (.cells #[.slice da1 DL1 dc1, .slice aa1 AL1 ac1, .int .i64 y.lo, .int .i64 y.ne, .int .i64 y.ma] 25)) := (hb2.block _ hlu1.1).trans HYu1.out
        have HRu2 : Hid (u2.heap[P2]? = some (.cells #[.slice da2 DL1 dc2, .slice aa2 AL1 ac2, .int .i64 y.lo, .int .i64 y.ne, .int .i64 y.ma] 34)) := (hb2.block _ hlu1.2).trans HRu1.out
        have HGu2 : Hid ((u2.cell? ⟨P1, 0, none⟩ = some (.slice da1 DL1 dc1) ∧ u2.cell? ⟨P1, 1, none⟩ = some (.slice aa1 AL1 ac1) ∧ u2.cell? ⟨P1, 2, none⟩ = some (.int .i64 y.lo) ∧ u2.cell? ⟨P1, 3, none⟩ = some (.int .i64 y.ne) ∧ u2.cell? ⟨P1, 4, none⟩ = some (.int .i64 y.ma)) ∧ (u2.cell? ⟨P2, 0, none⟩ = some (.slice da2 DL1 dc2) ∧ u2.cell? ⟨P2, 1, none⟩ = some (.slice aa2 AL1 ac2) ∧ u2.cell? ⟨P2, 2, none⟩ = some (.int .i64 y.lo) ∧ u2.cell? ⟨P2, 3, none⟩ = some (.int .i64 y.ne) ∧ u2.cell? ⟨P2, 4, none⟩ = some (.int .i64 y.ma)) ∧ (convert 26 9 (.slice pa PL pc)).run Tryd.prog u2 = .ok (.string ⟨ps.toArray⟩) u2 ∧ (convert 26 9 (.slice qa PL qc)).run Tryd.prog u2 = .ok (.string ⟨ps.toArray⟩) u2) := ⟨five HYu2.out, five HRu2.out, reads_text HOu2.out.reads, reads_text HQu2.out.reads⟩
        have hlu2 : P1 < u2.heap.size ∧ P2 < u2.heap.size := ⟨(Array.getElem?_eq_some_iff.1 HYu2.out).1, (Array.getElem?_eq_some_iff.1 HRu2.out).1⟩
        obtain ⟨ga, gc, hv2, _⟩ := he2.a.form
        rw [HAL1.out] at hv2
        subst hv2
        have HVu2 : Hid (EdR u2 (.slice da1 DL1 dc1) (.slice ga AL1 gc) y) := he2
        clear hb2 he2
        go_simp
        refine hK.out _ _ ?_ (fun hHeld => ?_)
        · exact HGu2.out
        clear hK K
        refine wpAnyH_ready (rs := [17]) (by kernel_rfl) (by simp) ?_
        refine AllReadyH.cons (o := _) rfl (fun K hK => ?_) AllReadyH.nil
        go_simp
        refine (sameEdit_true _ _ _ _ y u2 HVu2.out HFu2.out).mono ?_
        rintro e u3 ⟨rfl, hb3⟩
        have HBu3 : Hid (Below w.heap.size w u3) := HBu2.out.trans (hb3.mono HBu2.out.size)
        have HGu3 : Hid ((u3.cell? ⟨P1, 0, none⟩ = some (.slice da1 DL1 dc1) ∧ u3.cell? ⟨P1, 1, none⟩ = some (.slice aa1 AL1 ac1) ∧ u3.cell? ⟨P1, 2, none⟩ = some (.int .i64 y.lo) ∧ u3.cell? ⟨P1, 3, none⟩ = some (.int .i64 y.ne) ∧ u3.cell? ⟨P1, 4, none⟩ = some (.int .i64 y.ma)) ∧ (u3.cell? ⟨P2, 0, none⟩ = some (.slice da2 DL1 dc2) ∧ u3.cell? ⟨P2, 1, none⟩ = some (.slice aa2 AL1 ac2) ∧ u3.cell? ⟨P2, 2, none⟩ = some (.int .i64 y.lo) ∧ u3.cell? ⟨P2, 3, none⟩ = some (.int .i64 y.ne) ∧ u3.cell? ⟨P2, 4, none⟩ = some (.int .i64 y.ma)) ∧ (convert 26 9 (.slice pa PL pc)).run Tryd.prog u3 = .ok (.string ⟨ps.toArray⟩) u3 ∧ (convert 26 9 (.slice qa PL qc)).run Tryd.prog u3 = .ok (.string ⟨ps.toArray⟩) u3) := ⟨five ((hb3.block _ hlu2.1).trans HYu2.out), five ((hb3.block _ hlu2.2).trans HRu2.out), reads_text (HOu2.out.below hb3).reads, reads_text (HQu2.out.below hb3).reads⟩
        clear hb3
        go_simp
        refine hK.out _ _ ?_ (fun hHeld => ?_)
        · exact HGu3.out
        clear hK K
        refine wpAnyH_take (i := 18) (v := .bool true) rfl (by kernel_rfl) (by kernel_rfl) (by kernel_rfl) (fun _ _ _ h => h) (Or.inl ⟨by rfl, ?_⟩) (by assumption) ?_
        · (intro w1 hSw; (try dsimp only at hSw); go_simp)
        simp only [List.getElem_toArray, List.getElem_cons_succ, List.getElem_cons_zero, Act.put, List.setIfInBounds_toArray, List.set_cons_zero, List.set_cons_succ]
        refine wpAnyH_take (i := 19) (v := .bool true) rfl (by kernel_rfl) (by kernel_rfl) (by kernel_rfl) (fun _ _ _ h => h) (Or.inl ⟨by rfl, ?_⟩) (by assumption) ?_
        · (intro w1 hSw; (try dsimp only at hSw); go_simp)
        simp only [List.getElem_toArray, List.getElem_cons_succ, List.getElem_cons_zero, Act.put, List.setIfInBounds_toArray, List.set_cons_zero, List.set_cons_succ]
        refine wpAnyH_take (i := 20) (v := .int .i64 D) rfl (by kernel_rfl) (by kernel_rfl) (by kernel_rfl) (fun _ _ _ h => h) (Or.inl ⟨by rfl, ?_⟩) (by assumption) ?_
        · (intro w1 hSw; (try dsimp only at hSw); go_simp)
        simp only [List.getElem_toArray, List.getElem_cons_succ, List.getElem_cons_zero, Act.put, List.setIfInBounds_toArray, List.set_cons_zero, List.set_cons_succ]
        refine wpAnyH_take (i := 21) (v := .int .i64 D) rfl (by kernel_rfl) (by kernel_rfl) (by kernel_rfl) (fun _ _ _ h => h) (Or.inl ⟨by rfl, ?_⟩) (by assumption) ?_
        · (intro w1 hSw; (try dsimp only at hSw); go_simp)
        simp only [List.getElem_toArray, List.getElem_cons_succ, List.getElem_cons_zero, Act.put, List.setIfInBounds_toArray, List.set_cons_zero, List.set_cons_succ]
        refine wpAnyH_take (i := 22) (v := .bool true) rfl (by kernel_rfl) (by kernel_rfl) (by kernel_rfl) (fun _ _ _ h => h) (Or.inl ⟨by rfl, ?_⟩) (by assumption) ?_
        · (intro w1 hSw; (try dsimp only at hSw); go_simp)
        simp only [List.getElem_toArray, List.getElem_cons_succ, List.getElem_cons_zero, Act.put, List.setIfInBounds_toArray, List.set_cons_zero, List.set_cons_succ]
        refine wpAnyH_take (i := 23) (v := .bool true) rfl (by kernel_rfl) (by kernel_rfl) (by kernel_rfl) (fun _ _ _ h => h) (Or.inl ⟨by rfl, ?_⟩) (by assumption) ?_
        · (intro w1 hSw; (try dsimp only at hSw); go_simp)
        simp only [List.getElem_toArray, List.getElem_cons_succ, List.getElem_cons_zero, Act.put, List.setIfInBounds_toArray, List.set_cons_zero, List.set_cons_succ]
        refine wpAnyH_ready (rs := [24]) (by kernel_rfl) (by simp) ?_
        refine AllReadyH.cons (o := _) rfl (fun K hK => ?_) AllReadyH.nil
        go_simp
        refine hK.out _ _ ?_ (fun hHeld => ?_)
        · exact HGu3.out
        clear hK K
        refine wpAnyH_done (by kernel_rfl) ?_ _
        refine NoPanic.normal ?_
        go_wp2_with fail
        go_ret
        exact ⟨rfl, HBu3.out⟩
end Go.Proofs.YtoibfepnecppmaaDoor
