/- MFx, joined. -/
import Derived.Test.YtlgomecaeljfnaaDoorMB15
/- ManifestBack: the walk (written by mkmfx.py). -/
namespace Go.Proofs.YtlgomecaeljfnaaDoor
open Go.RowKit Go.Shelf

theorem sm_edZ : smI edZ := by unfold smI; decide
theorem edW_Z : edE (edW edZ) = 0 := by
  unfold edW
  rw [if_neg (by simp [edZ]), if_pos (by decide)]
  rfl
theorem edR_sm {b : List UInt8} {x : Ed} (h : edR b = some x) : smI x := by
  unfold edR at h
  cases h1 : nxN 64 b with
  | none => rw [h1] at h; cases h
  | some q =>
    obtain ⟨n, b1⟩ := q
    rw [h1] at h; simp only at h
    cases h2 : nxs n.toNat b1 with
    | none => rw [h2] at h; cases h
    | some q =>
      obtain ⟨ds, b2⟩ := q
      rw [h2] at h; simp only at h
      cases h3 : nxN 64 b2 with
      | none => rw [h3] at h; cases h
      | some q =>
        obtain ⟨m, b3⟩ := q
        rw [h3] at h; simp only at h
        cases h4 : nxs (3 * m.toNat) b3 with
        | none => rw [h4] at h; cases h
        | some q =>
          obtain ⟨rs, b4⟩ := q
          rw [h4] at h; simp only at h
          cases h5 : nxs 3 b4 with
          | none => rw [h5] at h; cases h
          | some q =>
            obtain ⟨t, b5⟩ := q
            rw [h5] at h; simp only at h
            by_cases h6 : b5 = []
            · rw [if_pos h6] at h
              simp only [Option.some.injEq] at h
              subst h6 h
              obtain ⟨a1, a2, a3⟩ := nx_inv h1
              obtain ⟨c1, c2, c3⟩ := nxs_inv _ h2
              obtain ⟨d1, d2, d3⟩ := nx_inv h3
              obtain ⟨e1, e2, e3⟩ := nxs_inv _ h4
              obtain ⟨f1, f2, f3⟩ := nxs_inv _ h5
              obtain ⟨lo, ne, ma, rfl⟩ := three_of f1
              obtain ⟨g1, g2⟩ := flat_ruN m.toNat rs e1
              intro v hv
              unfold nmE at hv
              simp only [g1, g2, c1] at hv
              rw [List.mem_cons, List.mem_append, List.mem_cons, List.mem_append] at hv
              rcases hv with rfl | hv | rfl | hv | hv
              · omega
              · exact (c2 v hv).2
              · omega
              · exact (e2 v hv).2
              · exact (f2 v hv).2
            · rw [if_neg h6] at h; cases h
set_option maxRecDepth 100000 in
set_option maxHeartbeats 8000000 in
theorem back13_walk (xv : Value) (x : Ed) (bv : Value) (b : List UInt8) (w : World) (hx : EdI w xv x) (hb : Reads w bv b) :
    Calls Tryd.prog 3 #[xv, bv] w fun e w' => e = .returned (.bool true) ∧ Below w.heap.size w w' := by
  obtain ⟨dv, av, rfl, hd, ha⟩ := hx.e
  obtain ⟨da, dc, rfl, hm1⟩ := hd.form
  obtain ⟨aa, ac, rfl, hm2⟩ := ha.r.form
  obtain ⟨ba, bc', rfl, hm3⟩ := hb.form
  unfold maxLen at hm1 hm2 hm3
  have HSm : Hid (x.dr.length ≤ 1000000 → x.ad.length ≤ 1000000 → smI x) := hx.sm
  have HR : Hid (Reads w (.slice ba b.length bc') b) := hb
  have HE0 : Hid (EdR w (.slice da x.dr.length dc) (.slice aa x.ad.length ac) x) := ⟨hd, ha.r⟩
  clear hx hd ha hb
  have hX0 : (w.alloc (.cells #[.slice da x.dr.length dc, .slice aa x.ad.length ac, .int .i64 x.lo, .int .i64 x.ne, .int .i64 x.ma] 25)).heap[w.heap.size]? = some (.cells #[.slice da x.dr.length dc, .slice aa x.ad.length ac, .int .i64 x.lo, .int .i64 x.ne, .int .i64 x.ma] 25) := heap_alloc_new _ _
  have HX0 : Hid ((w.alloc (.cells #[.slice da x.dr.length dc, .slice aa x.ad.length ac, .int .i64 x.lo, .int .i64 x.ne, .int .i64 x.ma] 25)).heap[w.heap.size]? = some (.cells #[.slice da x.dr.length dc, .slice aa x.ad.length ac, .int .i64 x.lo, .int .i64 x.ne, .int .i64 x.ma] 25)) := hX0
  have HB0 : Hid (Below w.heap.size w (w.alloc (.cells #[.slice da x.dr.length dc, .slice aa x.ad.length ac, .int .i64 x.lo, .int .i64 x.ne, .int .i64 x.ma] 25))) := (Below.refl _ _).alloc (Nat.le_refl _) _
  obtain ⟨c0, c1, c2, c3, c4⟩ := five hX0
  clear hX0
  by_cases h1 : 100 < x.ad.length
  · have h1' : (100 : Int) < (x.ad.length : Int) := by omega
    go_enter Tryd.func3, Tryd.ntmps3
    go_wp2_with fail
    refine (alive13_any _).mono ?_
    rintro e w9 ⟨rfl, hb9⟩
    have HB9 : Hid (Below w.heap.size w w9) := HB0.out.trans (hb9.mono HB0.out.size)
    clear hb9
    go_wp2_with fail
    go_ret
    exact ⟨rfl, HB9.out⟩
  · have h1' : ¬ (100 : Int) < (x.ad.length : Int) := by omega
    by_cases h2 : 100 < x.dr.length
    · have h2' : (100 : Int) < (x.dr.length : Int) := by omega
      go_enter Tryd.func3, Tryd.ntmps3
      go_wp2_with fail
      refine (alive13_any _).mono ?_
      rintro e w9 ⟨rfl, hb9⟩
      have HB9 : Hid (Below w.heap.size w w9) := HB0.out.trans (hb9.mono HB0.out.size)
      clear hb9
      go_wp2_with fail
      go_ret
      exact ⟨rfl, HB9.out⟩
    · have h2' : ¬ (100 : Int) < (x.dr.length : Int) := by omega
      by_cases h3 : 2000 < b.length
      · have h3' : (2000 : Int) < (b.length : Int) := by omega
        go_enter Tryd.func3, Tryd.ntmps3
        go_wp2_with fail
        refine (alive13_any _).mono ?_
        rintro e w9 ⟨rfl, hb9⟩
        have HB9 : Hid (Below w.heap.size w w9) := HB0.out.trans (hb9.mono HB0.out.size)
        clear hb9
        go_wp2_with fail
        go_ret
        exact ⟨rfl, HB9.out⟩
      · have h3' : ¬ (2000 : Int) < (b.length : Int) := by omega
        have HS : Hid (smI x) := HSm.out (by omega) (by omega)
        have hC := write13_any _ _ x (w.alloc (.cells #[.slice da x.dr.length dc, .slice aa x.ad.length ac, .int .i64 x.lo, .int .i64 x.ne, .int .i64 x.ma] 25)) (HE0.out.below HB0.out) HS.out
        cases hW : edW x with
        | none =>
          rw [hW] at hC
          have HC : Hid (Calls Tryd.prog 5 #[.agg #[.slice da x.dr.length dc, .slice aa x.ad.length ac, .int .i64 x.lo, .int .i64 x.ne, .int .i64 x.ma]] (w.alloc (.cells #[.slice da x.dr.length dc, .slice aa x.ad.length ac, .int .i64 x.lo, .int .i64 x.ne, .int .i64 x.ma] 25)) fun e w' => ∃ v, e = .returned (.tuple #[v, .int .i64 100]) ∧ Below w.heap.size w w') := hC.mono fun e w' ⟨v, h1, h2, h3⟩ => ⟨v, h1, HB0.out.trans (h3.mono HB0.out.size)⟩
          clear hC hW HX0 HSm
          go_enter Tryd.func3, Tryd.ntmps3
          go_wp2_with fail
          refine HC.out.mono ?_
          rintro e w1 ⟨v1, rfl, hb1⟩
          have HB1 : Hid (Below w.heap.size w w1) := hb1
          clear hb1 HC c0 c1 c2 c3 c4
          go_wp2_with fail
          refine (read13_any _ b w1 (HR.out.below HB1.out)).mono ?_
          rintro e w5 hp5
          cases hbR : edR b with
          | none =>
            obtain ⟨dv5, av5, hr5, he5, hb5⟩ := hp5
            rw [hbR] at hr5 he5
            subst hr5
            have HB5 : Hid (Below w.heap.size w w5) := HB1.out.trans (hb5.mono HB1.out.size)
            obtain ⟨da5, dc5, rfl, _⟩ := he5.d.form
            obtain ⟨aa5, ac5, rfl, _⟩ := he5.a.form
            have HE5 : Hid (EdR w5 (.slice da5 0 dc5) (.slice aa5 0 ac5) edZ) := he5
            clear he5 hb5 hbR
            have HOne : Hid (([.slice da5 0 dc5, .slice aa5 0 ac5, .int .i64 0, .int .i64 0, .int .i64 0] : List Value).toArray.all (·.oneCell') = true) := by unfold Hid; kernel_rfl
            go_wp2_with (refine stop_store 25 _ _ rfl ?_)
            refine Stop.of ?_
            refine wpList_storeN rfl _ _ _ rfl w5.heap.size 0 [.slice da5 0 dc5, .slice aa5 0 ac5, .int .i64 0, .int .i64 0, .int .i64 0] rfl rfl _ _ (heap_alloc_new _ _) (by simp) (by kernel_rfl) HOne.out ?_
            intro w6 hw6
            obtain ⟨hb6, hx6, _⟩ := stW_nw hw6 (by simp)
            have HB6 : Hid (Below w.heap.size w w6) := HB5.out.trans (hb6.mono HB5.out.size)
            have HE6 : Hid (EdR w6 (.slice da5 0 dc5) (.slice aa5 0 ac5) edZ) := HE5.out.below hb6
            obtain ⟨z0, z1, z2, z3, z4⟩ := five hx6
            clear hw6 hb6 hx6
            have HC6 : Hid (Calls Tryd.prog 5 #[.agg #[.slice da5 0 dc5, .slice aa5 0 ac5, .int .i64 0, .int .i64 0, .int .i64 0]] w6 fun e w' => ∃ v, e = .returned (.tuple #[v, .int .i64 0]) ∧ Below w6.heap.size w6 w') := (write13_any _ _ edZ w6 HE6.out sm_edZ).mono fun e w' ⟨v, h1, h2, h3⟩ => by
              rw [edW_Z] at h1
              exact ⟨v, h1, h3⟩
            go_wp2_with fail
            refine HC6.out.mono ?_
            rintro e w7 ⟨v7, rfl, hb7⟩
            have HB7 : Hid (Below w.heap.size w w7) := HB6.out.trans (hb7.mono HB6.out.size)
            clear hb7 HC6 z0 z1 z2 z3 z4
            go_wp2_with fail
            refine (alive13_any _).mono ?_
            rintro e w8 ⟨rfl, hb8⟩
            have HB8 : Hid (Below w.heap.size w w8) := HB7.out.trans (hb8.mono HB7.out.size)
            clear hb8
            go_wp2_with fail
            go_ret
            exact ⟨rfl, HB8.out⟩
          | some y =>
            obtain ⟨dv5, av5, hr5, he5, hb5⟩ := hp5
            rw [hbR] at hr5 he5
            simp only [Option.getD_some] at hr5 he5
            subst hr5
            have HB5 : Hid (Below w.heap.size w w5) := HB1.out.trans (hb5.mono HB1.out.size)
            have HW5 : Hid (edW y = some b) := edW_rd hbR
            have HS5 : Hid (smI y) := edR_sm hbR
            obtain ⟨da5, dc5, rfl, _⟩ := he5.d.form
            obtain ⟨aa5, ac5, rfl, _⟩ := he5.a.form
            obtain ⟨DL5, HDL5⟩ : ∃ n, Hid (y.dr.length = n) := ⟨_, rfl⟩
            obtain ⟨AL5, HAL5⟩ : ∃ n, Hid (y.ad.length = n) := ⟨_, rfl⟩
            rw [HDL5.out, HAL5.out] at he5
            rw [HDL5.out, HAL5.out]
            have HE5 : Hid (EdR w5 (.slice da5 DL5 dc5) (.slice aa5 AL5 ac5) y) := he5
            clear he5 hb5 hbR
            have HOne : Hid (([.slice da5 DL5 dc5, .slice aa5 AL5 ac5, .int .i64 y.lo, .int .i64 y.ne, .int .i64 y.ma] : List Value).toArray.all (·.oneCell') = true) := by unfold Hid; kernel_rfl
            go_wp2_with (refine stop_store 25 _ _ rfl ?_)
            refine Stop.of ?_
            refine wpList_storeN rfl _ _ _ rfl w5.heap.size 0 [.slice da5 DL5 dc5, .slice aa5 AL5 ac5, .int .i64 y.lo, .int .i64 y.ne, .int .i64 y.ma] rfl rfl _ _ (heap_alloc_new _ _) (by simp) (by kernel_rfl) HOne.out ?_
            intro w6 hw6
            obtain ⟨hb6, hx6, _⟩ := stW_nw hw6 (by simp)
            have HB6 : Hid (Below w.heap.size w w6) := HB5.out.trans (hb6.mono HB5.out.size)
            have HE6 : Hid (EdR w6 (.slice da5 DL5 dc5) (.slice aa5 AL5 ac5) y) := HE5.out.below hb6
            obtain ⟨z0, z1, z2, z3, z4⟩ := five hx6
            clear hw6 hb6 hx6
            have HC6 : Hid (Calls Tryd.prog 5 #[.agg #[.slice da5 DL5 dc5, .slice aa5 AL5 ac5, .int .i64 y.lo, .int .i64 y.ne, .int .i64 y.ma]] w6 fun e w' => ∃ v, e = .returned (.tuple #[v, .int .i64 0]) ∧ Own w' w6.heap.size v b ∧ Below w6.heap.size w6 w') := (write13_any _ _ y w6 HE6.out HS5.out).mono fun e w' ⟨v, h1, h2, h3⟩ => by
              rw [HW5.out] at h1 h2
              exact ⟨v, h1, h2, h3⟩
            go_wp2_with fail
            refine HC6.out.mono ?_
            rintro e w7 ⟨v7, rfl, ho7, hb7⟩
            have HB7 : Hid (Below w.heap.size w w7) := HB6.out.trans (hb7.mono HB6.out.size)
            have HO7 : Hid (Own w7 w6.heap.size v7 b) := ho7
            clear hb7 HC6 z0 z1 z2 z3 z4 ho7
            obtain ⟨va7, vc7, hv7, _⟩ := HO7.out.form
            subst hv7
            go_wp2_with fail
            refine (alive13_any _).mono ?_
            rintro e w8 ⟨rfl, hb8⟩
            have HB8 : Hid (Below w.heap.size w w8) := HB7.out.trans (hb8.mono HB7.out.size)
            have hcv := reads_text (HO7.out.below hb8).reads
            have hcb := reads_text (HR.out.below HB8.out)
            clear hb8
            go_wp2_with fail
            go_ret
            exact ⟨rfl, HB8.out⟩
        | some bs =>
          rw [hW] at hC
          have HC : Hid (Calls Tryd.prog 5 #[.agg #[.slice da x.dr.length dc, .slice aa x.ad.length ac, .int .i64 x.lo, .int .i64 x.ne, .int .i64 x.ma]] (w.alloc (.cells #[.slice da x.dr.length dc, .slice aa x.ad.length ac, .int .i64 x.lo, .int .i64 x.ne, .int .i64 x.ma] 25)) fun e w' => ∃ v, e = .returned (.tuple #[v, .int .i64 0]) ∧ Own w' w.heap.size v bs ∧ Below (w.heap.size + 1) (w.alloc (.cells #[.slice da x.dr.length dc, .slice aa x.ad.length ac, .int .i64 x.lo, .int .i64 x.ne, .int .i64 x.ma] 25)) w') := hC.mono fun e w' ⟨v, h1, h2, h3⟩ => ⟨v, h1, h2.mono HB0.out.size, by simpa using h3⟩
          have HRd : Hid (edR bs = some x) := edR_wr hW HS.out
          clear hC hW HSm
          go_enter Tryd.func3, Tryd.ntmps3
          go_wp2_with fail
          refine HC.out.mono ?_
          rintro e w1 ⟨v1, rfl, ho1, hb1⟩
          have HO1 : Hid (Own w1 w.heap.size v1 bs) := ho1
          have HB1 : Hid (Below w.heap.size w w1) := HB0.out.trans (hb1.mono (by omega))
          have HX1 : Hid (w1.heap[w.heap.size]? = some (.cells #[.slice da x.dr.length dc, .slice aa x.ad.length ac, .int .i64 x.lo, .int .i64 x.ne, .int .i64 x.ma] 25)) := (hb1.block _ (by omega)).trans HX0.out
          clear hb1 ho1 HC c0 c1 c2 c3 c4
          obtain ⟨va1, vc1, hv1, _⟩ := HO1.out.form
          subst hv1
          go_wp2_with fail
          refine (read13_any _ bs w1 HO1.out.reads).mono ?_
          rintro e w2 hp2
          obtain ⟨dv2, av2, hr2, he2, hb2⟩ := hp2
          rw [HRd.out] at hr2 he2
          simp only [Option.getD_some, show edE (some x) = 0 from rfl] at hr2 he2
          subst hr2
          have HB2 : Hid (Below w.heap.size w w2) := HB1.out.trans (hb2.mono HB1.out.size)
          have hlt1 : w.heap.size < w1.heap.size := (Array.getElem?_eq_some_iff.1 HX1.out).1
          have HX2 : Hid (w2.heap[w.heap.size]? = some (.cells #[.slice da x.dr.length dc, .slice aa x.ad.length ac, .int .i64 x.lo, .int .i64 x.ne, .int .i64 x.ma] 25)) := (hb2.block _ hlt1).trans HX1.out
          obtain ⟨da2, dc2, rfl, _⟩ := he2.d.form
          obtain ⟨aa2, ac2, rfl, _⟩ := he2.a.form
          have HE2 : Hid (EdR w2 (.slice da2 x.dr.length dc2) (.slice aa2 x.ad.length ac2) x) := he2
          clear he2 hb2
          have HOn2 : Hid (([.slice da2 x.dr.length dc2, .slice aa2 x.ad.length ac2, .int .i64 x.lo, .int .i64 x.ne, .int .i64 x.ma] : List Value).toArray.all (·.oneCell') = true) := by unfold Hid; kernel_rfl
          go_wp2_with (refine stop_store 25 _ _ rfl ?_)
          refine Stop.of ?_
          refine wpList_storeN rfl _ _ _ rfl w2.heap.size 0 [.slice da2 x.dr.length dc2, .slice aa2 x.ad.length ac2, .int .i64 x.lo, .int .i64 x.ne, .int .i64 x.ma] rfl rfl _ _ (heap_alloc_new _ _) (by simp) (by kernel_rfl) HOn2.out ?_
          intro w3 hw3
          obtain ⟨hb3, hx3, hl3⟩ := stW_nw hw3 (by simp)
          have HB3 : Hid (Below w.heap.size w w3.drew) := (HB2.out.trans (hb3.mono HB2.out.size)).drew
          have HE3 : Hid (EdR w3.drew (.slice da2 x.dr.length dc2) (.slice aa2 x.ad.length ac2) x) := HE2.out.below hb3.drew
          have hlt2 : w.heap.size < w2.heap.size := (Array.getElem?_eq_some_iff.1 HX2.out).1
          have HX3 : Hid (w3.drew.heap[w.heap.size]? = some (.cells #[.slice da x.dr.length dc, .slice aa x.ad.length ac, .int .i64 x.lo, .int .i64 x.ne, .int .i64 x.ma] 25)) := (hb3.block _ hlt2).trans HX2.out
          have HY3 : Hid (w3.drew.heap[w2.heap.size]? = some (.cells #[.slice da2 x.dr.length dc2, .slice aa2 x.ad.length ac2, .int .i64 x.lo, .int .i64 x.ne, .int .i64 x.ma] 25)) := hx3
          have HL3 : Hid (w2.heap.size < w3.drew.heap.size) := hl3
          have HF3 : Hid ((w3.drew.cell? ⟨w.heap.size, 0, none⟩ = some (.slice da x.dr.length dc) ∧ w3.drew.cell? ⟨w.heap.size, 1, none⟩ = some (.slice aa x.ad.length ac) ∧ w3.drew.cell? ⟨w.heap.size, 2, none⟩ = some (.int .i64 x.lo) ∧ w3.drew.cell? ⟨w.heap.size, 3, none⟩ = some (.int .i64 x.ne) ∧ w3.drew.cell? ⟨w.heap.size, 4, none⟩ = some (.int .i64 x.ma)) ∧ (w3.drew.cell? ⟨w2.heap.size, 0, none⟩ = some (.slice da2 x.dr.length dc2) ∧ w3.drew.cell? ⟨w2.heap.size, 1, none⟩ = some (.slice aa2 x.ad.length ac2) ∧ w3.drew.cell? ⟨w2.heap.size, 2, none⟩ = some (.int .i64 x.lo) ∧ w3.drew.cell? ⟨w2.heap.size, 3, none⟩ = some (.int .i64 x.ne) ∧ w3.drew.cell? ⟨w2.heap.size, 4, none⟩ = some (.int .i64 x.ma))) := ⟨five HX3.out, five HY3.out⟩
          clear hw3 hb3 hx3 hl3
          go_wp2_with fail
          refine wp_region_noPanic ?_
          refine wp_region_held_drew (S := fun w' => (w'.cell? ⟨w.heap.size, 0, none⟩ = some (.slice da x.dr.length dc) ∧ w'.cell? ⟨w.heap.size, 1, none⟩ = some (.slice aa x.ad.length ac) ∧ w'.cell? ⟨w.heap.size, 2, none⟩ = some (.int .i64 x.lo) ∧ w'.cell? ⟨w.heap.size, 3, none⟩ = some (.int .i64 x.ne) ∧ w'.cell? ⟨w.heap.size, 4, none⟩ = some (.int .i64 x.ma)) ∧ (w'.cell? ⟨w2.heap.size, 0, none⟩ = some (.slice da2 x.dr.length dc2) ∧ w'.cell? ⟨w2.heap.size, 1, none⟩ = some (.slice aa2 x.ad.length ac2) ∧ w'.cell? ⟨w2.heap.size, 2, none⟩ = some (.int .i64 x.lo) ∧ w'.cell? ⟨w2.heap.size, 3, none⟩ = some (.int .i64 x.ne) ∧ w'.cell? ⟨w2.heap.size, 4, none⟩ = some (.int .i64 x.ma))) (by kernel_rfl) ?_ (fun hHeld => ?_)
          · exact HF3.out
          refine wpAnyH_take (i := 0) (v := .int .i64 0) rfl (by kernel_rfl) (by kernel_rfl) (by kernel_rfl) (fun _ _ _ h => h) (Or.inl ⟨by rfl, ?_⟩) (by assumption) ?_
          · (intro w1 hSw; (try dsimp only at hSw); go_simp)
          simp only [List.getElem_toArray, List.getElem_cons_zero, Act.put, List.setIfInBounds_toArray, List.set_cons_zero, List.set_cons_succ]
          refine wpAnyH_take (i := 1) (v := .bool false) rfl (by kernel_rfl) (by kernel_rfl) (by kernel_rfl) (fun _ _ _ h => h) (Or.inl ⟨by rfl, ?_⟩) (by assumption) ?_
          · (intro w1 hSw; (try dsimp only at hSw); go_simp)
          simp only [List.getElem_toArray, List.getElem_cons_succ, List.getElem_cons_zero, Act.put, List.setIfInBounds_toArray, List.set_cons_zero, List.set_cons_succ]
          refine wpAnyH_take (i := 2) (v := .bool false) rfl (by kernel_rfl) (by kernel_rfl) (by kernel_rfl) (fun _ _ _ h => h) (Or.inl ⟨by rfl, ?_⟩) (by assumption) ?_
          · (intro w1 hSw; (try dsimp only at hSw); go_simp)
          simp only [List.getElem_toArray, List.getElem_cons_succ, List.getElem_cons_zero, Act.put, List.setIfInBounds_toArray, List.set_cons_zero, List.set_cons_succ]
          refine wpAnyH_take (i := 3) (v := .agg #[.slice da x.dr.length dc, .slice aa x.ad.length ac, .int .i64 x.lo, .int .i64 x.ne, .int .i64 x.ma]) rfl (by kernel_rfl) (by kernel_rfl) (by kernel_rfl) (fun _ _ _ h => h) (Or.inl ⟨by rfl, ?_⟩) (by assumption) ?_
          · (intro w1 hSw; (try dsimp only at hSw); go_simp)
          simp only [List.getElem_toArray, List.getElem_cons_succ, List.getElem_cons_zero, Act.put, List.setIfInBounds_toArray, List.set_cons_zero, List.set_cons_succ]
          refine wpAnyH_take (i := 5) (v := .agg #[.slice da2 x.dr.length dc2, .slice aa2 x.ad.length ac2, .int .i64 x.lo, .int .i64 x.ne, .int .i64 x.ma]) rfl (by kernel_rfl) (by kernel_rfl) (by kernel_rfl) (fun _ _ _ h => h) (Or.inl ⟨by rfl, ?_⟩) (by assumption) ?_
          · (intro w1 hSw; (try dsimp only at hSw); go_simp)
          simp only [List.getElem_toArray, List.getElem_cons_succ, List.getElem_cons_zero, Act.put, List.setIfInBounds_toArray, List.set_cons_zero, List.set_cons_succ]
          refine wpAnyH_ready (rs := [4]) (by kernel_rfl) (by simp) ?_
          refine AllReadyH.cons (o := _) rfl (fun K hK => ?_) AllReadyH.nil
          go_simp
          refine (asEdit_any _ _ x _ (HE0.out.below HB3.out) (by omega)).mono ?_
          rintro e w4 ⟨v4, rfl, he4, hb4⟩
          have HB4 : Hid (Below w.heap.size w w4) := HB3.out.trans (hb4.mono HB3.out.size)
          have HE4 : Hid (EdR w4 (.slice da x.dr.length dc) v4 x) := he4
          have HE4b : Hid (EdR w4 (.slice da2 x.dr.length dc2) (.slice aa2 x.ad.length ac2) x) := HE3.out.below hb4
          have hlt3 : w.heap.size < w3.drew.heap.size := (Array.getElem?_eq_some_iff.1 HX3.out).1
          have HX4 : Hid (w4.heap[w.heap.size]? = some (.cells #[.slice da x.dr.length dc, .slice aa x.ad.length ac, .int .i64 x.lo, .int .i64 x.ne, .int .i64 x.ma] 25)) := (hb4.block _ hlt3).trans HX3.out
          have HY4 : Hid (w4.heap[w2.heap.size]? = some (.cells #[.slice da2 x.dr.length dc2, .slice aa2 x.ad.length ac2, .int .i64 x.lo, .int .i64 x.ne, .int .i64 x.ma] 25)) := (hb4.block _ HL3.out).trans HY3.out
          have HF4 : Hid ((w4.cell? ⟨w.heap.size, 0, none⟩ = some (.slice da x.dr.length dc) ∧ w4.cell? ⟨w.heap.size, 1, none⟩ = some (.slice aa x.ad.length ac) ∧ w4.cell? ⟨w.heap.size, 2, none⟩ = some (.int .i64 x.lo) ∧ w4.cell? ⟨w.heap.size, 3, none⟩ = some (.int .i64 x.ne) ∧ w4.cell? ⟨w.heap.size, 4, none⟩ = some (.int .i64 x.ma)) ∧ (w4.cell? ⟨w2.heap.size, 0, none⟩ = some (.slice da2 x.dr.length dc2) ∧ w4.cell? ⟨w2.heap.size, 1, none⟩ = some (.slice aa2 x.ad.length ac2) ∧ w4.cell? ⟨w2.heap.size, 2, none⟩ = some (.int .i64 x.lo) ∧ w4.cell? ⟨w2.heap.size, 3, none⟩ = some (.int .i64 x.ne) ∧ w4.cell? ⟨w2.heap.size, 4, none⟩ = some (.int .i64 x.ma))) := ⟨five HX4.out, five HY4.out⟩
          obtain ⟨va4, vc4, hv4, _⟩ := he4.a.form
          subst hv4
          clear hb4 he4 HF3
          go_simp
          refine hK.out _ _ ?_ (fun hHeld => ?_)
          · exact HF4.out
          clear hK K
          refine wpAnyH_ready (rs := [6]) (by kernel_rfl) (by simp) ?_
          refine AllReadyH.cons (o := _) rfl (fun K hK => ?_) AllReadyH.nil
          go_simp
          refine (asEdit_any _ _ x _ HE4b.out (by omega)).mono ?_
          rintro e w5 ⟨v5, rfl, he5, hb5⟩
          have HB5 : Hid (Below w.heap.size w w5) := HB4.out.trans (hb5.mono HB4.out.size)
          have HE5 : Hid (EdR w5 (.slice da2 x.dr.length dc2) v5 x) := he5
          have HE5b : Hid (EdR w5 (.slice da x.dr.length dc) (.slice va4 x.ad.length vc4) x) := HE4.out.below hb5
          have hlt4 : w.heap.size < w4.heap.size ∧ w2.heap.size < w4.heap.size := ⟨(Array.getElem?_eq_some_iff.1 HX4.out).1, (Array.getElem?_eq_some_iff.1 HY4.out).1⟩
          have HX5 : Hid (w5.heap[w.heap.size]? = some (.cells #[.slice da x.dr.length dc, .slice aa x.ad.length ac, .int .i64 x.lo, .int .i64 x.ne, .int .i64 x.ma] 25)) := (hb5.block _ hlt4.1).trans HX4.out
          have HY5 : Hid (w5.heap[w2.heap.size]? = some (.cells #[.slice da2 x.dr.length dc2, .slice aa2 x.ad.length ac2, .int .i64 x.lo, .int .i64 x.ne, .int .i64 x.ma] 25)) := (hb5.block _ hlt4.2).trans HY4.out
          have HF5 : Hid ((w5.cell? ⟨w.heap.size, 0, none⟩ = some (.slice da x.dr.length dc) ∧ w5.cell? ⟨w.heap.size, 1, none⟩ = some (.slice aa x.ad.length ac) ∧ w5.cell? ⟨w.heap.size, 2, none⟩ = some (.int .i64 x.lo) ∧ w5.cell? ⟨w.heap.size, 3, none⟩ = some (.int .i64 x.ne) ∧ w5.cell? ⟨w.heap.size, 4, none⟩ = some (.int .i64 x.ma)) ∧ (w5.cell? ⟨w2.heap.size, 0, none⟩ = some (.slice da2 x.dr.length dc2) ∧ w5.cell? ⟨w2.heap.size, 1, none⟩ = some (.slice aa2 x.ad.length ac2) ∧ w5.cell? ⟨w2.heap.size, 2, none⟩ = some (.int .i64 x.lo) ∧ w5.cell? ⟨w2.heap.size, 3, none⟩ = some (.int .i64 x.ne) ∧ w5.cell? ⟨w2.heap.size, 4, none⟩ = some (.int .i64 x.ma))) := ⟨five HX5.out, five HY5.out⟩
          obtain ⟨va5, vc5, hv5, _⟩ := he5.a.form
          subst hv5
          clear hb5 he5 HF4
          go_simp
          refine hK.out _ _ ?_ (fun hHeld => ?_)
          · exact HF5.out
          clear hK K
          refine wpAnyH_ready (rs := [7]) (by kernel_rfl) (by simp) ?_
          refine AllReadyH.cons (o := _) rfl (fun K hK => ?_) AllReadyH.nil
          go_simp
          refine (sameEdit_true _ _ _ _ x w5 HE5b.out HE5.out).mono ?_
          rintro e w6 ⟨rfl, hb6⟩
          have HB6 : Hid (Below w.heap.size w w6) := HB5.out.trans (hb6.mono HB5.out.size)
          have hlt5 : w.heap.size < w5.heap.size ∧ w2.heap.size < w5.heap.size := ⟨(Array.getElem?_eq_some_iff.1 HX5.out).1, (Array.getElem?_eq_some_iff.1 HY5.out).1⟩
          have HF6 : Hid ((w6.cell? ⟨w.heap.size, 0, none⟩ = some (.slice da x.dr.length dc) ∧ w6.cell? ⟨w.heap.size, 1, none⟩ = some (.slice aa x.ad.length ac) ∧ w6.cell? ⟨w.heap.size, 2, none⟩ = some (.int .i64 x.lo) ∧ w6.cell? ⟨w.heap.size, 3, none⟩ = some (.int .i64 x.ne) ∧ w6.cell? ⟨w.heap.size, 4, none⟩ = some (.int .i64 x.ma)) ∧ (w6.cell? ⟨w2.heap.size, 0, none⟩ = some (.slice da2 x.dr.length dc2) ∧ w6.cell? ⟨w2.heap.size, 1, none⟩ = some (.slice aa2 x.ad.length ac2) ∧ w6.cell? ⟨w2.heap.size, 2, none⟩ = some (.int .i64 x.lo) ∧ w6.cell? ⟨w2.heap.size, 3, none⟩ = some (.int .i64 x.ne) ∧ w6.cell? ⟨w2.heap.size, 4, none⟩ = some (.int .i64 x.ma))) := ⟨five ((hb6.block _ hlt5.1).trans HX5.out), five ((hb6.block _ hlt5.2).trans HY5.out)⟩
          clear hb6 HF5
          go_simp
          refine hK.out _ _ ?_ (fun hHeld => ?_)
          · exact HF6.out
          clear hK K
          refine wpAnyH_take (i := 8) (v := .bool false) rfl (by kernel_rfl) (by kernel_rfl) (by kernel_rfl) (fun _ _ _ h => h) (Or.inl ⟨by rfl, ?_⟩) (by assumption) ?_
          · (intro w1 hSw; (try dsimp only at hSw); go_simp)
          simp only [List.getElem_toArray, List.getElem_cons_succ, List.getElem_cons_zero, Act.put, List.setIfInBounds_toArray, List.set_cons_zero, List.set_cons_succ]
          refine wpAnyH_ready (rs := [9]) (by kernel_rfl) (by simp) ?_
          refine AllReadyH.cons (o := _) rfl (fun K hK => ?_) AllReadyH.nil
          go_simp
          refine hK.out _ _ ?_ (fun hHeld => ?_)
          · exact HF6.out
          clear hK K
          refine wpAnyH_done (by kernel_rfl) ?_ _
          refine NoPanic.normal ?_
          clear HF6 HX5 HY5 HX4 HY4 HX3 HY3 HX2 HX1 HE5 HE5b HE4 HE4b HE3 HE2 HO1
          go_wp2_with fail
          refine (read13_any _ b w6 (HR.out.below HB6.out)).mono ?_
          rintro e w5 hp5
          cases hbR : edR b with
          | none =>
            obtain ⟨dv5, av5, hr5, he5, hb5⟩ := hp5
            rw [hbR] at hr5 he5
            subst hr5
            have HB5 : Hid (Below w.heap.size w w5) := HB6.out.trans (hb5.mono HB6.out.size)
            obtain ⟨da5, dc5, rfl, _⟩ := he5.d.form
            obtain ⟨aa5, ac5, rfl, _⟩ := he5.a.form
            have HE5 : Hid (EdR w5 (.slice da5 0 dc5) (.slice aa5 0 ac5) edZ) := he5
            clear he5 hb5 hbR
            have HOne : Hid (([.slice da5 0 dc5, .slice aa5 0 ac5, .int .i64 0, .int .i64 0, .int .i64 0] : List Value).toArray.all (·.oneCell') = true) := by unfold Hid; kernel_rfl
            go_wp2_with (refine stop_store 25 _ _ rfl ?_)
            refine Stop.of ?_
            refine wpList_storeN rfl _ _ _ rfl w5.heap.size 0 [.slice da5 0 dc5, .slice aa5 0 ac5, .int .i64 0, .int .i64 0, .int .i64 0] rfl rfl _ _ (heap_alloc_new _ _) (by simp) (by kernel_rfl) HOne.out ?_
            intro w6 hw6
            obtain ⟨hb6, hx6, _⟩ := stW_nw hw6 (by simp)
            have HB6 : Hid (Below w.heap.size w w6) := HB5.out.trans (hb6.mono HB5.out.size)
            have HE6 : Hid (EdR w6 (.slice da5 0 dc5) (.slice aa5 0 ac5) edZ) := HE5.out.below hb6
            obtain ⟨z0, z1, z2, z3, z4⟩ := five hx6
            clear hw6 hb6 hx6
            have HC6 : Hid (Calls Tryd.prog 5 #[.agg #[.slice da5 0 dc5, .slice aa5 0 ac5, .int .i64 0, .int .i64 0, .int .i64 0]] w6 fun e w' => ∃ v, e = .returned (.tuple #[v, .int .i64 0]) ∧ Below w6.heap.size w6 w') := (write13_any _ _ edZ w6 HE6.out sm_edZ).mono fun e w' ⟨v, h1, h2, h3⟩ => by
              rw [edW_Z] at h1
              exact ⟨v, h1, h3⟩
            go_wp2_with fail
            refine HC6.out.mono ?_
            rintro e w7 ⟨v7, rfl, hb7⟩
            have HB7 : Hid (Below w.heap.size w w7) := HB6.out.trans (hb7.mono HB6.out.size)
            clear hb7 HC6 z0 z1 z2 z3 z4
            go_wp2_with fail
            refine (alive13_any _).mono ?_
            rintro e w8 ⟨rfl, hb8⟩
            have HB8 : Hid (Below w.heap.size w w8) := HB7.out.trans (hb8.mono HB7.out.size)
            clear hb8
            go_wp2_with fail
            go_ret
            exact ⟨rfl, HB8.out⟩
          | some y =>
            obtain ⟨dv5, av5, hr5, he5, hb5⟩ := hp5
            rw [hbR] at hr5 he5
            simp only [Option.getD_some] at hr5 he5
            subst hr5
            have HB5 : Hid (Below w.heap.size w w5) := HB6.out.trans (hb5.mono HB6.out.size)
            have HW5 : Hid (edW y = some b) := edW_rd hbR
            have HS5 : Hid (smI y) := edR_sm hbR
            obtain ⟨da5, dc5, rfl, _⟩ := he5.d.form
            obtain ⟨aa5, ac5, rfl, _⟩ := he5.a.form
            obtain ⟨DL5, HDL5⟩ : ∃ n, Hid (y.dr.length = n) := ⟨_, rfl⟩
            obtain ⟨AL5, HAL5⟩ : ∃ n, Hid (y.ad.length = n) := ⟨_, rfl⟩
            rw [HDL5.out, HAL5.out] at he5
            rw [HDL5.out, HAL5.out]
            have HE5 : Hid (EdR w5 (.slice da5 DL5 dc5) (.slice aa5 AL5 ac5) y) := he5
            clear he5 hb5 hbR
            have HOne : Hid (([.slice da5 DL5 dc5, .slice aa5 AL5 ac5, .int .i64 y.lo, .int .i64 y.ne, .int .i64 y.ma] : List Value).toArray.all (·.oneCell') = true) := by unfold Hid; kernel_rfl
            go_wp2_with (refine stop_store 25 _ _ rfl ?_)
            refine Stop.of ?_
            refine wpList_storeN rfl _ _ _ rfl w5.heap.size 0 [.slice da5 DL5 dc5, .slice aa5 AL5 ac5, .int .i64 y.lo, .int .i64 y.ne, .int .i64 y.ma] rfl rfl _ _ (heap_alloc_new _ _) (by simp) (by kernel_rfl) HOne.out ?_
            intro w6 hw6
            obtain ⟨hb6, hx6, _⟩ := stW_nw hw6 (by simp)
            have HB6 : Hid (Below w.heap.size w w6) := HB5.out.trans (hb6.mono HB5.out.size)
            have HE6 : Hid (EdR w6 (.slice da5 DL5 dc5) (.slice aa5 AL5 ac5) y) := HE5.out.below hb6
            obtain ⟨z0, z1, z2, z3, z4⟩ := five hx6
            clear hw6 hb6 hx6
            have HC6 : Hid (Calls Tryd.prog 5 #[.agg #[.slice da5 DL5 dc5, .slice aa5 AL5 ac5, .int .i64 y.lo, .int .i64 y.ne, .int .i64 y.ma]] w6 fun e w' => ∃ v, e = .returned (.tuple #[v, .int .i64 0]) ∧ Own w' w6.heap.size v b ∧ Below w6.heap.size w6 w') := (write13_any _ _ y w6 HE6.out HS5.out).mono fun e w' ⟨v, h1, h2, h3⟩ => by
              rw [HW5.out] at h1 h2
              exact ⟨v, h1, h2, h3⟩
            go_wp2_with fail
            refine HC6.out.mono ?_
            rintro e w7 ⟨v7, rfl, ho7, hb7⟩
            have HB7 : Hid (Below w.heap.size w w7) := HB6.out.trans (hb7.mono HB6.out.size)
            have HO7 : Hid (Own w7 w6.heap.size v7 b) := ho7
            clear hb7 HC6 z0 z1 z2 z3 z4 ho7
            obtain ⟨va7, vc7, hv7, _⟩ := HO7.out.form
            subst hv7
            go_wp2_with fail
            refine (alive13_any _).mono ?_
            rintro e w8 ⟨rfl, hb8⟩
            have HB8 : Hid (Below w.heap.size w w8) := HB7.out.trans (hb8.mono HB7.out.size)
            have hcv := reads_text (HO7.out.below hb8).reads
            have hcb := reads_text (HR.out.below HB8.out)
            clear hb8
            go_wp2_with fail
            go_ret
            exact ⟨rfl, HB8.out⟩
end Go.Proofs.YtlgomecaeljfnaaDoor
