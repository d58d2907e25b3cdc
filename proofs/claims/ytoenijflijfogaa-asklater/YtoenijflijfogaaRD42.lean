/- BL1, joined. -/
import Derived.Test.YtoenijflijfogaaRD3
import Derived.Test.YtoenijflijfogaaRD41
/- Layer 17: AskLater's walk. -/
namespace Go.Proofs.Ytoenijflijfogaa
open Go.RowKit

theorem sc_all {R : Rl} {wm : Int} {L : List En} (h : scE R wm L [] 0 1099511627776 = 0) : chkF R wm L = 0 ∧ scQ R wm L [] 0 1099511627776 = scanF [] 0 1099511627776 (rowsE R wm L) :=
  ⟨Classical.byContradiction fun hn => hn (by rw [← (scE_chk (D := []) (f := 0) (t := 1099511627776) hn).1]; exact h), by unfold scQ; rw [if_pos h]⟩
set_option maxRecDepth 100000 in
set_option maxHeartbeats 4000000 in
theorem later17_walk (R : Rl) (wm lt : Int) (v : Value) (L : List En) (w : World) (hL : Lies R w.heap.size w) (hE : EReads w v L) :
    Calls Try.prog 4 #[.agg #[.slice R.a R.len R.cap, .int .i64 R.kp], .int .i64 wm, .int .i64 lt, v] w fun e w' => e = .returned (.bool true) ∧ Below w.heap.size w w' := by
  obtain ⟨a, cap, rfl, hm1, hm2⟩ := hE.form
  have HL : Hid (Lies R w.heap.size w) := hL
  have HE : Hid (EReads w (.slice a L.length cap) L) := hE
  have HCN : Hid (∀ x ∈ L, CnOk x.2) := eReads_cn hE
  obtain ⟨w1, HW1⟩ := hid_ex (w.alloc (.cells #[.slice R.a R.len R.cap, .int .i64 R.kp] 24))
  have HB1 : Hid (Below w.heap.size w w1) := by rw [HW1.out]; exact new_below _ _
  have HX1 : Hid (w1.heap[w.heap.size]? = some (.cells #[.slice R.a R.len R.cap, .int .i64 R.kp] 24)) := by rw [HW1.out]; exact heap_alloc_new _ _
  have HGR : Hid (Calls Try.prog 5 #[.slice a L.length cap] w1 (Gt15 L w1)) := great15_any _ _ w1 (HE.out.below HB1.out)
  have HAL : Hid (∀ W, Below w.heap.size w W → Calls Try.prog 6 #[] W fun e w' => e = .returned (.bool true) ∧ Below w.heap.size w w') := fun W hW => (alive17_any W).mono fun e w' ⟨h1, h2⟩ => ⟨h1, hW.trans (h2.mono hW.size)⟩
  have HSC : Hid (∀ m W, okRow15 L → Below w.heap.size w W → Calls Try.prog 7 #[.agg #[.slice R.a R.len R.cap, .int .i64 R.kp], .int .i64 m, .slice a L.length cap, .slice none 0 0, .int .i64 0, .int .i64 1099511627776] W (RwPost (scQ R m L [] 0 1099511627776) (scE R m L [] 0 1099511627776) W)) := fun m W hok hW =>
    scan17_any R m _ L _ [] 0 1099511627776 W (HL.out.at hW) (HE.out.below hW) (by have := hok.1; omega) (fun x hx => by have := hok.2 x hx; omega) (.inl ⟨rfl, none, 0, rfl, fun _ => rfl⟩)
  obtain ⟨ln, Hln⟩ := hid_ex L.length
  rw [← Hln.out] at HGR HSC hm1 ⊢
  clear hL hE HE Hln
  go_enter Try.func4, Try.ntmps4
  go_wp2_with fail
  rw [← HW1.out]
  clear HW1
  refine HGR.out.mono ?_
  clear HGR
  rintro e w' ⟨g, rfl, hok, hw'⟩
  subst w'
  have HOK : Hid (g = false → okRow15 L) := hok
  clear hok
  cases g with
  | true =>
    clear HOK HSC
    go_wp2_with fail
    refine (HAL.out _ HB1.out).mono ?_
    rintro e w2 ⟨rfl, hb2⟩
    have HB2 : Hid (Below w.heap.size w w2) := hb2
    clear hb2
    go_wp2_with fail
    go_ret
    exact ⟨rfl, HB2.out⟩
  | false =>
    have HOK2 : Hid (okRow15 L) := HOK.out rfl
    clear HOK
    by_cases h1 : lt < wm
    · clear HOK2 HSC
      go_wp2_with fail
      refine (HAL.out _ HB1.out).mono ?_
      rintro e w2 ⟨rfl, hb2⟩
      have HB2 : Hid (Below w.heap.size w w2) := hb2
      clear hb2
      go_wp2_with fail
      go_ret
      exact ⟨rfl, HB2.out⟩
    · have HWV : Hid (wm ≤ lt) := by show _ ≤ _; omega
      have HS1 : Hid (Calls Try.prog 7 #[.agg #[.slice R.a R.len R.cap, .int .i64 R.kp], .int .i64 wm, .slice a ln cap, .slice none 0 0, .int .i64 0, .int .i64 1099511627776] w1 (RwPost (scQ R wm L [] 0 1099511627776) (scE R wm L [] 0 1099511627776) w1)) := HSC.out _ _ HOK2.out HB1.out
      have x0 := (cell_row HX1.out 0 (by simp)).1
      have x1 := (cell_row HX1.out 1 (by simp)).1
      simp only [List.getElem_toArray, List.getElem_cons_zero, List.getElem_cons_succ] at x0 x1
      go_wp2_with fail
      refine HS1.out.mono ?_
      clear HS1 x0 x1
      rintro e w2 ⟨hb2, xa, xc, xs, rfl, hT2, hM2, -⟩
      have HX2 : Hid (w2.heap[w.heap.size]? = some (.cells #[.slice R.a R.len R.cap, .int .i64 R.kp] 24)) := (hb2.block _ (Array.getElem?_eq_some_iff.1 HX1.out).1).trans HX1.out
      have HB2 : Hid (Below w.heap.size w w2) := HB1.out.trans (hb2.mono HB1.out.size)
      have HMx : Hid (xs.map itR = scQ R wm L [] 0 1099511627776) := hM2
      obtain ⟨n, Hn⟩ := hid_ex xs.length
      rw [← Hn.out] at hT2 ⊢
      have HT2 : Hid (TReads w2 (.slice xa n xc) xs) := hT2
      have HS2 : Hid (Calls Try.prog 7 #[.agg #[.slice R.a R.len R.cap, .int .i64 R.kp], .int .i64 lt, .slice a ln cap, .slice none 0 0, .int .i64 0, .int .i64 1099511627776] w2 (RwPost (scQ R lt L [] 0 1099511627776) (scE R lt L [] 0 1099511627776) w2)) := HSC.out _ _ HOK2.out HB2.out
      obtain ⟨c1, Hc1⟩ := hid_ex (scE R wm L [] 0 1099511627776)
      rw [← Hc1.out]
      have x0 := (cell_row HX2.out 0 (by simp)).1
      have x1 := (cell_row HX2.out 1 (by simp)).1
      simp only [List.getElem_toArray, List.getElem_cons_zero, List.getElem_cons_succ] at x0 x1
      clear hb2 hT2 hM2 HX1 HB1
      go_wp2_with fail
      refine HS2.out.mono ?_
      clear HS2 x0 x1
      rintro e w3 ⟨hb3, ya, yc, ys, rfl, hT3, hM3, -⟩
      have HX3 : Hid (w3.heap[w.heap.size]? = some (.cells #[.slice R.a R.len R.cap, .int .i64 R.kp] 24)) := (hb3.block _ (Array.getElem?_eq_some_iff.1 HX2.out).1).trans HX2.out
      have HB3 : Hid (Below w.heap.size w w3) := HB2.out.trans (hb3.mono HB2.out.size)
      have HMy : Hid (ys.map itR = scQ R lt L [] 0 1099511627776) := hM3
      have HT3 : Hid (TReads w3 (.slice xa n xc) xs) := HT2.out.below hb3
      obtain ⟨m, Hm⟩ := hid_ex ys.length
      rw [← Hm.out]
      obtain ⟨c2, Hc2⟩ := hid_ex (scE R lt L [] 0 1099511627776)
      rw [← Hc2.out]
      have hbn : n ≤ 9223372036854775807 := by
        obtain ⟨_, _, e1, i1, j1⟩ := HT3.out.form17
        simp only [Value.slice.injEq] at e1
        unfold maxLen at j1
        have := Hn.out
        omega
      clear hb3 hT3 hM3 HX2 HB2 HT2 HSC HOK2 h1
      by_cases hc1 : c1 = 0
      · by_cases hc2 : c2 = 0
        · obtain ⟨k1, q1⟩ := sc_all (by rw [← Hc1.out]; exact hc1)
          obtain ⟨k2, q2⟩ := sc_all (by rw [← Hc2.out]; exact hc2)
          obtain ⟨r1, r2⟩ := later17 HWV.out k1 k2 HCN.out (HMx.out.trans q1) (HMy.out.trans q2)
          have HR2 : Hid (m + gnF R lt (xs.map itR) ≤ n) := by rw [Hm.out, Hn.out]; exact r2
          have hmn : m ≤ n := by rw [Hm.out, Hn.out]; exact r1
          have HFE : Hid (∀ x ∈ xs, fE R x.f lt = 0 ∧ exA R x.f lt = goneB R lt x.f) := fun x hx => by
            obtain ⟨_, hR, _, _, _⟩ := chkF_ok k1
            obtain ⟨_, _, hT, _, _⟩ := chkF_ok k2
            have hxm : itR x ∈ scanF [] 0 1099511627776 (rowsE R wm L) := by rw [← q1, ← HMx.out]; exact List.mem_map_of_mem hx
            have hok := rows_ok k1 HCN.out _ (List.mem_filter.1 hxm).1
            have htf : isT x.f = true := (isT_iff _).2 hok.f
            have h0 := fE_of hR htf hT
            exact ⟨h0, by unfold exA goneB; rw [if_pos h0]⟩
          have HLR : Hid (∀ W, Below w3.heap.size w3 W → Lies R W.heap.size W) := fun W hW => HL.out.at (HB3.out.trans (hW.mono HB3.out.size))
          subst hc1 hc2
          clear k1 q1 k2 q2 r1 r2 Hc1 Hc2 HMx HMy HWV
          have hnm : ¬ n < m := by omega
          have hnd : decide (n < m) = false := decide_eq_false hnm
          go_wp2_with fail
          go_loopw [13, 14] (fun g i wr => ∃ j : Nat, i = .int .i64 (j : Int) ∧ j ≤ n ∧ g = .int .u64 ((gnF R lt ((xs.map itR).take j) : Nat) : Int) ∧ Hid (Below w3.heap.size w3 wr)) (fun _ i _ => n - (intOf i).toNat)
          case atStart => exact ⟨0, rfl, by omega, rfl, Below.refl _ _⟩
          case round =>
            obtain ⟨j, rfl, hj, rfl, HW⟩ := hrel
            by_cases hlt : j < n
            · have hlt' : (j : Int) < (n : Int) := by omega
              have hjx : j < xs.length := by rw [← Hn.out]; exact hlt
              obtain ⟨h0, h9⟩ := HFE.out xs[j] (List.getElem_mem hjx)
              have hsn := gnF_snoc R lt (l := xs.map itR) (k := j) (by rw [List.length_map]; exact hjx)
              rw [List.getElem_map] at hsn
              have hgl := gnF_le R lt ((xs.map itR).take j)
              rw [List.length_take] at hgl
              obtain ⟨gn, Hgn⟩ := hid_ex (gnF R lt ((xs.map itR).take j))
              rw [← Hgn.out] at hsn hgl ⊢
              have hgb : gn ≤ j := by omega
              obtain ⟨x, Hx⟩ := hid_ex xs[j]
              rw [← Hx.out] at h0 h9 hsn
              obtain ⟨xv, xD, xf, xz, xg⟩ := x
              obtain ⟨b, o, rfl, hn9, hsr⟩ := HT3.out.nine hjx Hx.out.symm
              simp only [itR] at h0 h9 hsn
              have HNr : Hid (N9 wr b (o + j * 9) xv xf xz xg.c (hi xg.s) (lo xg.s) xg.mn xg.mx xg.o) := hn9.below HW.out
              obtain ⟨gb, Hgb⟩ := hid_ex (goneB R lt xf)
              rw [← Hgb.out] at h9
              have HSN : Hid (gnF R lt ((xs.map itR).take (j + 1)) = gn + (if gb = true then 1 else 0)) := by unfold Hid; rw [Hgb.out]; exact hsn
              have HEX : Hid (∀ W, Below wr.heap.size wr W → Calls Try.prog 12 #[.agg #[.slice R.a R.len R.cap, .int .i64 R.kp], .int .i64 xf, .int .i64 lt] W fun e w' => e = .returned (.tuple #[.bool gb, .int .i64 0]) ∧ Below W.heap.size W w') := fun W hW => by
                have h1 := expired_any R xf lt W (HLR.out W (HW.out.trans (hW.mono HW.out.size)))
                rw [h0, h9] at h1
                exact h1
              have HXr : Hid (wr.heap[w.heap.size]? = some (.cells #[.slice R.a R.len R.cap, .int .i64 R.kp] 24)) := (HW.out.block _ (Array.getElem?_eq_some_iff.1 HX3.out).1).trans HX3.out
              have hxl : w.heap.size < wr.heap.size := (Array.getElem?_eq_some_iff.1 HXr.out).1
              clear h0 h9 hsn hgl hn9 hsr Hx Hgb Hgn
              go_wp2_with fail
              refine wp_region_noPanic ?_
              refine wp_region_held_drew (S := (fun w' => Below wr.heap.size wr w')) (by kernel_rfl) ?_ (fun hHeld => ?_)
              · exact (Below.refl _ _).drew
              refine wpAnyH_take (i := 0) (v := .agg #[.slice R.a R.len R.cap, .int .i64 R.kp]) rfl (by kernel_rfl) (by kernel_rfl) (by kernel_rfl) (fun _ _ _ h => h) (Or.inl ⟨by rfl, ?_⟩) (by assumption) ?_
              · (intro w1 hSw; (try dsimp only at hSw); have gx := (hSw.block _ hxl).trans HXr.out; have g0 := (cell_row gx 0 (by simp)).1; have g1 := (cell_row gx 1 (by simp)).1; simp only [List.getElem_toArray, List.getElem_cons_zero, List.getElem_cons_succ] at g0 g1; go_simp)
              simp only [List.getElem_toArray, List.getElem_cons_zero, Act.put, List.setIfInBounds_toArray, List.set_cons_zero, List.set_cons_succ]
              refine wpAnyH_take (i := 1) (v := .slice (some ⟨b, o, none⟩) n xc) rfl (by kernel_rfl) (by kernel_rfl) (by kernel_rfl) (fun _ _ _ h => h) (Or.inl ⟨by rfl, ?_⟩) (by assumption) ?_
              · (intro w1 hSw; (try dsimp only at hSw); go_simp)
              simp only [List.getElem_toArray, List.getElem_cons_succ, List.getElem_cons_zero, Act.put, List.setIfInBounds_toArray, List.set_cons_zero, List.set_cons_succ]
              refine wpAnyH_take (i := 2) (v := .int .i64 (j : Int)) rfl (by kernel_rfl) (by kernel_rfl) (by kernel_rfl) (fun _ _ _ h => h) (Or.inl ⟨by rfl, ?_⟩) (by assumption) ?_
              · (intro w1 hSw; (try dsimp only at hSw); go_simp)
              simp only [List.getElem_toArray, List.getElem_cons_succ, List.getElem_cons_zero, Act.put, List.setIfInBounds_toArray, List.set_cons_zero, List.set_cons_succ]
              refine wpAnyH_take (i := 3) (v := .pointer (some ⟨b, o + j * 9, none⟩)) rfl (by kernel_rfl) (by kernel_rfl) (by kernel_rfl) (fun _ _ _ h => h) (Or.inl ⟨by rfl, ?_⟩) (by assumption) ?_
              · (intro w1 hSw; (try dsimp only at hSw); go_simp)
              simp only [List.getElem_toArray, List.getElem_cons_succ, List.getElem_cons_zero, Act.put, List.setIfInBounds_toArray, List.set_cons_zero, List.set_cons_succ]
              refine wpAnyH_take (i := 4) (v := .pointer (some ⟨b, o + j * 9 + 1, none⟩)) rfl (by kernel_rfl) (by kernel_rfl) (by kernel_rfl) (fun _ _ _ h => h) (Or.inl ⟨by rfl, ?_⟩) (by assumption) ?_
              · (intro w1 hSw; (try dsimp only at hSw); go_simp)
              simp only [List.getElem_toArray, List.getElem_cons_succ, List.getElem_cons_zero, Act.put, List.setIfInBounds_toArray, List.set_cons_zero, List.set_cons_succ]
              refine wpAnyH_take (i := 5) (v := .int .i64 xf) rfl (by kernel_rfl) (by kernel_rfl) (by kernel_rfl) (fun _ _ _ h => h) (Or.inl ⟨by rfl, ?_⟩) (by assumption) ?_
              · (intro w1 hSw; (try dsimp only at hSw); have g0 := (HNr.out.below hSw).c1; go_simp)
              simp only [List.getElem_toArray, List.getElem_cons_succ, List.getElem_cons_zero, Act.put, List.setIfInBounds_toArray, List.set_cons_zero, List.set_cons_succ]
              refine wpAnyH_take (i := 6) (v := .int .i64 lt) rfl (by kernel_rfl) (by kernel_rfl) (by kernel_rfl) (fun _ _ _ h => h) (Or.inl ⟨by rfl, ?_⟩) (by assumption) ?_
              · (intro w1 hSw; (try dsimp only at hSw); go_simp)
              simp only [List.getElem_toArray, List.getElem_cons_succ, List.getElem_cons_zero, Act.put, List.setIfInBounds_toArray, List.set_cons_zero, List.set_cons_succ]
              refine wpAnyH_ready (rs := [7]) (by kernel_rfl) (by simp) ?_
              refine AllReadyH.cons (o := _) rfl (fun K hK => ?_) AllReadyH.nil
              go_simp
              refine (HEX.out _ (Below.refl _ _).drew).mono ?_
              rintro e W3 ⟨rfl, hb3⟩
              have HW3 : Hid (Below wr.heap.size wr W3) := (Below.refl wr.heap.size wr).drew.trans hb3
              clear hb3
              refine hK.out _ _ ?_ (fun hHeld => ?_)
              · exact HW3.out
              clear hK K
              refine wpAnyH_take (i := 8) (v := .tuple #[.bool gb, .int .i64 0]) rfl (by kernel_rfl) (by kernel_rfl) (by kernel_rfl) (fun _ _ _ h => h) (Or.inl ⟨by rfl, ?_⟩) (by assumption) ?_
              · (intro w1 hSw; (try dsimp only at hSw); go_simp)
              simp only [List.getElem_toArray, List.getElem_cons_succ, List.getElem_cons_zero, Act.put, List.setIfInBounds_toArray, List.set_cons_zero, List.set_cons_succ]
              refine wpAnyH_take (i := 9) (v := .bool gb) rfl (by kernel_rfl) (by kernel_rfl) (by kernel_rfl) (fun _ _ _ h => h) (Or.inl ⟨by rfl, ?_⟩) (by assumption) ?_
              · (intro w1 hSw; (try dsimp only at hSw); go_simp)
              simp only [List.getElem_toArray, List.getElem_cons_succ, List.getElem_cons_zero, Act.put, List.setIfInBounds_toArray, List.set_cons_zero, List.set_cons_succ]
              refine wpAnyH_take (i := 10) (v := .int .i64 0) rfl (by kernel_rfl) (by kernel_rfl) (by kernel_rfl) (fun _ _ _ h => h) (Or.inl ⟨by rfl, ?_⟩) (by assumption) ?_
              · (intro w1 hSw; (try dsimp only at hSw); go_simp)
              simp only [List.getElem_toArray, List.getElem_cons_succ, List.getElem_cons_zero, Act.put, List.setIfInBounds_toArray, List.set_cons_zero, List.set_cons_succ]
              refine wpAnyH_take (i := 11) (v := .bool gb) rfl (by kernel_rfl) (by kernel_rfl) (by kernel_rfl) (fun _ _ _ h => h) (Or.inl ⟨by rfl, ?_⟩) (by assumption) ?_
              · (intro w1 hSw; (try dsimp only at hSw); go_simp)
              simp only [List.getElem_toArray, List.getElem_cons_succ, List.getElem_cons_zero, Act.put, List.setIfInBounds_toArray, List.set_cons_zero, List.set_cons_succ]
              refine wpAnyH_take (i := 12) (v := .int .i64 0) rfl (by kernel_rfl) (by kernel_rfl) (by kernel_rfl) (fun _ _ _ h => h) (Or.inl ⟨by rfl, ?_⟩) (by assumption) ?_
              · (intro w1 hSw; (try dsimp only at hSw); go_simp)
              simp only [List.getElem_toArray, List.getElem_cons_succ, List.getElem_cons_zero, Act.put, List.setIfInBounds_toArray, List.set_cons_zero, List.set_cons_succ]
              clear hHeld
              refine wpAnyH_done (by kernel_rfl) ?_ _
              refine NoPanic.normal ?_
              have HBN : Hid (Below w3.heap.size w3 W3) := HW.out.trans (HW3.out.mono HW.out.size)
              clear HEX HW3 HW HXr HNr
              cases gb with
              | true =>
                have HS9 : Hid (gnF R lt ((xs.map itR).take (j + 1)) = gn + 1) := HSN.out
                go_wp2_with fail
                go_roundw
                case rel => exact ⟨j + 1, by go_num, by omega, by rw [HS9.out]; go_num, HBN⟩
                case measure => simp [intOf]; omega
              | false =>
                have HS9 : Hid (gnF R lt ((xs.map itR).take (j + 1)) = gn) := HSN.out
                go_wp2_with fail
                go_roundw
                case rel => exact ⟨j + 1, by go_num, by omega, by rw [HS9.out], HBN⟩
                case measure => simp [intOf]; omega
            · obtain rfl : j = n := by omega
              have hlt' : ¬ (j : Int) < (j : Int) := by omega
              have hend : (xs.map itR).take j = xs.map itR := List.take_of_length_le (by rw [List.length_map, Hn.out]; exact Nat.le_refl _)
              have hr2 := HR2.out
              rw [hend]
              obtain ⟨gn, Hgn⟩ := hid_ex (gnF R lt (xs.map itR))
              rw [← Hgn.out] at hr2 ⊢
              have HBx : Hid (Below w.heap.size w wr) := HB3.out.trans (HW.out.mono HB3.out.size)
              have hz1 : ¬ (j : Int) - (gn : Int) < (m : Int) := by omega
              clear hend HW Hgn
              go_wp2_with fail
              refine (HAL.out _ HBx.out).mono ?_
              rintro e w6 ⟨rfl, hb6⟩
              have HB6 : Hid (Below w.heap.size w w6) := hb6
              clear hb6
              go_wp2_with fail
              go_ret
              exact ⟨rfl, HB6.out⟩
        · have hcb : (c2 == 0) = false := by simp [hc2]
          have hcb' : (c2 != 0) = true := by simp [hc2]
          subst hc1
          clear HMx HMy Hc1 Hc2 HT3
          go_wp2_with fail
          refine (HAL.out _ HB3.out).mono ?_
          rintro e w6 ⟨rfl, hb6⟩
          have HB6 : Hid (Below w.heap.size w w6) := hb6
          clear hb6
          go_wp2_with fail
          go_ret
          exact ⟨rfl, HB6.out⟩
      · have hcb : (c1 == 0) = false := by simp [hc1]
        have hcb' : (c1 != 0) = true := by simp [hc1]
        clear HMx HMy Hc1 Hc2 HT3
        go_wp2_with fail
        refine (HAL.out _ HB3.out).mono ?_
        rintro e w6 ⟨rfl, hb6⟩
        have HB6 : Hid (Below w.heap.size w w6) := hb6
        clear hb6
        go_wp2_with fail
        go_ret
        exact ⟨rfl, HB6.out⟩
end Go.Proofs.Ytoenijflijfogaa
