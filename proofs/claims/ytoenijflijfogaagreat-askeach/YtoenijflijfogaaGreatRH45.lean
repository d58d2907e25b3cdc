/- AE1, joined. -/
import Derived.Test.YtoenijflijfogaaGreatRH44
/- Layer 17: AskEach's walk (written by mkae2.py). -/
namespace Go.Proofs.YtoenijflijfogaaGreat
open Go.RowKit

set_option maxRecDepth 100000 in
set_option maxHeartbeats 16000000 in
theorem each17_walk (R : Rl) (wm : Int) (v : Value) (L : List En) (q : Qy) (w : World) (hL : Lies R w.heap.size w) (hE : EReads w v L) (hQ : QLies q w) :
    Calls Tryz.prog 6 #[.agg #[.slice R.a R.len R.cap, .int .i64 R.kp], .int .i64 wm, v, q.val] w fun e w' => e = .returned (.bool true) ∧ Below w.heap.size w w' := by
  obtain ⟨a, cap, rfl, hm1, hm2⟩ := hE.form
  obtain ⟨qv, qD, qt, qf, qu, qm⟩ := q
  have hqr := hQ.r
  obtain ⟨da, dc, hdv, hdl⟩ := hqr.form
  simp only at hdv
  subst hdv
  obtain ⟨hf1, hf2⟩ := hQ.f
  obtain ⟨hu1, hu2⟩ := hQ.u
  obtain ⟨ht1, ht2⟩ := hQ.t
  simp only at hf1 hf2 hu1 hu2 ht1 ht2
  have HL : Hid (Lies R w.heap.size w) := hL
  have HE : Hid (EReads w (.slice a L.length cap) L) := hE
  have HD : Hid (SReads w (.slice da qD.length dc) qD) := hqr
  obtain ⟨dn, Hdn⟩ := hid_ex qD.length
  rw [← Hdn.out] at HD hdl ⊢
  obtain ⟨w1, HW1⟩ := hid_ex ((w.alloc (.cells #[.slice R.a R.len R.cap, .int .i64 R.kp] 24)).alloc (.cells #[.slice da dn dc, .int .i64 qt, .int .i64 qf, .int .i64 qu, .int .i64 qm] 28))
  have HB1 : Hid (Below w.heap.size w w1) := by rw [HW1.out]; exact ((Below.refl _ _).alloc (Nat.le_refl _) _).alloc (by simp) _
  have HX1 : Hid (w1.heap[w.heap.size]? = some (.cells #[.slice R.a R.len R.cap, .int .i64 R.kp] 24)) := by
    rw [HW1.out]; unfold Hid; exact (Below.heap_alloc _ _ _ (by simp)).trans (heap_alloc_new _ _)
  have HY1 : Hid (w1.heap[w.heap.size + 1]? = some (.cells #[.slice da dn dc, .int .i64 qt, .int .i64 qf, .int .i64 qu, .int .i64 qm] 28)) := by
    rw [HW1.out]; unfold Hid
    have := heap_alloc_new (w.alloc (.cells #[.slice R.a R.len R.cap, .int .i64 R.kp] 24)) (.cells #[.slice da dn dc, .int .i64 qt, .int .i64 qf, .int .i64 qu, .int .i64 qm] 28)
    rw [World.size_alloc] at this; exact this
  have HGR : Hid (Calls Tryz.prog 7 #[.slice a L.length cap] w1 (Gt15 L w1)) := great15_any _ _ w1 (HE.out.below HB1.out)
  have HAL : Hid (∀ W, Below w.heap.size w W → Calls Tryz.prog 9 #[] W fun e w' => e = .returned (.bool true) ∧ Below w.heap.size w w') := fun W hW => (alive17_any W).mono fun e w' ⟨h1, h2⟩ => ⟨h1, hW.trans (h2.mono hW.size)⟩
  have HSC : Hid (∀ W, okRow15 L → Below w.heap.size w W → Calls Tryz.prog 14 #[.agg #[.slice R.a R.len R.cap, .int .i64 R.kp], .int .i64 wm, .slice a L.length cap, .slice none 0 0, .int .i64 0, .int .i64 1099511627776] W (RwPost (scQ R wm L [] 0 1099511627776) (scE R wm L [] 0 1099511627776) W)) := fun W hok hW =>
    scan17_any R wm _ L _ [] 0 1099511627776 W (HL.out.at hW) (HE.out.below hW) (by have := hok.1; omega) (fun x hx => by have := hok.2 x hx; omega) (.inl ⟨rfl, none, 0, rfl, fun _ => rfl⟩)
  have HGC : Hid (∀ dv D t W, okRow15 L → Below w.heap.size w W → SReads W dv D → In64 t → Calls Tryz.prog 10 #[.agg #[.slice R.a R.len R.cap, .int .i64 R.kp], .int .i64 wm, .slice a L.length cap, dv, .int .i64 t] W (G17 R wm L D t W)) := fun dv D t W hok hW hD ht =>
    get17_any R wm _ L dv D t W (HL.out.at hW) (HE.out.below hW) (by have := hok.1; omega) (fun x hx => by have := hok.2 x hx; omega) hD ht.1 ht.2
  have HCN : Hid (∀ x ∈ L, CnOk x.2) := eReads_cn HE.out
  have HLG : Hid (∀ W, Below w.heap.size w W → Calls Tryz.prog 8 #[.agg #[.slice da dn dc, .int .i64 qt, .int .i64 qf, .int .i64 qu, .int .i64 qm]] W fun e w' => ∃ g : Bool, e = .returned (.bool g) ∧ Below W.heap.size W w') := fun W hW => by
    have h1 := HD.out.below hW
    rw [Hdn.out] at h1 ⊢
    exact long17_any _ qD qt qf qu qm W h1
  obtain ⟨ln, Hln⟩ := hid_ex L.length
  rw [← Hln.out] at HGR HSC HGC hm1 ⊢
  clear hL hE hQ hqr HE Hdn Hln HL
  unfold Qy.val
  go_enter Tryz.func6, Tryz.ntmps6
  go_wp2_with fail
  rw [← HW1.out]
  clear HW1
  refine HGR.out.mono ?_
  clear HGR
  rintro e w' ⟨g, rfl, hok, hw'⟩
  subst w'
  have HOK : Hid (g = false → okRow15 L) := hok
  clear hok
  cases g with
  | true =>
    clear HOK HSC HLG HGC
    go_wp2_with fail
    refine (HAL.out _ HB1.out).mono ?_
    rintro e w2 ⟨rfl, hb2⟩
    have HB2 : Hid (Below w.heap.size w w2) := hb2
    clear hb2
    go_wp2_with fail
    go_ret
    exact ⟨rfl, HB2.out⟩
  | false =>
    have HOK2 : Hid (okRow15 L) := HOK.out rfl
    have HLG1 : Hid (Calls Tryz.prog 8 #[.agg #[.slice da dn dc, .int .i64 qt, .int .i64 qf, .int .i64 qu, .int .i64 qm]] w1 fun e w' => ∃ g : Bool, e = .returned (.bool g) ∧ Below w1.heap.size w1 w') := HLG.out _ HB1.out
    have y0 := (cell_row HY1.out 0 (by simp)).1
    have y1 := (cell_row HY1.out 1 (by simp)).1
    have y2 := (cell_row HY1.out 2 (by simp)).1
    have y3 := (cell_row HY1.out 3 (by simp)).1
    have y4 := (cell_row HY1.out 4 (by simp)).1
    simp only [List.getElem_toArray, List.getElem_cons_zero, List.getElem_cons_succ] at y0 y1 y2 y3 y4
    clear HOK
    go_wp2_with fail
    refine HLG1.out.mono ?_
    clear HLG1 y0 y1 y2 y3 y4
    rintro e w2 ⟨g2, rfl, hb2⟩
    have HX2 : Hid (w2.heap[w.heap.size]? = some (.cells #[.slice R.a R.len R.cap, .int .i64 R.kp] 24)) := (hb2.block _ (Array.getElem?_eq_some_iff.1 HX1.out).1).trans HX1.out
    have HY2 : Hid (w2.heap[w.heap.size + 1]? = some (.cells #[.slice da dn dc, .int .i64 qt, .int .i64 qf, .int .i64 qu, .int .i64 qm] 28)) := (hb2.block _ (Array.getElem?_eq_some_iff.1 HY1.out).1).trans HY1.out
    have HB2 : Hid (Below w.heap.size w w2) := HB1.out.trans (hb2.mono HB1.out.size)
    clear hb2 HX1 HY1 HB1
    cases g2 with
    | true =>
      clear HOK2 HSC HLG HGC HY2 HX2
      go_wp2_with fail
      refine (HAL.out _ HB2.out).mono ?_
      rintro e w3 ⟨rfl, hb3⟩
      have HB3 : Hid (Below w.heap.size w w3) := hb3
      clear hb3
      go_wp2_with fail
      go_ret
      exact ⟨rfl, HB3.out⟩
    | false =>
      have HSA : Hid (Calls Tryz.prog 14 #[.agg #[.slice R.a R.len R.cap, .int .i64 R.kp], .int .i64 wm, .slice a ln cap, .slice none 0 0, .int .i64 0, .int .i64 1099511627776] w2 (RwPost (scQ R wm L [] 0 1099511627776) (scE R wm L [] 0 1099511627776) w2)) := HSC.out _ HOK2.out HB2.out
      have x0 := (cell_row HX2.out 0 (by simp)).1
      have x1 := (cell_row HX2.out 1 (by simp)).1
      simp only [List.getElem_toArray, List.getElem_cons_zero, List.getElem_cons_succ] at x0 x1
      clear HLG
      go_wp2_with fail
      refine HSA.out.mono ?_
      clear HSA x0 x1
      rintro e w3 ⟨hb3, xa, xc, xs, rfl, hT1, hM1, -⟩
      have HX3 : Hid (w3.heap[w.heap.size]? = some (.cells #[.slice R.a R.len R.cap, .int .i64 R.kp] 24)) := (hb3.block _ (Array.getElem?_eq_some_iff.1 HX2.out).1).trans HX2.out
      have HY3 : Hid (w3.heap[w.heap.size + 1]? = some (.cells #[.slice da dn dc, .int .i64 qt, .int .i64 qf, .int .i64 qu, .int .i64 qm] 28)) := (hb3.block _ (Array.getElem?_eq_some_iff.1 HY2.out).1).trans HY2.out
      have HB3 : Hid (Below w.heap.size w w3) := HB2.out.trans (hb3.mono HB2.out.size)
      have HM : Hid (xs.map itR = scQ R wm L [] 0 1099511627776) := hM1
      obtain ⟨n, Hn⟩ := hid_ex xs.length
      rw [← Hn.out] at hT1 ⊢
      have HT : Hid (TReads w3 (.slice xa n xc) xs) := hT1
      have hbn : n ≤ 9223372036854775807 := by
        obtain ⟨_, _, e1, i1, j1⟩ := HT.out.form17
        simp only [Value.slice.injEq] at e1
        unfold maxLen at j1
        have := Hn.out
        omega
      obtain ⟨c1, Hc1⟩ := hid_ex (scE R wm L [] 0 1099511627776)
      rw [← Hc1.out]
      have HCH : Hid (c1 = 0 → chkF R wm L = 0) := by rw [Hc1.out]; exact sc_chk
      clear hb3 hT1 hM1 HX2 HY2 HB2
      by_cases hc1 : c1 = 0
      · have HCK : Hid (chkF R wm L = 0) := HCH.out hc1
        have HSE : Hid (scQ R wm L [] 0 1099511627776 = scanF [] 0 1099511627776 (rowsE R wm L)) := by unfold Hid scQ; rw [← Hc1.out, if_pos hc1]
        rw [HSE.out] at HM
        have HOX : Hid (∀ x ∈ scanF [] 0 1099511627776 (rowsE R wm L), RwA x ∧ x.f < 1099511627776 ∧ x ∈ rowsE R wm L) := fun x hx => by
          have h1 := (List.mem_filter.1 hx).1
          have h2 := (List.mem_filter.1 hx).2
          simp at h2
          exact ⟨rows_ok HCK.out HCN.out x h1, h2.2, h1⟩
        subst hc1
        clear HCH HSE Hc1
        go_wp2_with fail
        go_loopw [11] (fun i wr => ∃ j : Nat, i = .int .i64 (j : Int) ∧ j ≤ n ∧ Hid (Below w3.heap.size w3 wr)) (fun i _ => n - (intOf i).toNat)
        case atStart => exact ⟨0, rfl, by omega, Below.refl _ _⟩
        case round =>
          rename_i K0 hK0
          obtain ⟨j, rfl, hj, HW⟩ := hrel
          by_cases hlt : j < n
          · have hlt' : (j : Int) < (n : Int) := by omega
            have hjx : j < xs.length := by rw [← Hn.out]; exact hlt
            have hokx := HOX.out (itR xs[j]) (by rw [← HM.out]; exact List.mem_map_of_mem (List.getElem_mem hjx))
            obtain ⟨x, Hx⟩ := hid_ex xs[j]
            rw [← Hx.out] at hokx
            obtain ⟨xv, xD, xf, xz, xg⟩ := x
            obtain ⟨hx1, hx2, hxin⟩ := hokx
            obtain ⟨b, o, rfl, hn1, hs1⟩ := HT.out.nine hjx Hx.out.symm
            obtain ⟨va, vc, hv, -⟩ := hs1.form
            obtain ⟨vn, Hvn⟩ := hid_ex xD.length
            rw [← Hvn.out] at hv
            subst hv
            have hf0 : 0 ≤ xf ∧ xf ≤ 1099511627776 := hx1.f
            have HN1 : Hid (N9 wr b (o + j * 9) (.slice va vn vc) xf xz xg.c (hi xg.s) (lo xg.s) xg.mn xg.mx xg.o) := hn1.below HW.out
            have HGE : Hid (∀ W, Below wr.heap.size wr W → Calls Tryz.prog 10 #[.agg #[.slice R.a R.len R.cap, .int .i64 R.kp], .int .i64 wm, .slice a ln cap, .slice va vn vc, .int .i64 xf] W fun e W' => Below W.heap.size W W' ∧ ∃ (ra : Option Addr) (rn rp : Nat) (rf : Int) (rz : Nat) (rg : Ag), e = .returned (.tuple #[.agg #[.slice ra rn rp, .int .i64 rf, .int .i64 (rz : Int), .int .u64 rg.c, .bool rg.o, .int .i64 (hi rg.s), .int .u64 (lo rg.s), .int .i64 rg.mn, .int .i64 rg.mx], .bool true, .int .i64 0]) ∧ xg.c ≤ rg.c ∧ xz ≤ rz ∧ rf ≤ xf ∧ (xz = rz → rf = xf)) := fun W hW =>
              get_each17 (HGC.out _ xD xf W HOK2.out (HB3.out.trans ((HW.out.trans (hW.mono HW.out.size)).mono HB3.out.size)) ((hs1.below HW.out).below hW) ⟨by omega, by omega⟩) HCK.out HCN.out hx1 hxin
            have HXr : Hid (wr.heap[w.heap.size]? = some (.cells #[.slice R.a R.len R.cap, .int .i64 R.kp] 24)) := (HW.out.block _ (Array.getElem?_eq_some_iff.1 HX3.out).1).trans HX3.out
            have hxl : w.heap.size < wr.heap.size := (Array.getElem?_eq_some_iff.1 HXr.out).1
            clear hn1 hs1 hx1 hx2 hxin Hx Hvn
            go_wp2_with fail
            refine wp_region_noPanic ?_
            refine wp_region_held_drew (S := (fun w' => Below wr.heap.size wr w')) (by kernel_rfl) ?_ (fun hHeld => ?_)
            · exact (Below.refl _ _).drew
            refine wpAnyH_take (i := 0) (v := .agg #[.slice R.a R.len R.cap, .int .i64 R.kp]) rfl (by kernel_rfl) (by kernel_rfl) (by kernel_rfl) (fun _ _ _ h => h) (Or.inl ⟨by rfl, ?_⟩) (by assumption) ?_
            · (intro w1 hSw; (try dsimp only at hSw); have gx := (hSw.block _ hxl).trans HXr.out; have g0 := (cell_row gx 0 (by simp)).1; have g1 := (cell_row gx 1 (by simp)).1; simp only [List.getElem_toArray, List.getElem_cons_zero, List.getElem_cons_succ] at g0 g1; go_simp)
            simp only [List.getElem_toArray, List.getElem_cons_zero, Act.put, List.setIfInBounds_toArray, List.set_cons_zero, List.set_cons_succ]
            refine wpAnyH_take (i := 1) (v := .int .i64 wm) rfl (by kernel_rfl) (by kernel_rfl) (by kernel_rfl) (fun _ _ _ h => h) (Or.inl ⟨by rfl, ?_⟩) (by assumption) ?_
            · (intro w1 hSw; (try dsimp only at hSw); go_simp)
            simp only [List.getElem_toArray, List.getElem_cons_succ, List.getElem_cons_zero, Act.put, List.setIfInBounds_toArray, List.set_cons_zero, List.set_cons_succ]
            refine wpAnyH_take (i := 2) (v := .slice a ln cap) rfl (by kernel_rfl) (by kernel_rfl) (by kernel_rfl) (fun _ _ _ h => h) (Or.inl ⟨by rfl, ?_⟩) (by assumption) ?_
            · (intro w1 hSw; (try dsimp only at hSw); go_simp)
            simp only [List.getElem_toArray, List.getElem_cons_succ, List.getElem_cons_zero, Act.put, List.setIfInBounds_toArray, List.set_cons_zero, List.set_cons_succ]
            refine wpAnyH_take (i := 3) (v := .slice (some ⟨b, o, none⟩) n xc) rfl (by kernel_rfl) (by kernel_rfl) (by kernel_rfl) (fun _ _ _ h => h) (Or.inl ⟨by rfl, ?_⟩) (by assumption) ?_
            · (intro w1 hSw; (try dsimp only at hSw); go_simp)
            simp only [List.getElem_toArray, List.getElem_cons_succ, List.getElem_cons_zero, Act.put, List.setIfInBounds_toArray, List.set_cons_zero, List.set_cons_succ]
            refine wpAnyH_take (i := 4) (v := .int .i64 (j : Int)) rfl (by kernel_rfl) (by kernel_rfl) (by kernel_rfl) (fun _ _ _ h => h) (Or.inl ⟨by rfl, ?_⟩) (by assumption) ?_
            · (intro w1 hSw; (try dsimp only at hSw); go_simp)
            simp only [List.getElem_toArray, List.getElem_cons_succ, List.getElem_cons_zero, Act.put, List.setIfInBounds_toArray, List.set_cons_zero, List.set_cons_succ]
            refine wpAnyH_take (i := 5) (v := .pointer (some ⟨b, o + j * 9, none⟩)) rfl (by kernel_rfl) (by kernel_rfl) (by kernel_rfl) (fun _ _ _ h => h) (Or.inl ⟨by rfl, ?_⟩) (by assumption) ?_
            · (intro w1 hSw; (try dsimp only at hSw); go_simp)
            simp only [List.getElem_toArray, List.getElem_cons_succ, List.getElem_cons_zero, Act.put, List.setIfInBounds_toArray, List.set_cons_zero, List.set_cons_succ]
            refine wpAnyH_take (i := 6) (v := .pointer (some ⟨b, o + j * 9, none⟩)) rfl (by kernel_rfl) (by kernel_rfl) (by kernel_rfl) (fun _ _ _ h => h) (Or.inl ⟨by rfl, ?_⟩) (by assumption) ?_
            · (intro w1 hSw; (try dsimp only at hSw); go_simp)
            simp only [List.getElem_toArray, List.getElem_cons_succ, List.getElem_cons_zero, Act.put, List.setIfInBounds_toArray, List.set_cons_zero, List.set_cons_succ]
            refine wpAnyH_take (i := 7) (v := .slice va vn vc) rfl (by kernel_rfl) (by kernel_rfl) (by kernel_rfl) (fun _ _ _ h => h) (Or.inl ⟨by rfl, ?_⟩) (by assumption) ?_
            · (intro w1 hSw; (try dsimp only at hSw); have g0 := (HN1.out.below hSw).c0; go_simp)
            simp only [List.getElem_toArray, List.getElem_cons_succ, List.getElem_cons_zero, Act.put, List.setIfInBounds_toArray, List.set_cons_zero, List.set_cons_succ]
            refine wpAnyH_take (i := 8) (v := .slice (some ⟨b, o, none⟩) n xc) rfl (by kernel_rfl) (by kernel_rfl) (by kernel_rfl) (fun _ _ _ h => h) (Or.inl ⟨by rfl, ?_⟩) (by assumption) ?_
            · (intro w1 hSw; (try dsimp only at hSw); go_simp)
            simp only [List.getElem_toArray, List.getElem_cons_succ, List.getElem_cons_zero, Act.put, List.setIfInBounds_toArray, List.set_cons_zero, List.set_cons_succ]
            refine wpAnyH_take (i := 9) (v := .int .i64 (j : Int)) rfl (by kernel_rfl) (by kernel_rfl) (by kernel_rfl) (fun _ _ _ h => h) (Or.inl ⟨by rfl, ?_⟩) (by assumption) ?_
            · (intro w1 hSw; (try dsimp only at hSw); go_simp)
            simp only [List.getElem_toArray, List.getElem_cons_succ, List.getElem_cons_zero, Act.put, List.setIfInBounds_toArray, List.set_cons_zero, List.set_cons_succ]
            refine wpAnyH_take (i := 10) (v := .pointer (some ⟨b, o + j * 9, none⟩)) rfl (by kernel_rfl) (by kernel_rfl) (by kernel_rfl) (fun _ _ _ h => h) (Or.inl ⟨by rfl, ?_⟩) (by assumption) ?_
            · (intro w1 hSw; (try dsimp only at hSw); go_simp)
            simp only [List.getElem_toArray, List.getElem_cons_succ, List.getElem_cons_zero, Act.put, List.setIfInBounds_toArray, List.set_cons_zero, List.set_cons_succ]
            refine wpAnyH_take (i := 11) (v := .pointer (some ⟨b, o + j * 9 + 1, none⟩)) rfl (by kernel_rfl) (by kernel_rfl) (by kernel_rfl) (fun _ _ _ h => h) (Or.inl ⟨by rfl, ?_⟩) (by assumption) ?_
            · (intro w1 hSw; (try dsimp only at hSw); go_simp)
            simp only [List.getElem_toArray, List.getElem_cons_succ, List.getElem_cons_zero, Act.put, List.setIfInBounds_toArray, List.set_cons_zero, List.set_cons_succ]
            refine wpAnyH_take (i := 12) (v := .int .i64 xf) rfl (by kernel_rfl) (by kernel_rfl) (by kernel_rfl) (fun _ _ _ h => h) (Or.inl ⟨by rfl, ?_⟩) (by assumption) ?_
            · (intro w1 hSw; (try dsimp only at hSw); have g0 := (HN1.out.below hSw).c1; go_simp)
            simp only [List.getElem_toArray, List.getElem_cons_succ, List.getElem_cons_zero, Act.put, List.setIfInBounds_toArray, List.set_cons_zero, List.set_cons_succ]
            refine wpAnyH_ready (rs := [13, 18]) (by kernel_rfl) (by simp) ?_
            refine AllReadyH.cons (o := _) rfl (fun K hK => ?_) (AllReadyH.cons (o := _) rfl (fun K hK => ?_) AllReadyH.nil)
            · go_simp
              refine (HGE.out _ (Below.refl _ _).drew).mono ?_
              rintro e W3 ⟨hb3, ra, rn, rp, rf, rz, rg, rfl, hq⟩
              have HQ : Hid (xg.c ≤ rg.c ∧ xz ≤ rz ∧ rf ≤ xf ∧ (xz = rz → rf = xf)) := hq
              have HW3 : Hid (Below wr.heap.size wr W3) := (Below.refl wr.heap.size wr).drew.trans hb3
              clear hq
              clear hb3
              refine hK.out _ _ ?_ (fun hHeld => ?_)
              · exact HW3.out
              clear hK K
              refine wpAnyH_take (i := 14) (v := .tuple #[.agg #[.slice ra rn rp, .int .i64 rf, .int .i64 (rz : Int), .int .u64 rg.c, .bool rg.o, .int .i64 (hi rg.s), .int .u64 (lo rg.s), .int .i64 rg.mn, .int .i64 rg.mx], .bool true, .int .i64 0]) rfl (by kernel_rfl) (by kernel_rfl) (by kernel_rfl) (fun _ _ _ h => h) (Or.inl ⟨by rfl, ?_⟩) (by assumption) ?_
              · (intro w1 hSw; (try dsimp only at hSw); go_simp)
              simp only [List.getElem_toArray, List.getElem_cons_succ, List.getElem_cons_zero, Act.put, List.setIfInBounds_toArray, List.set_cons_zero, List.set_cons_succ]
              refine wpAnyH_take (i := 15) (v := .agg #[.slice ra rn rp, .int .i64 rf, .int .i64 (rz : Int), .int .u64 rg.c, .bool rg.o, .int .i64 (hi rg.s), .int .u64 (lo rg.s), .int .i64 rg.mn, .int .i64 rg.mx]) rfl (by kernel_rfl) (by kernel_rfl) (by kernel_rfl) (fun _ _ _ h => h) (Or.inl ⟨by rfl, ?_⟩) (by assumption) ?_
              · (intro w1 hSw; (try dsimp only at hSw); go_simp)
              simp only [List.getElem_toArray, List.getElem_cons_succ, List.getElem_cons_zero, Act.put, List.setIfInBounds_toArray, List.set_cons_zero, List.set_cons_succ]
              refine wpAnyH_take (i := 16) (v := .bool true) rfl (by kernel_rfl) (by kernel_rfl) (by kernel_rfl) (fun _ _ _ h => h) (Or.inl ⟨by rfl, ?_⟩) (by assumption) ?_
              · (intro w1 hSw; (try dsimp only at hSw); go_simp)
              simp only [List.getElem_toArray, List.getElem_cons_succ, List.getElem_cons_zero, Act.put, List.setIfInBounds_toArray, List.set_cons_zero, List.set_cons_succ]
              refine wpAnyH_take (i := 17) (v := .int .i64 0) rfl (by kernel_rfl) (by kernel_rfl) (by kernel_rfl) (fun _ _ _ h => h) (Or.inl ⟨by rfl, ?_⟩) (by assumption) ?_
              · (intro w1 hSw; (try dsimp only at hSw); go_simp)
              simp only [List.getElem_toArray, List.getElem_cons_succ, List.getElem_cons_zero, Act.put, List.setIfInBounds_toArray, List.set_cons_zero, List.set_cons_succ]
              refine wpAnyH_ready (rs := [18]) (by kernel_rfl) (by simp) ?_
              refine AllReadyH.cons (o := _) rfl (fun K hK => ?_) AllReadyH.nil
              go_simp
              have HZ9 : Hid ((W3.alloc (.cells #[.slice none 0 0, .int .i64 0, .int .i64 0, .int .u64 0, .bool false, .int .i64 0, .int .u64 0, .int .i64 0, .int .i64 0] 38)).heap[W3.heap.size]? = some (.cells #[.slice none 0 0, .int .i64 0, .int .i64 0, .int .u64 0, .bool false, .int .i64 0, .int .u64 0, .int .i64 0, .int .i64 0] 38)) := heap_alloc_new _ _
              have HW4 : Hid (Below wr.heap.size wr (W3.alloc (.cells #[.slice none 0 0, .int .i64 0, .int .i64 0, .int .u64 0, .bool false, .int .i64 0, .int .u64 0, .int .i64 0, .int .i64 0] 38))) := HW3.out.alloc HW3.out.size _
              refine hK.out _ _ ?_ (fun hHeld => ?_)
              · exact HW4.out
              clear hK K
              refine wpAnyH_ready (rs := [19]) (by kernel_rfl) (by simp) ?_
              refine AllReadyH.cons (o := _) rfl (fun K hK => ?_) AllReadyH.nil
              refine wp_storeN _ _ _ rfl W3.heap.size 0 [.slice ra rn rp, .int .i64 rf, .int .i64 (rz : Int), .int .u64 rg.c, .bool rg.o, .int .i64 (hi rg.s), .int .u64 (lo rg.s), .int .i64 rg.mn, .int .i64 rg.mx] rfl rfl _ _ HZ9.out (by simp) (by kernel_rfl) (by kernel_rfl) (fun W9 hW9 => ?_)
              have HK9 : Hid (W9.heap[W3.heap.size]? = some (.cells #[.slice ra rn rp, .int .i64 rf, .int .i64 (rz : Int), .int .u64 rg.c, .bool rg.o, .int .i64 (hi rg.s), .int .u64 (lo rg.s), .int .i64 rg.mn, .int .i64 rg.mx] 38)) := box9 hW9 rfl
              have HW9 : Hid (Below wr.heap.size wr W9) := HW4.out.trans (hW9.b _ HW3.out.size)
              clear hW9 HZ9 HW4 HW3
              refine hK.out _ _ ?_ (fun hHeld => ?_)
              · exact HW9.out
              clear hK K
              refine wpAnyH_ready (rs := [20]) (by kernel_rfl) (by simp) ?_
              refine AllReadyH.cons (o := _) rfl (fun K hK => ?_) AllReadyH.nil
              go_simp
              refine hK.out _ _ ?_ (fun hHeld => ?_)
              · exact HW9.out
              clear hK K
              refine wpAnyH_ready (rs := [21]) (by kernel_rfl) (by simp) ?_
              refine AllReadyH.cons (o := _) rfl (fun K hK => ?_) AllReadyH.nil
              go_simp
              refine hK.out _ _ ?_ (fun hHeld => ?_)
              · exact HW9.out
              clear hK K
              clear hHeld
              refine wpAnyH_done (by kernel_rfl) ?_ _
              refine NoPanic.normal ?_
              have HNp : Hid (N9 W9 W3.heap.size 0 (.slice ra rn rp) rf rz rg.c (hi rg.s) (lo rg.s) rg.mn rg.mx rg.o) := n9_box HK9.out
              have HNx : Hid (N9 W9 b (o + j * 9) (.slice va vn vc) xf xz xg.c (hi xg.s) (lo xg.s) xg.mn xg.mx xg.o) := HN1.out.below HW9.out
              have HBW : Hid (Below w3.heap.size w3 W9) := HW.out.trans (HW9.out.mono HW.out.size)
              have p1 := HNp.out.c1
              have p2 := HNp.out.c2
              have p3 := HNp.out.c3
              have z1 := HNx.out.c1
              have z2 := HNx.out.c2
              have z3 := HNx.out.c3
              simp only [Nat.zero_add] at p1 p2 p3
              obtain ⟨q1, q2, q3, q4⟩ := HQ.out
              have r1 : ¬ rg.c < xg.c := by omega
              have r2 : ¬ (rz : Int) < (xz : Int) := by omega
              have r3 : ¬ xf < rf := by omega
              clear HNp HNx HK9 HW9 HQ HN1 HW
              by_cases heq : xz = rz
              · have hrf := q4 heq
                subst heq
                subst hrf
                go_wp2_with fail
                go_quiet (fail)
                have HBN : Hid (Below w3.heap.size w3 (W9.drewN nq)) := below_drewN HBW.out nq
                clear p1 p2 p3 z1 z2 z3
                go_wp2_with fail
                go_roundw
                case rel => exact ⟨j + 1, by go_num, by omega, HBN⟩
                case measure => simp [intOf]; omega
              · have heq' : ¬ (xz : Int) = (rz : Int) := by omega
                go_wp2_with fail
                go_quiet (fail)
                have HBN : Hid (Below w3.heap.size w3 (W9.drewN nq)) := below_drewN HBW.out nq
                clear p1 p2 p3 z1 z2 z3
                go_wp2_with fail
                go_roundw
                case rel => exact ⟨j + 1, by go_num, by omega, HBN⟩
                case measure => simp [intOf]; omega
            · go_simp
              have HZ0 : Hid ((wr.drew.alloc (.cells #[.slice none 0 0, .int .i64 0, .int .i64 0, .int .u64 0, .bool false, .int .i64 0, .int .u64 0, .int .i64 0, .int .i64 0] 38)).heap[wr.drew.heap.size]? = some (.cells #[.slice none 0 0, .int .i64 0, .int .i64 0, .int .u64 0, .bool false, .int .i64 0, .int .u64 0, .int .i64 0, .int .i64 0] 38)) := heap_alloc_new _ _
              have HW0 : Hid (Below wr.heap.size wr (wr.drew.alloc (.cells #[.slice none 0 0, .int .i64 0, .int .i64 0, .int .u64 0, .bool false, .int .i64 0, .int .u64 0, .int .i64 0, .int .i64 0] 38))) := (Below.refl wr.heap.size wr).drew.alloc (Nat.le_refl _) _
              refine hK.out _ _ ?_ (fun hHeld => ?_)
              · exact HW0.out
              clear hK K
              refine wpAnyH_ready (rs := [13]) (by kernel_rfl) (by simp) ?_
              refine AllReadyH.cons (o := _) rfl (fun K hK => ?_) AllReadyH.nil
              go_simp
              refine (HGE.out _ HW0.out).mono ?_
              rintro e W3 ⟨hb3, ra, rn, rp, rf, rz, rg, rfl, hq⟩
              have HQ : Hid (xg.c ≤ rg.c ∧ xz ≤ rz ∧ rf ≤ xf ∧ (xz = rz → rf = xf)) := hq
              have HW3 : Hid (Below wr.heap.size wr W3) := HW0.out.trans (hb3.mono HW0.out.size)
              clear hq
              have HZ9 : Hid (W3.heap[wr.drew.heap.size]? = some (.cells #[.slice none 0 0, .int .i64 0, .int .i64 0, .int .u64 0, .bool false, .int .i64 0, .int .u64 0, .int .i64 0, .int .i64 0] 38)) := (hb3.block _ (Array.getElem?_eq_some_iff.1 HZ0.out).1).trans HZ0.out
              clear hb3
              refine hK.out _ _ ?_ (fun hHeld => ?_)
              · exact HW3.out
              clear hK K
              refine wpAnyH_take (i := 14) (v := .tuple #[.agg #[.slice ra rn rp, .int .i64 rf, .int .i64 (rz : Int), .int .u64 rg.c, .bool rg.o, .int .i64 (hi rg.s), .int .u64 (lo rg.s), .int .i64 rg.mn, .int .i64 rg.mx], .bool true, .int .i64 0]) rfl (by kernel_rfl) (by kernel_rfl) (by kernel_rfl) (fun _ _ _ h => h) (Or.inl ⟨by rfl, ?_⟩) (by assumption) ?_
              · (intro w1 hSw; (try dsimp only at hSw); go_simp)
              simp only [List.getElem_toArray, List.getElem_cons_succ, List.getElem_cons_zero, Act.put, List.setIfInBounds_toArray, List.set_cons_zero, List.set_cons_succ]
              refine wpAnyH_take (i := 15) (v := .agg #[.slice ra rn rp, .int .i64 rf, .int .i64 (rz : Int), .int .u64 rg.c, .bool rg.o, .int .i64 (hi rg.s), .int .u64 (lo rg.s), .int .i64 rg.mn, .int .i64 rg.mx]) rfl (by kernel_rfl) (by kernel_rfl) (by kernel_rfl) (fun _ _ _ h => h) (Or.inl ⟨by rfl, ?_⟩) (by assumption) ?_
              · (intro w1 hSw; (try dsimp only at hSw); go_simp)
              simp only [List.getElem_toArray, List.getElem_cons_succ, List.getElem_cons_zero, Act.put, List.setIfInBounds_toArray, List.set_cons_zero, List.set_cons_succ]
              refine wpAnyH_take (i := 16) (v := .bool true) rfl (by kernel_rfl) (by kernel_rfl) (by kernel_rfl) (fun _ _ _ h => h) (Or.inl ⟨by rfl, ?_⟩) (by assumption) ?_
              · (intro w1 hSw; (try dsimp only at hSw); go_simp)
              simp only [List.getElem_toArray, List.getElem_cons_succ, List.getElem_cons_zero, Act.put, List.setIfInBounds_toArray, List.set_cons_zero, List.set_cons_succ]
              refine wpAnyH_take (i := 17) (v := .int .i64 0) rfl (by kernel_rfl) (by kernel_rfl) (by kernel_rfl) (fun _ _ _ h => h) (Or.inl ⟨by rfl, ?_⟩) (by assumption) ?_
              · (intro w1 hSw; (try dsimp only at hSw); go_simp)
              simp only [List.getElem_toArray, List.getElem_cons_succ, List.getElem_cons_zero, Act.put, List.setIfInBounds_toArray, List.set_cons_zero, List.set_cons_succ]
              refine wpAnyH_ready (rs := [19]) (by kernel_rfl) (by simp) ?_
              refine AllReadyH.cons (o := _) rfl (fun K hK => ?_) AllReadyH.nil
              refine wp_storeN _ _ _ rfl wr.drew.heap.size 0 [.slice ra rn rp, .int .i64 rf, .int .i64 (rz : Int), .int .u64 rg.c, .bool rg.o, .int .i64 (hi rg.s), .int .u64 (lo rg.s), .int .i64 rg.mn, .int .i64 rg.mx] rfl rfl _ _ HZ9.out (by simp) (by kernel_rfl) (by kernel_rfl) (fun W9 hW9 => ?_)
              have HK9 : Hid (W9.heap[wr.heap.size]? = some (.cells #[.slice ra rn rp, .int .i64 rf, .int .i64 (rz : Int), .int .u64 rg.c, .bool rg.o, .int .i64 (hi rg.s), .int .u64 (lo rg.s), .int .i64 rg.mn, .int .i64 rg.mx] 38)) := box9 hW9 rfl
              have HW9 : Hid (Below wr.heap.size wr W9) := HW3.out.trans (hW9.b _ (Nat.le_refl _))
              clear hW9 HZ9 HZ0 HW0 HW3
              refine hK.out _ _ ?_ (fun hHeld => ?_)
              · exact HW9.out
              clear hK K
              refine wpAnyH_ready (rs := [20]) (by kernel_rfl) (by simp) ?_
              refine AllReadyH.cons (o := _) rfl (fun K hK => ?_) AllReadyH.nil
              go_simp
              refine hK.out _ _ ?_ (fun hHeld => ?_)
              · exact HW9.out
              clear hK K
              refine wpAnyH_ready (rs := [21]) (by kernel_rfl) (by simp) ?_
              refine AllReadyH.cons (o := _) rfl (fun K hK => ?_) AllReadyH.nil
              go_simp
              refine hK.out _ _ ?_ (fun hHeld => ?_)
              · exact HW9.out
              clear hK K
              clear hHeld
              refine wpAnyH_done (by kernel_rfl) ?_ _
              refine NoPanic.normal ?_
              have HNp : Hid (N9 W9 wr.heap.size 0 (.slice ra rn rp) rf rz rg.c (hi rg.s) (lo rg.s) rg.mn rg.mx rg.o) := n9_box HK9.out
              have HNx : Hid (N9 W9 b (o + j * 9) (.slice va vn vc) xf xz xg.c (hi xg.s) (lo xg.s) xg.mn xg.mx xg.o) := HN1.out.below HW9.out
              have HBW : Hid (Below w3.heap.size w3 W9) := HW.out.trans (HW9.out.mono HW.out.size)
              have p1 := HNp.out.c1
              have p2 := HNp.out.c2
              have p3 := HNp.out.c3
              have z1 := HNx.out.c1
              have z2 := HNx.out.c2
              have z3 := HNx.out.c3
              simp only [Nat.zero_add] at p1 p2 p3
              obtain ⟨q1, q2, q3, q4⟩ := HQ.out
              have r1 : ¬ rg.c < xg.c := by omega
              have r2 : ¬ (rz : Int) < (xz : Int) := by omega
              have r3 : ¬ xf < rf := by omega
              clear HNp HNx HK9 HW9 HQ HN1 HW
              by_cases heq : xz = rz
              · have hrf := q4 heq
                subst heq
                subst hrf
                go_wp2_with fail
                go_quiet (fail)
                have HBN : Hid (Below w3.heap.size w3 (W9.drewN nq)) := below_drewN HBW.out nq
                clear p1 p2 p3 z1 z2 z3
                go_wp2_with fail
                go_roundw
                case rel => exact ⟨j + 1, by go_num, by omega, HBN⟩
                case measure => simp [intOf]; omega
              · have heq' : ¬ (xz : Int) = (rz : Int) := by omega
                go_wp2_with fail
                go_quiet (fail)
                have HBN : Hid (Below w3.heap.size w3 (W9.drewN nq)) := below_drewN HBW.out nq
                clear p1 p2 p3 z1 z2 z3
                go_wp2_with fail
                go_roundw
                case rel => exact ⟨j + 1, by go_num, by omega, HBN⟩
                case measure => simp [intOf]; omega
          · obtain rfl : n = j := by omega
            have HB4 : Hid (Below w.heap.size w wr) := HB3.out.trans (HW.out.mono HB3.out.size)
            have HX4 : Hid (wr.heap[w.heap.size]? = some (.cells #[.slice R.a R.len R.cap, .int .i64 R.kp] 24)) := (HW.out.block _ (Array.getElem?_eq_some_iff.1 HX3.out).1).trans HX3.out
            have HY4 : Hid (wr.heap[w.heap.size + 1]? = some (.cells #[.slice da dn dc, .int .i64 qt, .int .i64 qf, .int .i64 qu, .int .i64 qm] 28)) := (HW.out.block _ (Array.getElem?_eq_some_iff.1 HY3.out).1).trans HY3.out
            have HT4 : Hid (TReads wr (.slice xa n xc) xs) := HT.out.below HW.out
            have HG4 : Hid (Calls Tryz.prog 10 #[.agg #[.slice R.a R.len R.cap, .int .i64 R.kp], .int .i64 wm, .slice a ln cap, .slice da dn dc, .int .i64 qt] wr (G17 R wm L qD qt wr)) := HGC.out _ qD qt wr HOK2.out HB4.out (HD.out.below HB4.out) ⟨ht1, ht2⟩
            have hlt' : ¬ (n : Int) < (n : Int) := by omega
            have HK0 : Hid _ := hK0
            clear hK0
            go_wp2_with fail
            refine HK0.out _ _ ?_
            exact each_tail R wm L a ln cap da dn dc qD qt qf qu qm w wr xa xc xs n hbn ht1 ht2 HB4 HX4 HY4 HT4 HG4 HD HCK HCN HM HOX Hn _ _ _ _ _ _ _ _ _ _ _ _ _ _ _ _ _ _ _ _ _ _ _ _ _ _ _ _ _ _ _ _ _ _ _ _ _ _ _ _ _ _ _ _ _ _ _ _ _ _ _ _ _ _ _ _ _ _ _ _ _ _ _ _ _ _ _ _ _ _ _ _ _ _ _ _ _ _ _ _ _ _ _ _ _ _ _ _ _ _ _ _ _ _ _ _ _ _ _ _ _ _ _ _ _ _ _ _ _ _ _ _ _ _ _ _ _ _ _ _ _ _ _ _ _ _ _ _ _ _ _ _ _ _ _ _ _ _ _ _ _ _ _ _ _ _ _ _ _ _ _ _ _ _ _ _ _ _ _ _ _ _ _ _ _ _ _ _ _ _ _ _ _ _ _ _ _ _ _ _ _ _ _ _ 
      · have hcb : (c1 == 0) = false := by simp [hc1]
        have hcb' : (c1 != 0) = true := by simp [hc1]
        have HBx := HB3
        clear HM Hc1 HT HCH
        clear HOK2 HSC HGC
        go_wp2_with fail
        refine (HAL.out _ HBx.out).mono ?_
        rintro e w6 ⟨rfl, hb6⟩
        have HB6 : Hid (Below w.heap.size w w6) := hb6
        clear hb6
        go_wp2_with fail
        go_ret
        exact ⟨rfl, HB6.out⟩
end Go.Proofs.YtoenijflijfogaaGreat
