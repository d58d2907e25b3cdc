/- CL2, joined. -/
import Derived.Test.YtoenijflijfogaaRF41
import Derived.Test.YtoenijflijfogaaRF42
import Derived.Test.YtoenijflijfogaaRF44
/- Layer 17: AskAll's walk (written by mkcl.py). -/
namespace Go.Proofs.Ytoenijflijfogaa
open Go.RowKit

theorem all_pure {R : Rl} {wm : Int} {L : List En} {qf qu qm : Int} (hn : ∀ x ∈ L, CnOk x.2) {xs os ys : List It} (h1 : xs.map itR = scQ R wm L [] qf qu) (h2 : os.map itR = rlQ R wm L 0 qf qu) (h3 : ys.map itR = rlQ R wm L qm qf qu) :
    (scE R wm L [] qf qu ≠ 0 → rlE R wm L 0 qf qu = scE R wm L [] qf qu ∧ (rlE R wm L qm qf qu = scE R wm L [] qf qu ∨ qm < 0)) ∧
    (scE R wm L [] qf qu = 0 → rlE R wm L 0 qf qu = 0 ∧ (rlE R wm L qm qf qu ≠ 0 → qm < 0) ∧ (rlE R wm L qm qf qu = 0 → 0 ≤ qm) ∧ (∀ x ∈ xs, Gd x.a ∧ x.D.length ≤ 1000) ∧
      ((xs = [] ∧ os = [] ∧ ys = []) ∨ (xs ≠ [] ∧ ∃ oy, os = [oy] ∧ oy.D = [] ∧ oy.a = sumB (xs.map itR))) ∧
      (rlE R wm L qm qf qu = 0 → (∀ y ∈ ys, Gd y.a ∧ y.a = sumB ((xs.map itR).filter (prt qm.toNat y.D))) ∧ (∀ i (h : i + 1 < ys.length), cmpL (ys[i]'(by omega)).D ys[i + 1].D < 0) ∧ sumB (ys.map itR) = sumB (xs.map itR))) := by
  have hr0 : rightBK [] 0 0 = true := by decide
  by_cases hc : chkF R wm L = 0
  · by_cases hr : 0 ≤ qf ∧ qf ≤ qu ∧ qu ≤ 1099511627776
    · obtain ⟨e1, q1⟩ := scE_ok (R := R) (wm := wm) (L := L) (D := []) hc hr0 hr
      obtain ⟨e2, q2⟩ := rlE_ok (R := R) (wm := wm) (L := L) (mk := 0) hc (by decide) hr
      rw [q1] at h1
      rw [q2, show Int.toNat 0 = 0 from rfl, rol_scan, ← h1] at h2
      have hA : ∀ x ∈ xs, RwA (itR x) := fun x hx => by
        have hm : itR x ∈ scanF [] qf qu (rowsE R wm L) := by rw [← h1]; exact List.mem_map_of_mem hx
        exact rows_ok hc hn _ (List.mem_filter.1 hm).1
      have hG : ∀ z ∈ xs.map itR, Gd z.a := fun z hz => by
        obtain ⟨x, hx, rfl⟩ := List.mem_map.1 hz
        exact (hA x hx).a
      refine ⟨fun h => absurd e1 h, fun _ => ⟨e2, ?_, ?_, ?_, ?_, ?_⟩⟩
      · intro h
        by_cases hm : qm < 0
        · exact hm
        · exact absurd (rlE_ok (R := R) (wm := wm) (L := L) (mk := qm) hc hm hr).1 h
      · intro h
        by_cases hm : qm < 0
        · rw [(rlE_neg (R := R) (wm := wm) (L := L) (f := qf) (t := qu) hc hm).1] at h
          exact absurd h (by decide)
        · omega
      · intro x hx
        have h5 := hA x hx
        exact ⟨h5.a, by have := (mayB_iff.1 h5.m).1; simp only [itR] at this; omega⟩
      · rcases rol_none qf qu (xs.map itR) with ⟨k1, k2⟩ | ⟨k1, y, k2, k3, k4⟩
        · refine .inl ⟨List.map_eq_nil_iff.1 k1, ?_, ?_⟩
          · rw [k2] at h2
            exact List.map_eq_nil_iff.1 h2
          · by_cases hm : qm < 0
            · rw [(rlE_neg (R := R) (wm := wm) (L := L) (f := qf) (t := qu) hc hm).2] at h3
              exact List.map_eq_nil_iff.1 h3
            · rw [(rlE_ok (R := R) (wm := wm) (L := L) (mk := qm) hc hm hr).2, rol_scan, ← h1, k1] at h3
              exact List.map_eq_nil_iff.1 h3
        · refine .inr ⟨fun e => k1 (by rw [e]; rfl), ?_⟩
          rw [k2] at h2
          match os, h2 with
          | [o], h2 =>
            have h6 : itR o = y := by simpa using h2
            exact ⟨o, rfl, by rw [← h6] at k3; exact k3, by rw [← h6] at k4; exact k4⟩
      · intro h
        have hm : ¬ qm < 0 := fun hm => by
          rw [(rlE_neg (R := R) (wm := wm) (L := L) (f := qf) (t := qu) hc hm).1] at h
          exact absurd h (by decide)
        rw [(rlE_ok (R := R) (wm := wm) (L := L) (mk := qm) hc hm hr).2, rol_scan, ← h1] at h3
        obtain ⟨p1, _⟩ := rolF_part qm.toNat qf qu _ (xs.map itR) rfl
        obtain ⟨s1, _⟩ := rolF_sum qm.toNat qf qu _ (xs.map itR) rfl hG
        have hs := rolF_srt qm.toNat qf qu (xs.map itR)
        rw [← h3] at p1 s1 hs
        refine ⟨fun y hy => ⟨s1 (itR y) (List.mem_map_of_mem hy), (p1 (itR y) (List.mem_map_of_mem hy)).1⟩, fun i hi => ?_, ?_⟩
        · have h7 := List.pairwise_iff_getElem.1 hs i (i + 1) (by rw [List.length_map]; omega) (by rw [List.length_map]; omega) (by omega)
          rw [List.getElem_map, List.getElem_map] at h7
          exact h7
        · rw [h3]
          exact rol_parts qm.toNat qf qu hG
    · obtain ⟨e1, _⟩ := scE_rng (R := R) (wm := wm) (L := L) (D := []) hc hr0 hr
      obtain ⟨e2, _⟩ := rlE_rng (R := R) (wm := wm) (L := L) (mk := 0) hc (by decide) hr
      refine ⟨fun _ => ⟨by rw [e1, e2], ?_⟩, fun h => by rw [e1] at h; exact absurd h (by decide)⟩
      by_cases hm : qm < 0
      · exact .inr hm
      · exact .inl (by rw [e1, (rlE_rng (R := R) (wm := wm) (L := L) (mk := qm) hc hm hr).1])
  · obtain ⟨e1, _⟩ := scE_chk (R := R) (wm := wm) (L := L) (D := []) (f := qf) (t := qu) hc
    obtain ⟨e2, _⟩ := rlE_chk (R := R) (wm := wm) (L := L) (mk := 0) (f := qf) (t := qu) hc
    obtain ⟨e3, _⟩ := rlE_chk (R := R) (wm := wm) (L := L) (mk := qm) (f := qf) (t := qu) hc
    exact ⟨fun _ => ⟨by rw [e1, e2], .inl (by rw [e1, e3])⟩, fun h => by rw [e1] at h; exact absurd h hc⟩

set_option maxRecDepth 100000 in
set_option maxHeartbeats 16000000 in
theorem all17_walk (R : Rl) (wm : Int) (v : Value) (L : List En) (q : Qy) (w : World) (hL : Lies R w.heap.size w) (hE : EReads w v L) (hQ : QLies q w) :
    Calls Try.prog 3 #[.agg #[.slice R.a R.len R.cap, .int .i64 R.kp], .int .i64 wm, v, q.val] w fun e w' => e = .returned (.bool true) ∧ Below w.heap.size w w' := by
  obtain ⟨a, cap, rfl, hm1, hm2⟩ := hE.form
  obtain ⟨qv, qD, qt, qf, qu, qm⟩ := q
  have hqr := hQ.r
  obtain ⟨da, dc, hdv, hdl⟩ := hqr.form
  simp only at hdv
  subst hdv
  obtain ⟨hq1, hq2⟩ := hQ.m
  simp only at hq1 hq2
  have HL : Hid (Lies R w.heap.size w) := hL
  have HE : Hid (EReads w (.slice a L.length cap) L) := hE
  obtain ⟨dn, Hdn⟩ := hid_ex qD.length
  rw [← Hdn.out]
  obtain ⟨w1, HW1⟩ := hid_ex ((w.alloc (.cells #[.slice R.a R.len R.cap, .int .i64 R.kp] 24)).alloc (.cells #[.slice da dn dc, .int .i64 qt, .int .i64 qf, .int .i64 qu, .int .i64 qm] 28))
  have HB1 : Hid (Below w.heap.size w w1) := by rw [HW1.out]; exact ((Below.refl _ _).alloc (Nat.le_refl _) _).alloc (by simp) _
  have HX1 : Hid (w1.heap[w.heap.size]? = some (.cells #[.slice R.a R.len R.cap, .int .i64 R.kp] 24)) := by
    rw [HW1.out]; unfold Hid; exact (Below.heap_alloc _ _ _ (by simp)).trans (heap_alloc_new _ _)
  have HY1 : Hid (w1.heap[w.heap.size + 1]? = some (.cells #[.slice da dn dc, .int .i64 qt, .int .i64 qf, .int .i64 qu, .int .i64 qm] 28)) := by
    rw [HW1.out]; unfold Hid
    have := heap_alloc_new (w.alloc (.cells #[.slice R.a R.len R.cap, .int .i64 R.kp] 24)) (.cells #[.slice da dn dc, .int .i64 qt, .int .i64 qf, .int .i64 qu, .int .i64 qm] 28)
    rw [World.size_alloc] at this; exact this
  have HGR : Hid (Calls Try.prog 5 #[.slice a L.length cap] w1 (Gt15 L w1)) := great15_any _ _ w1 (HE.out.below HB1.out)
  have HAL : Hid (∀ W, Below w.heap.size w W → Calls Try.prog 6 #[] W fun e w' => e = .returned (.bool true) ∧ Below w.heap.size w w') := fun W hW => (alive17_any W).mono fun e w' ⟨h1, h2⟩ => ⟨h1, hW.trans (h2.mono hW.size)⟩
  have HSC : Hid (∀ W, okRow15 L → Below w.heap.size w W → Calls Try.prog 7 #[.agg #[.slice R.a R.len R.cap, .int .i64 R.kp], .int .i64 wm, .slice a L.length cap, .slice none 0 0, .int .i64 qf, .int .i64 qu] W (RwPost (scQ R wm L [] qf qu) (scE R wm L [] qf qu) W)) := fun W hok hW =>
    scan17_any R wm _ L _ [] qf qu W (HL.out.at hW) (HE.out.below hW) (by have := hok.1; omega) (fun x hx => by have := hok.2 x hx; omega) (.inl ⟨rfl, none, 0, rfl, fun _ => rfl⟩)
  have HRL : Hid (∀ mk W, mk ≤ 9223372036854775807 → okRow15 L → Below w.heap.size w W → Calls Try.prog 8 #[.agg #[.slice R.a R.len R.cap, .int .i64 R.kp], .int .i64 wm, .slice a L.length cap, .int .i64 mk, .int .i64 qf, .int .i64 qu] W (RwPost (rlQ R wm L mk qf qu) (rlE R wm L mk qf qu) W)) := fun mk W hmk hok hW =>
    roll17_any R wm _ L mk qf qu W (HL.out.at hW) (HE.out.below hW) (by have := hok.1; omega) (fun x hx => by have := hok.2 x hx; omega) hmk
  have HCN : Hid (∀ x ∈ L, CnOk x.2) := eReads_cn HE.out
  obtain ⟨ln, Hln⟩ := hid_ex L.length
  rw [← Hln.out] at HGR HSC HRL hm1 ⊢
  clear hL hE hQ hqr HE Hdn Hln HL hdl
  unfold Qy.val
  go_enter Try.func3, Try.ntmps3
  go_wp2_with fail
  rw [← HW1.out]
  clear HW1
  refine HGR.out.mono ?_
  clear HGR
  rintro e w' ⟨g, rfl, hok, hw'⟩
  subst w'
  have HOK : Hid (g = false → okRow15 L) := hok
  clear hok
  cases g with
  | true =>
    clear HOK HSC HRL
    go_wp2_with fail
    refine (HAL.out _ HB1.out).mono ?_
    rintro e w2 ⟨rfl, hb2⟩
    have HB2 : Hid (Below w.heap.size w w2) := hb2
    clear hb2
    go_wp2_with fail
    go_ret
    exact ⟨rfl, HB2.out⟩
  | false =>
    have HOK2 : Hid (okRow15 L) := HOK.out rfl
    clear HOK
    have HS1 : Hid (Calls Try.prog 7 #[.agg #[.slice R.a R.len R.cap, .int .i64 R.kp], .int .i64 wm, .slice a ln cap, .slice none 0 0, .int .i64 qf, .int .i64 qu] w1 (RwPost (scQ R wm L [] qf qu) (scE R wm L [] qf qu) w1)) := HSC.out _ HOK2.out HB1.out
    have x0 := (cell_row HX1.out 0 (by simp)).1
    have x1 := (cell_row HX1.out 1 (by simp)).1
    have y2 := (cell_row HY1.out 2 (by simp)).1
    have y3 := (cell_row HY1.out 3 (by simp)).1
    have y4 := (cell_row HY1.out 4 (by simp)).1
    simp only [List.getElem_toArray, List.getElem_cons_zero, List.getElem_cons_succ] at x0 x1 y2 y3 y4
    go_wp2_with fail
    refine HS1.out.mono ?_
    clear HS1 x0 x1 y2 y3 y4
    rintro e w2 ⟨hb2, xa, xc, xs, rfl, hT2, hM2, -⟩
    have HX2 : Hid (w2.heap[w.heap.size]? = some (.cells #[.slice R.a R.len R.cap, .int .i64 R.kp] 24)) := (hb2.block _ (Array.getElem?_eq_some_iff.1 HX1.out).1).trans HX1.out
    have HY2 : Hid (w2.heap[w.heap.size + 1]? = some (.cells #[.slice da dn dc, .int .i64 qt, .int .i64 qf, .int .i64 qu, .int .i64 qm] 28)) := (hb2.block _ (Array.getElem?_eq_some_iff.1 HY1.out).1).trans HY1.out
    have HB2 : Hid (Below w.heap.size w w2) := HB1.out.trans (hb2.mono HB1.out.size)
    have HM1 : Hid (xs.map itR = scQ R wm L [] qf qu) := hM2
    obtain ⟨n, Hn⟩ := hid_ex xs.length
    rw [← Hn.out] at hT2 ⊢
    have HT1 : Hid (TReads w2 (.slice xa n xc) xs) := hT2
    obtain ⟨c1, Hc1⟩ := hid_ex (scE R wm L [] qf qu)
    rw [← Hc1.out]
    
    clear hb2 hT2 hM2 HX1 HY1 HB1
    have HS2 : Hid (Calls Try.prog 8 #[.agg #[.slice R.a R.len R.cap, .int .i64 R.kp], .int .i64 wm, .slice a ln cap, .int .i64 0, .int .i64 qf, .int .i64 qu] w2 (RwPost (rlQ R wm L 0 qf qu) (rlE R wm L 0 qf qu) w2)) := HRL.out _ _ (by decide) HOK2.out HB2.out
    have x0 := (cell_row HX2.out 0 (by simp)).1
    have x1 := (cell_row HX2.out 1 (by simp)).1
    have y2 := (cell_row HY2.out 2 (by simp)).1
    have y3 := (cell_row HY2.out 3 (by simp)).1
    have y4 := (cell_row HY2.out 4 (by simp)).1
    simp only [List.getElem_toArray, List.getElem_cons_zero, List.getElem_cons_succ] at x0 x1 y2 y3 y4
    go_wp2_with fail
    refine HS2.out.mono ?_
    clear HS2 x0 x1 y2 y3 y4
    rintro e w3 ⟨hb3, oa, oc, os, rfl, hT3, hM3, -⟩
    have HX3 : Hid (w3.heap[w.heap.size]? = some (.cells #[.slice R.a R.len R.cap, .int .i64 R.kp] 24)) := (hb3.block _ (Array.getElem?_eq_some_iff.1 HX2.out).1).trans HX2.out
    have HY3 : Hid (w3.heap[w.heap.size + 1]? = some (.cells #[.slice da dn dc, .int .i64 qt, .int .i64 qf, .int .i64 qu, .int .i64 qm] 28)) := (hb3.block _ (Array.getElem?_eq_some_iff.1 HY2.out).1).trans HY2.out
    have HB3 : Hid (Below w.heap.size w w3) := HB2.out.trans (hb3.mono HB2.out.size)
    have HM2 : Hid (os.map itR = rlQ R wm L 0 qf qu) := hM3
    obtain ⟨on, Hon⟩ := hid_ex os.length
    rw [← Hon.out] at hT3 ⊢
    have HT2 : Hid (TReads w3 (.slice oa on oc) os) := hT3
    obtain ⟨c2, Hc2⟩ := hid_ex (rlE R wm L 0 qf qu)
    rw [← Hc2.out]
    
    replace HT1 : Hid (TReads w3 (.slice xa n xc) xs) := HT1.out.below hb3
    clear hb3 hT3 hM3 HX2 HY2 HB2
    have HS3 : Hid (Calls Try.prog 8 #[.agg #[.slice R.a R.len R.cap, .int .i64 R.kp], .int .i64 wm, .slice a ln cap, .int .i64 qm, .int .i64 qf, .int .i64 qu] w3 (RwPost (rlQ R wm L qm qf qu) (rlE R wm L qm qf qu) w3)) := HRL.out _ _ hq2 HOK2.out HB3.out
    have x0 := (cell_row HX3.out 0 (by simp)).1
    have x1 := (cell_row HX3.out 1 (by simp)).1
    have y2 := (cell_row HY3.out 2 (by simp)).1
    have y3 := (cell_row HY3.out 3 (by simp)).1
    have y4 := (cell_row HY3.out 4 (by simp)).1
    simp only [List.getElem_toArray, List.getElem_cons_zero, List.getElem_cons_succ] at x0 x1 y2 y3 y4
    go_wp2_with fail
    refine HS3.out.mono ?_
    clear HS3 x0 x1 y2 y3 y4
    rintro e w4 ⟨hb4, ya, yc, ys, rfl, hT4, hM4, -⟩
    have HX4 : Hid (w4.heap[w.heap.size]? = some (.cells #[.slice R.a R.len R.cap, .int .i64 R.kp] 24)) := (hb4.block _ (Array.getElem?_eq_some_iff.1 HX3.out).1).trans HX3.out
    have HY4 : Hid (w4.heap[w.heap.size + 1]? = some (.cells #[.slice da dn dc, .int .i64 qt, .int .i64 qf, .int .i64 qu, .int .i64 qm] 28)) := (hb4.block _ (Array.getElem?_eq_some_iff.1 HY3.out).1).trans HY3.out
    have HB4 : Hid (Below w.heap.size w w4) := HB3.out.trans (hb4.mono HB3.out.size)
    have HM3 : Hid (ys.map itR = rlQ R wm L qm qf qu) := hM4
    obtain ⟨m, Hm⟩ := hid_ex ys.length
    rw [← Hm.out] at hT4 ⊢
    have HT3 : Hid (TReads w4 (.slice ya m yc) ys) := hT4
    obtain ⟨c3, Hc3⟩ := hid_ex (rlE R wm L qm qf qu)
    rw [← Hc3.out]
    
    replace HT1 : Hid (TReads w4 (.slice xa n xc) xs) := HT1.out.below hb4
    replace HT2 : Hid (TReads w4 (.slice oa on oc) os) := HT2.out.below hb4
    clear hb4 hT4 hM4 HX3 HY3 HB3
    obtain ⟨hp1, hp2⟩ := all_pure HCN.out HM1.out HM2.out HM3.out
    rw [← Hc1.out, ← Hc2.out, ← Hc3.out] at hp1 hp2
    have hbn : n ≤ 9223372036854775807 := by
      obtain ⟨_, _, e1, i1, j1⟩ := HT1.out.form17
      simp only [Value.slice.injEq] at e1
      unfold maxLen at j1
      have := Hn.out
      omega
    have hbm : m ≤ 9223372036854775807 := by
      obtain ⟨_, _, e1, i1, j1⟩ := HT3.out.form17
      simp only [Value.slice.injEq] at e1
      unfold maxLen at j1
      have := Hm.out
      omega
    clear HM1 HM2 HM3 Hc1 Hc2 Hc3 HSC HRL HOK2 HX4
    by_cases hc1 : c1 = 0
    · have HPP := hp2 hc1
      have HP : Hid _ := HPP
      clear hp1 hp2 HPP
      have hc2 : c2 = 0 := HP.out.1
      subst hc1 hc2
      obtain ⟨w5, HW5⟩ := hid_ex ((w4.alloc (.cells #[.int .u64 0, .bool false, .int .i64 0, .int .u64 0, .int .i64 0, .int .i64 0] 40)).alloc (.cells #[.int .u64 0, .bool false, .int .i64 0, .int .u64 0, .int .i64 0, .int .i64 0] 40))
      have HB5 : Hid (Below w4.heap.size w4 w5) := by rw [HW5.out]; exact ((Below.refl _ _).alloc (Nat.le_refl _) _).alloc (by simp) _
      have HS5 : Hid (w5.heap[w4.heap.size]? = some (.cells #[.int .u64 agZ.c, .bool agZ.o, .int .i64 (hi agZ.s), .int .u64 (lo agZ.s), .int .i64 agZ.mn, .int .i64 agZ.mx] 40)) := by
        rw [HW5.out]; unfold Hid; exact (Below.heap_alloc _ _ _ (by simp)).trans (heap_alloc_new _ _)
      have HZ5 : Hid (w5.heap[w4.heap.size + 1]? = some (.cells #[.int .u64 agZ.c, .bool agZ.o, .int .i64 (hi agZ.s), .int .u64 (lo agZ.s), .int .i64 agZ.mn, .int .i64 agZ.mx] 40)) := by
        rw [HW5.out]; unfold Hid
        have := heap_alloc_new (w4.alloc (.cells #[.int .u64 0, .bool false, .int .i64 0, .int .u64 0, .int .i64 0, .int .i64 0] 40)) (.cells #[.int .u64 0, .bool false, .int .i64 0, .int .u64 0, .int .i64 0, .int .i64 0] 40)
        rw [World.size_alloc] at this; exact this
      go_wp2_with fail
      rw [← HW5.out]
      clear HW5
      go_loopw [17] (fun i wr => ∃ (k : Nat) (A : Ag), k ≤ n ∧ i = .int .i64 (k : Int) ∧ Hid (A = sumB ((xs.map itR).take k)) ∧ Hid (wr.heap[w4.heap.size]? = some (.cells #[.int .u64 A.c, .bool A.o, .int .i64 (hi A.s), .int .u64 (lo A.s), .int .i64 A.mn, .int .i64 A.mx] 40)) ∧ Hid (wr.heap[w4.heap.size + 1]? = some (.cells #[.int .u64 agZ.c, .bool agZ.o, .int .i64 (hi agZ.s), .int .u64 (lo agZ.s), .int .i64 agZ.mn, .int .i64 agZ.mx] 40)) ∧ Hid (Below w4.heap.size w4 wr)) (fun i _ => n - (intOf i).toNat)
      case atStart => exact ⟨0, agZ, by omega, by go_num, by show agZ = sumB (List.take 0 _); rw [List.take_zero]; rfl, HS5, HZ5, HB5⟩
      case round =>
        rename_i K0 hK0
        obtain ⟨k, A, hk, rfl, HA, HSr, HZr, HBr⟩ := hrel
        have HK0 : Hid _ := hK0
        clear hK0
        have hzl : w4.heap.size + 1 < wr.heap.size := (Array.getElem?_eq_some_iff.1 HZr.out).1
        by_cases hlt : k < n
        · have hlt' : (k : Int) < (n : Int) := by omega
          have hkx : k < xs.length := by rw [← Hn.out]; exact hlt
          have HGX : Hid (∀ x ∈ xs, Gd x.a ∧ x.D.length ≤ 1000) := HP.out.2.2.2.1
          have HGx : Hid (Gd xs[k].a) := (HGX.out xs[k] (List.getElem_mem hkx)).1
          have HGA : Hid (Gd A) := by
            rw [HA.out]
            refine sumB_gd fun x hx => ?_
            obtain ⟨y, hy, rfl⟩ := List.mem_map.1 (List.mem_of_mem_take hx)
            exact (HGX.out y hy).1
          have HNA : Hid (mrg A xs[k].a = sumB ((xs.map itR).take (k + 1))) := by
            unfold Hid
            rw [List.take_succ_eq_append_getElem (by rw [List.length_map]; exact hkx), sumB_snoc, ← HA.out, List.getElem_map]
            rfl
          obtain ⟨x, Hx⟩ := hid_ex xs[k]
          rw [← Hx.out] at HGx HNA
          obtain ⟨xv, xD, xf, xz, xg⟩ := x
          simp only at HGx HNA
          obtain ⟨b, o, rfl, hn1, hs1⟩ := HT1.out.nine hkx Hx.out.symm
          have HN1 : Hid (N9 wr b (o + k * 9) xv xf xz xg.c (hi xg.s) (lo xg.s) xg.mn xg.mx xg.o) := hn1.below HBr.out
          obtain ⟨M, HM⟩ := hid_ex (mrg A xg)
          have HMB : Hid (M = sumB ((xs.map itR).take (k + 1))) := HM.out.trans HNA.out
          have HMG : Hid (∀ w, Calls Try.prog 9 #[.agg #[.int .u64 A.c, .bool A.o, .int .i64 (hi A.s), .int .u64 (lo A.s), .int .i64 A.mn, .int .i64 A.mx], .agg #[.int .u64 xg.c, .bool xg.o, .int .i64 (hi xg.s), .int .u64 (lo xg.s), .int .i64 xg.mn, .int .i64 xg.mx]] w fun e w' => e = .returned (.agg #[.int .u64 M.c, .bool M.o, .int .i64 (hi M.s), .int .u64 (lo M.s), .int .i64 M.mn, .int .i64 M.mx]) ∧ Below w.heap.size w w') := fun w => merge17 HGA.out HGx.out HM.out w
          clear hn1 hs1 Hx HM HNA HGA HGx HGX HA
          have hK0 := HK0.out
          clear HK0
          go_wp2_with fail
          obtain ⟨z0, z1, z2, z3, z4, z5⟩ := six17 HSr.out
          have HRC : Hid (∀ Z, Below wr.heap.size wr Z → N9 Z b (o + k * 9) xv xf xz xg.c (hi xg.s) (lo xg.s) xg.mn xg.mx xg.o) := fun Z hZ => HN1.out.below hZ
          have e0 := HN1.out.c3
          have e1 := HN1.out.c4
          have e2 := HN1.out.c5
          have e3 := HN1.out.c6
          have e4 := HN1.out.c7
          have e5 := HN1.out.c8
          refine wp_region_noPanic ?_
          refine wp_region_S 7 (fun _ => True) (fun w' => w'.cell? ⟨w4.heap.size, 0, none⟩ = some (.int .u64 A.c) ∧ w'.cell? ⟨w4.heap.size, 1, none⟩ = some (.bool A.o) ∧ w'.cell? ⟨w4.heap.size, 2, none⟩ = some (.int .i64 (hi A.s)) ∧ w'.cell? ⟨w4.heap.size, 3, none⟩ = some (.int .u64 (lo A.s)) ∧ w'.cell? ⟨w4.heap.size, 4, none⟩ = some (.int .i64 A.mn) ∧ w'.cell? ⟨w4.heap.size, 5, none⟩ = some (.int .i64 A.mx) ∧ w'.cell? ⟨b, o + k * 9 + 3, none⟩ = some (.int .u64 xg.c) ∧ w'.cell? ⟨b, o + k * 9 + 4, none⟩ = some (.bool xg.o) ∧ w'.cell? ⟨b, o + k * 9 + 5, none⟩ = some (.int .i64 (hi xg.s)) ∧ w'.cell? ⟨b, o + k * 9 + 6, none⟩ = some (.int .u64 (lo xg.s)) ∧ w'.cell? ⟨b, o + k * 9 + 7, none⟩ = some (.int .i64 xg.mn) ∧ w'.cell? ⟨b, o + k * 9 + 8, none⟩ = some (.int .i64 xg.mx)) (by kernel_rfl) ?_ ?_ (fun hHeld => ?_)
          · trivial
          · exact ⟨z0, z1, z2, z3, z4, z5, e0, e1, e2, e3, e4, e5⟩
          refine wpAnyS_take (i := 0) (v := .agg #[.int .u64 A.c, .bool A.o, .int .i64 (hi A.s), .int .u64 (lo A.s), .int .i64 A.mn, .int .i64 A.mx]) true rfl (by kernel_rfl) (by kernel_rfl) (by kernel_rfl) (by kernel_rfl) (by kernel_rfl) (by kernel_rfl) (fun _ _ _ h => h) (Or.inl ⟨by rfl, ?_⟩) hHeld (fun hHeld => ?_)
          · (intro w1 hSw; have hSw2 := hSw.2 rfl; have hSw := hSw.1; (try dsimp only at hSw hSw2); go_simp)
          simp only [List.getElem_toArray, List.getElem_cons_zero, Act.put, List.setIfInBounds_toArray, List.set_cons_zero, List.set_cons_succ]
          refine wpAnyS_take (i := 1) (v := .slice (some ⟨b, o, none⟩) n xc) _ rfl (by kernel_rfl) (by kernel_rfl) (by kernel_rfl) (by kernel_rfl) (by kernel_rfl) rfl (fun _ _ _ h => h) (Or.inl ⟨by rfl, ?_⟩) hHeld (fun hHeld => ?_)
          · (intro w1 hSw; have hSw := hSw.1; (try dsimp only at hSw); go_simp)
          simp only [List.getElem_toArray, List.getElem_cons_succ, List.getElem_cons_zero, Act.put, List.setIfInBounds_toArray, List.set_cons_zero, List.set_cons_succ]
          refine wpAnyS_take (i := 2) (v := .int .i64 (k : Int)) _ rfl (by kernel_rfl) (by kernel_rfl) (by kernel_rfl) (by kernel_rfl) (by kernel_rfl) rfl (fun _ _ _ h => h) (Or.inl ⟨by rfl, ?_⟩) hHeld (fun hHeld => ?_)
          · (intro w1 hSw; have hSw := hSw.1; (try dsimp only at hSw); go_simp)
          simp only [List.getElem_toArray, List.getElem_cons_succ, List.getElem_cons_zero, Act.put, List.setIfInBounds_toArray, List.set_cons_zero, List.set_cons_succ]
          refine wpAnyS_take (i := 3) (v := .pointer (some ⟨b, o + k * 9, none⟩)) _ rfl (by kernel_rfl) (by kernel_rfl) (by kernel_rfl) (by kernel_rfl) (by kernel_rfl) rfl (fun _ _ _ h => h) (Or.inl ⟨by rfl, ?_⟩) hHeld (fun hHeld => ?_)
          · (intro w1 hSw; have hSw := hSw.1; (try dsimp only at hSw); go_simp)
          simp only [List.getElem_toArray, List.getElem_cons_succ, List.getElem_cons_zero, Act.put, List.setIfInBounds_toArray, List.set_cons_zero, List.set_cons_succ]
          refine wpAnyS_take (i := 4) (v := .pointer (some ⟨b, o + k * 9 + 3, none⟩)) _ rfl (by kernel_rfl) (by kernel_rfl) (by kernel_rfl) (by kernel_rfl) (by kernel_rfl) rfl (fun _ _ _ h => h) (Or.inl ⟨by rfl, ?_⟩) hHeld (fun hHeld => ?_)
          · (intro w1 hSw; have hSw := hSw.1; (try dsimp only at hSw); go_simp)
          simp only [List.getElem_toArray, List.getElem_cons_succ, List.getElem_cons_zero, Act.put, List.setIfInBounds_toArray, List.set_cons_zero, List.set_cons_succ]
          refine wpAnyS_take (i := 5) (v := .agg #[.int .u64 xg.c, .bool xg.o, .int .i64 (hi xg.s), .int .u64 (lo xg.s), .int .i64 xg.mn, .int .i64 xg.mx]) true rfl (by kernel_rfl) (by kernel_rfl) (by kernel_rfl) (by kernel_rfl) (by kernel_rfl) (by kernel_rfl) (fun _ _ _ h => h) (Or.inl ⟨by rfl, ?_⟩) hHeld (fun hHeld => ?_)
          · (intro w1 hSw; have hSw2 := hSw.2 rfl; have hSw := hSw.1; (try dsimp only at hSw hSw2); go_simp)
          simp only [List.getElem_toArray, List.getElem_cons_succ, List.getElem_cons_zero, Act.put, List.setIfInBounds_toArray, List.set_cons_zero, List.set_cons_succ]
          refine wpAnyS_ready (i := 6) (by kernel_rfl) rfl (fun K hK => ?_)
          go_simp
          refine (HMG.out _).mono ?_
          rintro e u6 ⟨rfl, hb6'⟩
          have hb6 : Below wr.heap.size wr u6 := (Below.refl wr.heap.size wr).drew.trans hb6'
          have HB6 : Hid (Below wr.heap.size wr u6) := hb6
          clear hb6'
          have HX6 : Hid (u6.heap[w4.heap.size]? = some (.cells #[.int .u64 A.c, .bool A.o, .int .i64 (hi A.s), .int .u64 (lo A.s), .int .i64 A.mn, .int .i64 A.mx] 40)) := (hb6.block _ (Array.getElem?_eq_some_iff.1 HSr.out).1).trans HSr.out
          have HR6 := HRC.out _ hb6
          have d0 := HR6.c3
          have d1 := HR6.c4
          have d2 := HR6.c5
          have d3 := HR6.c6
          have d4 := HR6.c7
          have d5 := HR6.c8
          clear HR6 hb6
          obtain ⟨y0, y1, y2, y3, y4, y5⟩ := six17 HX6.out
          go_simp
          refine hK.out _ _ ⟨?_, fun _ => ?_⟩ (fun hHeld => ?_)
          · trivial
          · exact ⟨y0, y1, y2, y3, y4, y5, d0, d1, d2, d3, d4, d5⟩
          clear hK K
          refine wpAnyS_ready (i := 7) (by kernel_rfl) rfl (fun K hK => ?_)
          rw [if_pos (by rfl)]
          refine wp_storeN _ _ _ rfl (w4.heap.size) 0 [.int .u64 M.c, .bool M.o, .int .i64 (hi M.s), .int .u64 (lo M.s), .int .i64 M.mn, .int .i64 M.mx] rfl rfl #[.int .u64 A.c, .bool A.o, .int .i64 (hi A.s), .int .u64 (lo A.s), .int .i64 A.mn, .int .i64 A.mx] _ HX6.out (by simp) (by kernel_rfl) (by kernel_rfl) (fun u7 hW7 => ?_)
          refine hK.out _ _ ⟨?_, fun hno => absurd hno (by decide)⟩ (fun hHeld => ?_)
          · trivial
          clear hK K
          refine wpAnyS_done (by kernel_rfl) ?_ _
          refine NoPanic.normal ?_
          have HX7 : Hid (u7.heap[w4.heap.size]? = some (.cells #[.int .u64 M.c, .bool M.o, .int .i64 (hi M.s), .int .u64 (lo M.s), .int .i64 M.mn, .int .i64 M.mx] 40)) := st17 rfl hW7
          have hb67 : Below (w4.heap.size) u6 u7 := hW7.b _ (Nat.le_refl _)
          have HZ7 : Hid (u7.heap[w4.heap.size + 1]? = some (.cells #[.int .u64 agZ.c, .bool agZ.o, .int .i64 (hi agZ.s), .int .u64 (lo agZ.s), .int .i64 agZ.mn, .int .i64 agZ.mx] 40)) := (hW7.o _ (by omega)).trans ((HB6.out.block _ hzl).trans HZr.out)
          clear hW7 y0 y1 y2 y3 y4 y5 z0 z1 z2 z3 z4 z5 e0 e1 e2 e3 e4 e5 d0 d1 d2 d3 d4 d5
          have HBN : Hid (Below w4.heap.size w4 u7) := HBr.out.trans ((HB6.out.mono HBr.out.size).trans hb67)
          clear HBr HB6 hb67 HX6 HRC HMG HN1 HSr
          go_wp2_with fail
          go_roundw
          case rel => exact ⟨k + 1, M, by omega, by go_num, HMB, HX7, HZ7, HBN⟩
          case measure => simp [intOf]; omega
        · obtain rfl : k = n := by omega
          have hlt' : ¬ (k : Int) < (k : Int) := by omega
          have HAX : Hid (A = sumB (xs.map itR)) := by
            have h := HA.out
            rw [List.take_of_length_le (by rw [List.length_map, Hn.out]; exact Nat.le_refl _)] at h
            exact h
          clear HA
          go_wp2_with fail
          refine HK0.out _ _ ?_
          rcases HP.out.2.2.2.2.1 with ⟨hx0, ho0, hy0⟩ | ⟨hx1, oy, ho1, hoD, hoa⟩
          · have hk0 : k = 0 := by rw [Hn.out, hx0]; rfl
            have hm0 : m = 0 := by rw [Hm.out, hy0]; rfl
            have hon : on = 0 := by rw [Hon.out, ho0]; rfl
            subst hon
            exact all_zero17 R wm a ln cap da dn dc qt qf qu qm w w4 wr xa oa ya xc oc yc k m A c3 hbn hbm HB4 HBr HY4 HSr HZr HP.out.2.1 (by rw [HAX.out, hx0]; rfl) hk0 hm0 _ _ _ _ _ _ _ _ _ _ _ _ _ _ _ _ _ _ _ _ _ _ _ _ _ _ _ _ _ _ _ _ _ _ _ _ _ _ _ _ _ _ _ _ _ _ _ _ _ _ _ _ _ _ _ _ _ _ _ _ _ _ _ _ _ _ _ _ _ _ _ _ _ _ _ _ _ _ _ _ _ _ _ _ _ _ _ _ _ _ _ _ _ _ _ _ _ _ _ _ _ _ _ _ _ _ _ _ _ _ _ _ _ _ _ _ _ _ _ _ _ _ _ _ _ _ _ _ _ _ _ _ _ _ _ _ _ _ _ _ _ _ _ _ _ _ _ _ _ _ _ _ _ _ _ _ _ _ _ _ _ _ _ _ _ _ _ _ _ _ _ _ _ _ _ _ _ _ _ _ _ _ _ _ _ _ _ _ _ _ _ _ _ _ _ _
          · have hon : on = 1 := by rw [Hon.out, ho1]; rfl
            subst hon
            subst ho1
            have hkp : 0 < k := by rw [Hn.out]; exact List.length_pos_iff.2 hx1
            exact all_some17 R wm a ln cap da dn dc qt qf qu qm w w4 wr xa oa ya xc oc yc xs ys k m A c3 hbn hbm HB4 HBr HY4 HSr HZr HP.out.2.1 qm.toNat (fun h => (Int.toNat_of_nonneg (HP.out.2.2.1 h)).symm) (by omega) hkp oy HT1 HT3 HT2 ⟨hoD, hoa.trans HAX.out.symm⟩ Hn Hm HP.out.2.2.2.1 (fun h => by rw [HAX.out]; exact HP.out.2.2.2.2.2 h) _ _ _ _ _ _ _ _ _ _ _ _ _ _ _ _ _ _ _ _ _ _ _ _ _ _ _ _ _ _ _ _ _ _ _ _ _ _ _ _ _ _ _ _ _ _ _ _ _ _ _ _ _ _ _ _ _ _ _ _ _ _ _ _ _ _ _ _ _ _ _ _ _ _ _ _ _ _ _ _ _ _ _ _ _ _ _ _ _ _ _ _ _ _ _ _ _ _ _ _ _ _ _ _ _ _ _ _ _ _ _ _ _ _ _ _ _ _ _ _ _ _ _ _ _ _ _ _ _ _ _ _ _ _ _ _ _ _ _ _ _ _ _ _ _ _ _ _ _ _ _ _ _ _ _ _ _ _ _ _ _ _ _ _ _ _ _ _ _ _ _ _ _ _ _ _ _ _ _ _ _ _ _ _ _ _ _ _ _ _ _ _ _ _ _ _
    · obtain ⟨hc2, hc3⟩ := hp1 hc1
      subst hc2
      clear hp1 hp2 HT1 HT2 HT3
      have hcb : (c2 == 0) = false := by simp [hc1]
      have hcb' : (c2 != 0) = true := by simp [hc1]
      go_wp2_with fail
      refine (alive17_any w4).mono ?_
      rintro e w6 ⟨rfl, hb6⟩
      have HB6 : Hid (Below w.heap.size w w6) := HB4.out.trans (hb6.mono HB4.out.size)
      have HY6 : Hid (w6.heap[w.heap.size + 1]? = some (.cells #[.slice da dn dc, .int .i64 qt, .int .i64 qf, .int .i64 qu, .int .i64 qm] 28)) := (hb6.block _ (Array.getElem?_eq_some_iff.1 HY4.out).1).trans HY4.out
      have y4 := (cell_row HY6.out 4 (by simp)).1
      simp only [List.getElem_toArray, List.getElem_cons_zero, List.getElem_cons_succ] at y4
      clear hb6 hcb hcb'
      by_cases h3 : c3 = c2
      · subst h3
        clear hc3 hc1
        go_wp2_with fail
        go_ret
        exact ⟨rfl, HB6.out⟩
      · have hq : qm < 0 := hc3.resolve_left h3
        have hcc : (c3 == c2) = false := by simp [h3]
        clear hc3 hc1
        go_wp2_with fail
        go_ret
        exact ⟨rfl, HB6.out⟩
end Go.Proofs.Ytoenijflijfogaa
