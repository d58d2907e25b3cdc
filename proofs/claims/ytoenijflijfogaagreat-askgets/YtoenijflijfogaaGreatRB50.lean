/- BR5, joined. -/
import Derived.Test.YtoenijflijfogaaGreatRB49
/- Layer 17: AskGets' walk (written by a script out of AR4.base). -/
namespace Go.Proofs.YtoenijflijfogaaGreat
open Go.RowKit

noncomputable def gqE (R : Rl) (wm : Int) (L : List En) (D : List ByteArray) (t : Int) : Int := if chkF R wm L ≠ 0 then chkF R wm L else if rightBK D t 0 = false then 110 else 0
noncomputable def gqR (R : Rl) (wm : Int) (L : List En) (D : List ByteArray) (t : Int) : Rw := if gqE R wm L D t = 0 then getF D t (rowsE R wm L) else rwZ
noncomputable def gqB (R : Rl) (wm : Int) (L : List En) (D : List ByteArray) (t : Int) : Bool := decide (0 < (gqR R wm L D t).z)
/-- What Get tells, in one form. -/
theorem g17_shape {R : Rl} {wm : Int} {L : List En} {D : List ByteArray} {t : Int} {w w' : World} {e : Ending} (h : G17 R wm L D t w e w') :
    Below w.heap.size w w' ∧ ∃ (ra : Option Addr) (rn rp : Nat) (rf : Int) (rz : Nat) (rg : Ag) (rb : Bool) (re : Int), e = .returned (.tuple #[.agg #[.slice ra rn rp, .int .i64 rf, .int .i64 (rz : Int), .int .u64 rg.c, .bool rg.o, .int .i64 (hi rg.s), .int .u64 (lo rg.s), .int .i64 rg.mn, .int .i64 rg.mx], .bool rb, .int .i64 re]) ∧ (∃ D', SReads w' (.slice ra rn rp) D' ∧ (⟨D', rf, rz, rg⟩ : Rw) = gqR R wm L D t) ∧ (re = gqE R wm L D t ∧ rb = gqB R wm L D t) := by
  obtain ⟨hb, ⟨h1, rfl⟩ | ⟨h1, h2, rfl⟩ | ⟨h1, h2, r, rfl, hr, hi⟩⟩ := h
  · have he : gqE R wm L D t = chkF R wm L := by unfold gqE; rw [if_pos h1]
    have hq : gqR R wm L D t = rwZ := by unfold gqR; rw [he, if_neg h1]
    exact ⟨hb, none, 0, 0, 0, 0, agZ, false, chkF R wm L, rfl, ⟨[], .inl ⟨rfl, none, 0, rfl, fun _ => rfl⟩, hq.symm⟩, he.symm, by unfold gqB; rw [hq]; rfl⟩
  · have he : gqE R wm L D t = 110 := by unfold gqE; rw [if_neg (by simp [h1]), if_pos h2]
    have hq : gqR R wm L D t = rwZ := by unfold gqR; rw [he, if_neg (by decide)]
    exact ⟨hb, none, 0, 0, 0, 0, agZ, false, 110, rfl, ⟨[], .inl ⟨rfl, none, 0, rfl, fun _ => rfl⟩, hq.symm⟩, he.symm, by unfold gqB; rw [hq]; rfl⟩
  · have he : gqE R wm L D t = 0 := by unfold gqE; rw [if_neg (by simp [h1]), if_neg (by rw [h2]; simp)]
    have hq : gqR R wm L D t = getF D t (rowsE R wm L) := by unfold gqR; rw [he, if_pos rfl]
    obtain ⟨rv, rD, rf, rz, rg⟩ := r
    obtain ⟨ra, rp, hv, -⟩ := hr.form
    simp only at hv
    subst hv
    refine ⟨hb, ra, rD.length, rp, rf, rz, rg, decide (0 < rz), 0, rfl, ⟨rD, hr, by rw [hq]; exact hi⟩, he.symm, ?_⟩
    unfold gqB
    rw [hq, ← hi]; rfl
theorem t1_reads {w : World} {b : Nat} {v : Value} {D : List ByteArray} {f : Int} {z : Nat} {g : Ag} {T : TypeId} (hv : SReads w v D) (hW : w.heap[b]? = some (.cells (c9 ⟨v, D, f, z, g⟩).toArray T)) : TReads w (.slice (some ⟨b, 0, none⟩) 1 1) [⟨v, D, f, z, g⟩] := by
  refine ⟨_, 1, rfl, Nat.le_refl _, (show 1 ≤ maxLen by decide), .inr ⟨b, 0, rfl, (Array.getElem?_eq_some_iff.1 hW).1, fun j hj => ?_⟩⟩
  have hj2 : j = 0 := by simpa using hj
  subst hj2
  refine ⟨fun i hi => ?_, hv⟩
  have := (cell_row hW i (by simpa [c9] using hi)).1
  rw [show 0 + 0 * 9 + i = i by omega]
  simpa using this
set_option maxRecDepth 100000 in
set_option maxHeartbeats 8000000 in
theorem gets17_walk (R : Rl) (wm : Int) (v : Value) (L : List En) (q : Qy) (w : World) (hL : Lies R w.heap.size w) (hE : EReads w v L) (hQ : QLies q w) :
    Calls Tryz.prog 3 #[.agg #[.slice R.a R.len R.cap, .int .i64 R.kp], .int .i64 wm, v, q.val] w fun e w' => e = .returned (.bool true) ∧ Below w.heap.size w w' := by
  obtain ⟨a, cap, rfl, hm1, hm2⟩ := hE.form
  obtain ⟨qv, qD, qt, qf, qu, qm⟩ := q
  have hqr := hQ.r
  obtain ⟨da, dc, hdv, hdl⟩ := hqr.form
  simp only at hdv
  subst hdv
  obtain ⟨ht1, ht2⟩ := hQ.t
  simp only at ht1 ht2
  have HL : Hid (Lies R w.heap.size w) := hL
  have HE : Hid (EReads w (.slice a L.length cap) L) := hE
  have HD : Hid (SReads w (.slice da qD.length dc) qD) := hqr
  obtain ⟨dn, Hdn⟩ := hid_ex qD.length
  rw [← Hdn.out] at HD hdl ⊢
  obtain ⟨w1, HW1⟩ := hid_ex ((w.alloc (.cells #[.slice R.a R.len R.cap, .int .i64 R.kp] 24)).alloc (.cells #[.slice da dn dc, .int .i64 qt, .int .i64 qf, .int .i64 qu, .int .i64 qm] 28))
  have HB1 : Hid (Below w.heap.size w w1) := by rw [HW1.out]; exact ((Below.refl _ _).alloc (Nat.le_refl _) _).alloc (by simp) _
  have HX1 : Hid (w1.heap[w.heap.size]? = some (.cells #[.slice R.a R.len R.cap, .int .i64 R.kp] 24)) := by
    rw [HW1.out]; unfold Hid; exact (Below.heap_alloc _ _ _ (by simp)).trans (heap_alloc_new _ _)
  have HY1 : Hid (w1.heap[w.heap.size + 1]? = some (.cells #[.slice da dn dc, .int .i64 qt, .int .i64 qf, .int .i64 qu, .int .i64 qm] 28)) := by
    rw [HW1.out]; unfold Hid
    have := heap_alloc_new (w.alloc (.cells #[.slice R.a R.len R.cap, .int .i64 R.kp] 24)) (.cells #[.slice da dn dc, .int .i64 qt, .int .i64 qf, .int .i64 qu, .int .i64 qm] 28)
    rw [World.size_alloc] at this; exact this
  have HGR : Hid (Calls Tryz.prog 7 #[.slice a L.length cap] w1 (Gt15 L w1)) := great15_any _ _ w1 (HE.out.below HB1.out)
  have HAL : Hid (∀ W, Below w.heap.size w W → Calls Tryz.prog 9 #[] W fun e w' => e = .returned (.bool true) ∧ Below w.heap.size w w') := fun W hW => (alive17_any W).mono fun e w' ⟨h1, h2⟩ => ⟨h1, hW.trans (h2.mono hW.size)⟩
  have HGA : Hid (∀ W, okRow15 L → Below w.heap.size w W → Calls Tryz.prog 10 #[.agg #[.slice R.a R.len R.cap, .int .i64 R.kp], .int .i64 wm, .slice a L.length cap, .slice da dn dc, .int .i64 qt] W (G17 R wm L qD qt W)) := fun W hok hW => by
    have h1 := HD.out.below hW
    rw [Hdn.out] at h1 ⊢
    exact get17_any R wm _ L _ qD qt W (HL.out.at hW) (HE.out.below hW) (by have := hok.1; omega) (fun x hx => by have := hok.2 x hx; omega) h1 ht1 ht2
  have HGB : Hid (∀ W, okRow15 L → Below w.heap.size w W → Calls Tryz.prog 11 #[.agg #[.slice R.a R.len R.cap, .int .i64 R.kp], .int .i64 wm, .slice a L.length cap, .slice da dn dc, .int .i64 qt] W (G17 R wm L qD qt W)) := fun W hok hW => by
    have h1 := HD.out.below hW
    rw [Hdn.out] at h1 ⊢
    exact refGet17_any R wm _ L _ qD qt W (HL.out.at hW) (HE.out.below hW) (by have := hok.1; omega) (fun x hx => by have := hok.2 x hx; omega) h1 ht1 ht2
  have HLG : Hid (∀ W, Below w.heap.size w W → Calls Tryz.prog 8 #[.agg #[.slice da dn dc, .int .i64 qt, .int .i64 qf, .int .i64 qu, .int .i64 qm]] W fun e w' => ∃ g : Bool, e = .returned (.bool g) ∧ Below W.heap.size W w') := fun W hW => by
    have h1 := HD.out.below hW
    rw [Hdn.out] at h1 ⊢
    exact long17_any _ qD qt qf qu qm W h1
  obtain ⟨ln, Hln⟩ := hid_ex L.length
  rw [← Hln.out] at HGR HGA HGB hm1 ⊢
  clear hL hE hQ hqr HE HD Hdn Hln HL
  unfold Qy.val
  go_enter Tryz.func3, Tryz.ntmps3
  go_wp2_with fail
  rw [← HW1.out]
  clear HW1
  refine HGR.out.mono ?_
  clear HGR
  rintro e w' ⟨g, rfl, hok, hw'⟩
  subst w'
  have HOK : Hid (g = false → okRow15 L) := hok
  clear hok
  cases g with
  | true =>
    clear HOK HGA HGB HLG
    go_wp2_with fail
    refine (HAL.out _ HB1.out).mono ?_
    rintro e w2 ⟨rfl, hb2⟩
    have HB2 : Hid (Below w.heap.size w w2) := hb2
    clear hb2
    go_wp2_with fail
    go_ret
    exact ⟨rfl, HB2.out⟩
  | false =>
    have HOK2 : Hid (okRow15 L) := HOK.out rfl
    have HLG1 : Hid (Calls Tryz.prog 8 #[.agg #[.slice da dn dc, .int .i64 qt, .int .i64 qf, .int .i64 qu, .int .i64 qm]] w1 fun e w' => ∃ g : Bool, e = .returned (.bool g) ∧ Below w1.heap.size w1 w') := HLG.out _ HB1.out
    have y0 := (cell_row HY1.out 0 (by simp)).1
    have y1 := (cell_row HY1.out 1 (by simp)).1
    have y2 := (cell_row HY1.out 2 (by simp)).1
    have y3 := (cell_row HY1.out 3 (by simp)).1
    have y4 := (cell_row HY1.out 4 (by simp)).1
    simp only [List.getElem_toArray, List.getElem_cons_zero, List.getElem_cons_succ] at y0 y1 y2 y3 y4
    clear HOK
    go_wp2_with fail
    refine HLG1.out.mono ?_
    clear HLG1 y0 y1 y2 y3 y4
    rintro e w2 ⟨g2, rfl, hb2⟩
    have HX2 : Hid (w2.heap[w.heap.size]? = some (.cells #[.slice R.a R.len R.cap, .int .i64 R.kp] 24)) := (hb2.block _ (Array.getElem?_eq_some_iff.1 HX1.out).1).trans HX1.out
    have HY2 : Hid (w2.heap[w.heap.size + 1]? = some (.cells #[.slice da dn dc, .int .i64 qt, .int .i64 qf, .int .i64 qu, .int .i64 qm] 28)) := (hb2.block _ (Array.getElem?_eq_some_iff.1 HY1.out).1).trans HY1.out
    have HB2 : Hid (Below w.heap.size w w2) := HB1.out.trans (hb2.mono HB1.out.size)
    clear hb2 HX1 HY1 HB1
    cases g2 with
    | true =>
      clear HOK2 HGA HGB HLG HY2 HX2
      go_wp2_with fail
      refine (HAL.out _ HB2.out).mono ?_
      rintro e w3 ⟨rfl, hb3⟩
      have HB3 : Hid (Below w.heap.size w w3) := hb3
      clear hb3
      go_wp2_with fail
      go_ret
      exact ⟨rfl, HB3.out⟩
    | false =>
      have HCA : Hid (Calls Tryz.prog 10 #[.agg #[.slice R.a R.len R.cap, .int .i64 R.kp], .int .i64 wm, .slice a ln cap, .slice da dn dc, .int .i64 qt] w2 (G17 R wm L qD qt w2)) := HGA.out _ HOK2.out HB2.out
      have x0 := (cell_row HX2.out 0 (by simp)).1
      have x1 := (cell_row HX2.out 1 (by simp)).1
      have y0 := (cell_row HY2.out 0 (by simp)).1
      have y1 := (cell_row HY2.out 1 (by simp)).1
      simp only [List.getElem_toArray, List.getElem_cons_zero, List.getElem_cons_succ] at x0 x1 y0 y1
      clear HLG
      go_wp2_with fail
      refine HCA.out.mono ?_
      clear HCA x0 x1 y0 y1
      rintro e w3 hg3
      obtain ⟨hb3, ra, rn, rp, rf, rz, rg, rb, re, rfl, hsr, hgo⟩ := g17_shape hg3
      obtain ⟨w4, HW4⟩ := hid_ex (w3.alloc (.cells #[.slice ra rn rp, .int .i64 rf, .int .i64 (rz : Int), .int .u64 rg.c, .bool rg.o, .int .i64 (hi rg.s), .int .u64 (lo rg.s), .int .i64 rg.mn, .int .i64 rg.mx] 38))
      have hb4' : Below w3.heap.size w3 w4 := by rw [HW4.out]; exact new_below _ _
      have hb4 : Below w2.heap.size w2 w4 := hb3.trans (hb4'.mono hb3.size)
      have HR4 : Hid (w4.heap[w3.heap.size]? = some (.cells #[.slice ra rn rp, .int .i64 rf, .int .i64 (rz : Int), .int .u64 rg.c, .bool rg.o, .int .i64 (hi rg.s), .int .u64 (lo rg.s), .int .i64 rg.mn, .int .i64 rg.mx] 38)) := by rw [HW4.out]; exact heap_alloc_new _ _
      have HSR : Hid (∃ D, SReads w4 (.slice ra rn rp) D ∧ (⟨D, rf, rz, rg⟩ : Rw) = gqR R wm L qD qt) := by
        obtain ⟨D, h1, h2⟩ := hsr
        exact ⟨D, h1.below hb4', h2⟩
      have HRE : Hid (re = gqE R wm L qD qt ∧ rb = gqB R wm L qD qt) := hgo
      have HX4 : Hid (w4.heap[w.heap.size]? = some (.cells #[.slice R.a R.len R.cap, .int .i64 R.kp] 24)) := (hb4.block _ (Array.getElem?_eq_some_iff.1 HX2.out).1).trans HX2.out
      have HY4 : Hid (w4.heap[w.heap.size + 1]? = some (.cells #[.slice da dn dc, .int .i64 qt, .int .i64 qf, .int .i64 qu, .int .i64 qm] 28)) := (hb4.block _ (Array.getElem?_eq_some_iff.1 HY2.out).1).trans HY2.out
      have HB4 : Hid (Below w.heap.size w w4) := HB2.out.trans (hb4.mono HB2.out.size)
      clear hg3 hsr hgo hb3 hb4 hb4' HX2 HY2 HB2
      have HCA : Hid (Calls Tryz.prog 11 #[.agg #[.slice R.a R.len R.cap, .int .i64 R.kp], .int .i64 wm, .slice a ln cap, .slice da dn dc, .int .i64 qt] w4 (G17 R wm L qD qt w4)) := HGB.out _ HOK2.out HB4.out
      have x0 := (cell_row HX4.out 0 (by simp)).1
      have x1 := (cell_row HX4.out 1 (by simp)).1
      have y0 := (cell_row HY4.out 0 (by simp)).1
      have y1 := (cell_row HY4.out 1 (by simp)).1
      simp only [List.getElem_toArray, List.getElem_cons_zero, List.getElem_cons_succ] at x0 x1 y0 y1
      rw [HW4.out] at x0 x1 y0 y1
      go_wp2_with fail
      rw [← HW4.out]
      clear HW4
      refine HCA.out.mono ?_
      clear HCA x0 x1 y0 y1
      rintro e w5 hg5
      obtain ⟨hb5, sa, sn, sp, sf, sz, sg, sb, se, rfl, hss, hgs⟩ := g17_shape hg5
      obtain ⟨w6, HW6⟩ := hid_ex (w5.alloc (.cells #[.slice sa sn sp, .int .i64 sf, .int .i64 (sz : Int), .int .u64 sg.c, .bool sg.o, .int .i64 (hi sg.s), .int .u64 (lo sg.s), .int .i64 sg.mn, .int .i64 sg.mx] 42))
      have hb6' : Below w5.heap.size w5 w6 := by rw [HW6.out]; exact new_below _ _
      have hb6 : Below w4.heap.size w4 w6 := hb5.trans (hb6'.mono hb5.size)
      have HR6 : Hid (w6.heap[w3.heap.size]? = some (.cells #[.slice ra rn rp, .int .i64 rf, .int .i64 (rz : Int), .int .u64 rg.c, .bool rg.o, .int .i64 (hi rg.s), .int .u64 (lo rg.s), .int .i64 rg.mn, .int .i64 rg.mx] 38)) := (hb6.block _ (Array.getElem?_eq_some_iff.1 HR4.out).1).trans HR4.out
      have HS6 : Hid (w6.heap[w5.heap.size]? = some (.cells #[.slice sa sn sp, .int .i64 sf, .int .i64 (sz : Int), .int .u64 sg.c, .bool sg.o, .int .i64 (hi sg.s), .int .u64 (lo sg.s), .int .i64 sg.mn, .int .i64 sg.mx] 42)) := by rw [HW6.out]; exact heap_alloc_new _ _
      obtain ⟨hre, hrb⟩ := HRE.out
      obtain ⟨hse, hsb⟩ := hgs
      obtain rfl : re = se := hre.trans hse.symm
      obtain rfl : rb = sb := hrb.trans hsb.symm
      have HTW : Hid (∃ D, SReads w6 (.slice ra rn rp) D ∧ SReads w6 (.slice sa sn sp) D ∧ rf = sf ∧ rz = sz ∧ rg = sg) := by
        obtain ⟨D, h1, h2⟩ := HSR.out
        obtain ⟨D', h3, h4⟩ := hss
        rw [← h4] at h2
        simp only [Rw.mk.injEq] at h2
        obtain ⟨rfl, rfl, rfl, rfl⟩ := h2
        exact ⟨_, h1.below hb6, h3.below hb6', rfl, rfl, rfl⟩
      obtain ⟨D, htw1, htw2, rfl, rfl, rfl⟩ := HTW.out
      have HT1 : Hid (SReads w6 (.slice ra rn rp) D) := htw1
      have HT2 : Hid (SReads w6 (.slice sa sn sp) D) := htw2
      have HB6 : Hid (Below w.heap.size w w6) := HB4.out.trans (hb6.mono HB4.out.size)
      have HAK : Hid (Calls Tryz.prog 9 #[] w6 fun e w' => e = .returned (.bool true) ∧ Below w6.heap.size w6 w') := alive17_any w6
      clear hg5 hss hre hse hrb hsb hb5 hb6 hb6' HTW htw1 htw2 HSR HRE HR4 HX4 HY4 HB4 HOK2 HGA HGB
      have HAK2 : Hid (Calls Tryz.prog 9 #[] w6.drew fun e w' => e = .returned (.bool true) ∧ Below w6.drew.heap.size w6.drew w') := alive17_any w6.drew
      clear HAK
      go_wp2_with fail
      rw [← HW6.out]
      clear HW6
      cases rb
      · skip
        refine wp_region_noPanic ?_
        refine wp_region_held_drew (S := (fun w' => True)) (by kernel_rfl) ?_ (fun hHeld => ?_)
        · trivial
        refine wpAnyH_ready (rs := [0]) (by kernel_rfl) (by simp) ?_
        refine AllReadyH.cons (o := _) rfl (fun K hK => ?_) AllReadyH.nil
        go_simp
        refine HAK2.out.mono ?_
        rintro e w7 ⟨rfl, hb7⟩
        have HBw7 : Hid (Below w6.heap.size w6 w7) := (Below.refl w6.heap.size w6).drew.trans hb7
        have HR7 : Hid (w7.heap[w3.heap.size]? = some (.cells #[.slice ra rn rp, .int .i64 rf, .int .i64 (rz : Int), .int .u64 rg.c, .bool rg.o, .int .i64 (hi rg.s), .int .u64 (lo rg.s), .int .i64 rg.mn, .int .i64 rg.mx] 38)) := (hb7.block _ (Array.getElem?_eq_some_iff.1 HR6.out).1).trans HR6.out
        have HS7 : Hid (w7.heap[w5.heap.size]? = some (.cells #[.slice sa sn sp, .int .i64 rf, .int .i64 (rz : Int), .int .u64 rg.c, .bool rg.o, .int .i64 (hi rg.s), .int .u64 (lo rg.s), .int .i64 rg.mn, .int .i64 rg.mx] 42)) := (hb7.block _ (Array.getElem?_eq_some_iff.1 HS6.out).1).trans HS6.out
        have hl3 : w3.heap.size < w7.heap.size := (Array.getElem?_eq_some_iff.1 HR7.out).1
        have hl5 : w5.heap.size < w7.heap.size := (Array.getElem?_eq_some_iff.1 HS7.out).1
        have HWw7 : Hid (Below w7.heap.size w7 w7) := Below.refl _ _
        clear hb7
        refine hK.out _ _ ?_ (fun hHeld => ?_)
        · trivial
        clear hK K
        refine wpAnyH_sub (S' := fun w' => (True) ∧ (Below w7.heap.size w7 w')) (fun _ h => h.1) _ _ _ _ ?_
        have hHeld : (True) ∧ (Below w7.heap.size w7 w7) := ⟨hHeld, Below.refl _ _⟩
        refine wpAnyH_take (i := 1) (v := .bool true) rfl (by kernel_rfl) (by kernel_rfl) (by kernel_rfl) (fun _ _ _ h => h) (Or.inl ⟨by rfl, ?_⟩) (by assumption) ?_
        · (intro w1 hSw; (try dsimp only at hSw); go_simp)
        simp only [List.getElem_toArray, List.getElem_cons_succ, List.getElem_cons_zero, Act.put, List.setIfInBounds_toArray, List.set_cons_zero, List.set_cons_succ]
        refine wpAnyH_take (i := 2) (v := .agg #[.slice ra rn rp, .int .i64 rf, .int .i64 (rz : Int), .int .u64 rg.c, .bool rg.o, .int .i64 (hi rg.s), .int .u64 (lo rg.s), .int .i64 rg.mn, .int .i64 rg.mx]) rfl (by kernel_rfl) (by kernel_rfl) (by kernel_rfl) (fun _ _ _ h => h) (Or.inl ⟨by rfl, ?_⟩) (by assumption) ?_
        · (intro w1 hSw; (try dsimp only at hSw); have gx := (hSw.2.block _ hl3).trans HR7.out; have g0 := (cell_row gx 0 (by simp)).1; have g1 := (cell_row gx 1 (by simp)).1; have g2 := (cell_row gx 2 (by simp)).1; have g3 := (cell_row gx 3 (by simp)).1; have g4 := (cell_row gx 4 (by simp)).1; have g5 := (cell_row gx 5 (by simp)).1; have g6 := (cell_row gx 6 (by simp)).1; have g7 := (cell_row gx 7 (by simp)).1; have g8 := (cell_row gx 8 (by simp)).1; simp only [List.getElem_toArray, List.getElem_cons_zero, List.getElem_cons_succ] at g0 g1 g2 g3 g4 g5 g6 g7 g8; go_simp)
        simp only [List.getElem_toArray, List.getElem_cons_succ, List.getElem_cons_zero, Act.put, List.setIfInBounds_toArray, List.set_cons_zero, List.set_cons_succ]
        refine wpAnyH_take (i := 5) (v := .agg #[.slice sa sn sp, .int .i64 rf, .int .i64 (rz : Int), .int .u64 rg.c, .bool rg.o, .int .i64 (hi rg.s), .int .u64 (lo rg.s), .int .i64 rg.mn, .int .i64 rg.mx]) rfl (by kernel_rfl) (by kernel_rfl) (by kernel_rfl) (fun _ _ _ h => h) (Or.inl ⟨by rfl, ?_⟩) (by assumption) ?_
        · (intro w1 hSw; (try dsimp only at hSw); have gx := (hSw.2.block _ hl5).trans HS7.out; have g0 := (cell_row gx 0 (by simp)).1; have g1 := (cell_row gx 1 (by simp)).1; have g2 := (cell_row gx 2 (by simp)).1; have g3 := (cell_row gx 3 (by simp)).1; have g4 := (cell_row gx 4 (by simp)).1; have g5 := (cell_row gx 5 (by simp)).1; have g6 := (cell_row gx 6 (by simp)).1; have g7 := (cell_row gx 7 (by simp)).1; have g8 := (cell_row gx 8 (by simp)).1; simp only [List.getElem_toArray, List.getElem_cons_zero, List.getElem_cons_succ] at g0 g1 g2 g3 g4 g5 g6 g7 g8; go_simp)
        simp only [List.getElem_toArray, List.getElem_cons_succ, List.getElem_cons_zero, Act.put, List.setIfInBounds_toArray, List.set_cons_zero, List.set_cons_succ]
        refine wpAnyH_ready (rs := [3, 6]) (by kernel_rfl) (by simp) ?_
        refine AllReadyH.cons (o := _) rfl (fun K hK => ?_) (AllReadyH.cons (o := _) rfl (fun K hK => ?_) AllReadyH.nil)
        · skip
          go_simp
          obtain ⟨W1, HEW1⟩ := hid_ex (w7.alloc (.cells #[.slice ra rn rp, .int .i64 rf, .int .i64 (rz : Int), .int .u64 rg.c, .bool rg.o, .int .i64 (hi rg.s), .int .u64 (lo rg.s), .int .i64 rg.mn, .int .i64 rg.mx] 38))
          have hbW1 : Below w7.heap.size w7 W1 := by rw [HEW1.out]; exact new_below _ _
          have HNA : Hid (W1.heap[w7.heap.size]? = some (.cells #[.slice ra rn rp, .int .i64 rf, .int .i64 (rz : Int), .int .u64 rg.c, .bool rg.o, .int .i64 (hi rg.s), .int .u64 (lo rg.s), .int .i64 rg.mn, .int .i64 rg.mx] 38)) := by rw [HEW1.out]; exact heap_alloc_new _ _
          have HWW1 : Hid (Below w7.heap.size w7 W1) := HWw7.out.trans (hbW1.mono HWw7.out.size)
          rw [← HEW1.out]
          clear HEW1
          clear hbW1
          refine hK.out _ _ ?_ (fun hHeld => ?_)
          · exact ⟨trivial, HWW1.out⟩
          clear hK K
          refine wpAnyH_ready (rs := [4, 6]) (by kernel_rfl) (by simp) ?_
          refine AllReadyH.cons (o := _) rfl (fun K hK => ?_) (AllReadyH.cons (o := _) rfl (fun K hK => ?_) AllReadyH.nil)
          · skip
            go_simp
            refine (as17_any _ [⟨.slice ra rn rp, D, rf, rz, rg⟩] W1 (t1_reads (D := D) (z := rz) (g := rg) ((HT1.out.below HBw7.out).below HWW1.out) HNA.out) (by simp)).mono ?_
            rintro e W2 ⟨v9, rfl, hT9, hbW2⟩
            have HNF : Hid (TReads W2 v9 [⟨.slice ra rn rp, D, rf, rz, rg⟩]) := hT9
            clear hT9
            have HWW2 : Hid (Below w7.heap.size w7 W2) := HWW1.out.trans (hbW2.mono HWW1.out.size)
            replace HNA : Hid (W2.heap[w7.heap.size]? = some (.cells #[.slice ra rn rp, .int .i64 rf, .int .i64 (rz : Int), .int .u64 rg.c, .bool rg.o, .int .i64 (hi rg.s), .int .u64 (lo rg.s), .int .i64 rg.mn, .int .i64 rg.mx] 38)) := (hbW2.block _ (Array.getElem?_eq_some_iff.1 HNA.out).1).trans HNA.out
            clear hbW2
            refine hK.out _ _ ?_ (fun hHeld => ?_)
            · exact ⟨trivial, HWW2.out⟩
            clear hK K
            refine wpAnyH_ready (rs := [6]) (by kernel_rfl) (by simp) ?_
            refine AllReadyH.cons (o := _) rfl (fun K hK => ?_) AllReadyH.nil
            go_simp
            obtain ⟨W3, HEW3⟩ := hid_ex (W2.alloc (.cells #[.slice sa sn sp, .int .i64 rf, .int .i64 (rz : Int), .int .u64 rg.c, .bool rg.o, .int .i64 (hi rg.s), .int .u64 (lo rg.s), .int .i64 rg.mn, .int .i64 rg.mx] 42))
            have hbW3 : Below W2.heap.size W2 W3 := by rw [HEW3.out]; exact new_below _ _
            have HNB : Hid (W3.heap[W2.heap.size]? = some (.cells #[.slice sa sn sp, .int .i64 rf, .int .i64 (rz : Int), .int .u64 rg.c, .bool rg.o, .int .i64 (hi rg.s), .int .u64 (lo rg.s), .int .i64 rg.mn, .int .i64 rg.mx] 42)) := by rw [HEW3.out]; exact heap_alloc_new _ _
            have HWW3 : Hid (Below w7.heap.size w7 W3) := HWW2.out.trans (hbW3.mono HWW2.out.size)
            replace HNA : Hid (W3.heap[w7.heap.size]? = some (.cells #[.slice ra rn rp, .int .i64 rf, .int .i64 (rz : Int), .int .u64 rg.c, .bool rg.o, .int .i64 (hi rg.s), .int .u64 (lo rg.s), .int .i64 rg.mn, .int .i64 rg.mx] 38)) := (hbW3.block _ (Array.getElem?_eq_some_iff.1 HNA.out).1).trans HNA.out
            replace HNF : Hid (TReads W3 v9 [⟨.slice ra rn rp, D, rf, rz, rg⟩]) := HNF.out.below hbW3
            rw [← HEW3.out]
            clear HEW3
            clear hbW3
            refine hK.out _ _ ?_ (fun hHeld => ?_)
            · exact ⟨trivial, HWW3.out⟩
            clear hK K
            refine wpAnyH_ready (rs := [7]) (by kernel_rfl) (by simp) ?_
            refine AllReadyH.cons (o := _) rfl (fun K hK => ?_) AllReadyH.nil
            go_simp
            refine (sameAll17_true v9 _ [⟨.slice ra rn rp, D, rf, rz, rg⟩] [⟨.slice sa sn sp, D, rf, rz, rg⟩] W3 HNF.out (t1_reads (D := D) (z := rz) (g := rg) ((HT2.out.below HBw7.out).below HWW3.out) HNB.out) rfl).mono ?_
            rintro e WZ ⟨rfl, hbZ⟩
            have HWZ : Hid (Below w6.heap.size w6 WZ) := (HBw7.out.trans (HWW3.out.mono HBw7.out.size)).trans (hbZ.mono (HBw7.out.trans (HWW3.out.mono HBw7.out.size)).size)
            have HWY : Hid (Below w7.heap.size w7 WZ) := HWW3.out.trans (hbZ.mono HWW3.out.size)
            clear hbZ
            refine hK.out _ _ ?_ (fun hHeld => ?_)
            · exact ⟨trivial, HWY.out⟩
            clear hK K
            refine wpAnyH_take (i := 8) (v := .bool true) rfl (by kernel_rfl) (by kernel_rfl) (by kernel_rfl) (fun _ _ _ h => h) (Or.inl ⟨by rfl, ?_⟩) (by assumption) ?_
            · (intro w1 hSw; (try dsimp only at hSw); go_simp)
            simp only [List.getElem_toArray, List.getElem_cons_succ, List.getElem_cons_zero, Act.put, List.setIfInBounds_toArray, List.set_cons_zero, List.set_cons_succ]
            refine wpAnyH_take (i := 9) (v := .bool true) rfl (by kernel_rfl) (by kernel_rfl) (by kernel_rfl) (fun _ _ _ h => h) (Or.inl ⟨by rfl, ?_⟩) (by assumption) ?_
            · (intro w1 hSw; (try dsimp only at hSw); go_simp)
            simp only [List.getElem_toArray, List.getElem_cons_succ, List.getElem_cons_zero, Act.put, List.setIfInBounds_toArray, List.set_cons_zero, List.set_cons_succ]
            refine wpAnyH_take (i := 10) (v := .bool false) rfl (by kernel_rfl) (by kernel_rfl) (by kernel_rfl) (fun _ _ _ h => h) (Or.inl ⟨by rfl, ?_⟩) (by assumption) ?_
            · (intro w1 hSw; (try dsimp only at hSw); go_simp)
            simp only [List.getElem_toArray, List.getElem_cons_succ, List.getElem_cons_zero, Act.put, List.setIfInBounds_toArray, List.set_cons_zero, List.set_cons_succ]
            refine wpAnyH_take (i := 11) (v := .bool false) rfl (by kernel_rfl) (by kernel_rfl) (by kernel_rfl) (fun _ _ _ h => h) (Or.inl ⟨by rfl, ?_⟩) (by assumption) ?_
            · (intro w1 hSw; (try dsimp only at hSw); go_simp)
            simp only [List.getElem_toArray, List.getElem_cons_succ, List.getElem_cons_zero, Act.put, List.setIfInBounds_toArray, List.set_cons_zero, List.set_cons_succ]
            refine wpAnyH_take (i := 12) (v := .bool true) rfl (by kernel_rfl) (by kernel_rfl) (by kernel_rfl) (fun _ _ _ h => h) (Or.inl ⟨by rfl, ?_⟩) (by assumption) ?_
            · (intro w1 hSw; (try dsimp only at hSw); go_simp)
            simp only [List.getElem_toArray, List.getElem_cons_succ, List.getElem_cons_zero, Act.put, List.setIfInBounds_toArray, List.set_cons_zero, List.set_cons_succ]
            refine wpAnyH_take (i := 13) (v := .bool true) rfl (by kernel_rfl) (by kernel_rfl) (by kernel_rfl) (fun _ _ _ h => h) (Or.inl ⟨by rfl, ?_⟩) (by assumption) ?_
            · (intro w1 hSw; (try dsimp only at hSw); go_simp)
            simp only [List.getElem_toArray, List.getElem_cons_succ, List.getElem_cons_zero, Act.put, List.setIfInBounds_toArray, List.set_cons_zero, List.set_cons_succ]
            refine wpAnyH_take (i := 14) (v := .bool true) rfl (by kernel_rfl) (by kernel_rfl) (by kernel_rfl) (fun _ _ _ h => h) (Or.inl ⟨by rfl, ?_⟩) (by assumption) ?_
            · (intro w1 hSw; (try dsimp only at hSw); go_simp)
            simp only [List.getElem_toArray, List.getElem_cons_succ, List.getElem_cons_zero, Act.put, List.setIfInBounds_toArray, List.set_cons_zero, List.set_cons_succ]
            refine wpAnyH_take (i := 15) (v := .int .i64 re) rfl (by kernel_rfl) (by kernel_rfl) (by kernel_rfl) (fun _ _ _ h => h) (Or.inl ⟨by rfl, ?_⟩) (by assumption) ?_
            · (intro w1 hSw; (try dsimp only at hSw); go_simp)
            simp only [List.getElem_toArray, List.getElem_cons_succ, List.getElem_cons_zero, Act.put, List.setIfInBounds_toArray, List.set_cons_zero, List.set_cons_succ]
            refine wpAnyH_take (i := 16) (v := .int .i64 re) rfl (by kernel_rfl) (by kernel_rfl) (by kernel_rfl) (fun _ _ _ h => h) (Or.inl ⟨by rfl, ?_⟩) (by assumption) ?_
            · (intro w1 hSw; (try dsimp only at hSw); go_simp)
            simp only [List.getElem_toArray, List.getElem_cons_succ, List.getElem_cons_zero, Act.put, List.setIfInBounds_toArray, List.set_cons_zero, List.set_cons_succ]
            refine wpAnyH_take (i := 17) (v := .bool true) rfl (by kernel_rfl) (by kernel_rfl) (by kernel_rfl) (fun _ _ _ h => h) (Or.inl ⟨by rfl, ?_⟩) (by assumption) ?_
            · (intro w1 hSw; (try dsimp only at hSw); go_simp)
            simp only [List.getElem_toArray, List.getElem_cons_succ, List.getElem_cons_zero, Act.put, List.setIfInBounds_toArray, List.set_cons_zero, List.set_cons_succ]
            refine wpAnyH_take (i := 18) (v := .bool true) rfl (by kernel_rfl) (by kernel_rfl) (by kernel_rfl) (fun _ _ _ h => h) (Or.inl ⟨by rfl, ?_⟩) (by assumption) ?_
            · (intro w1 hSw; (try dsimp only at hSw); go_simp)
            simp only [List.getElem_toArray, List.getElem_cons_succ, List.getElem_cons_zero, Act.put, List.setIfInBounds_toArray, List.set_cons_zero, List.set_cons_succ]
            refine wpAnyH_take (i := 19) (v := .bool true) rfl (by kernel_rfl) (by kernel_rfl) (by kernel_rfl) (fun _ _ _ h => h) (Or.inl ⟨by rfl, ?_⟩) (by assumption) ?_
            · (intro w1 hSw; (try dsimp only at hSw); go_simp)
            simp only [List.getElem_toArray, List.getElem_cons_succ, List.getElem_cons_zero, Act.put, List.setIfInBounds_toArray, List.set_cons_zero, List.set_cons_succ]
            clear hHeld
            refine wpAnyH_done (by kernel_rfl) ?_ _
            refine NoPanic.normal ?_
            have HBB : Hid (Below w.heap.size w WZ) := HB6.out.trans (HWZ.out.mono HB6.out.size)
            go_wp2_with fail
            go_ret
            exact ⟨rfl, HBB.out⟩
          · skip
            go_simp
            obtain ⟨W2, HEW2⟩ := hid_ex (W1.alloc (.cells #[.slice sa sn sp, .int .i64 rf, .int .i64 (rz : Int), .int .u64 rg.c, .bool rg.o, .int .i64 (hi rg.s), .int .u64 (lo rg.s), .int .i64 rg.mn, .int .i64 rg.mx] 42))
            have hbW2 : Below W1.heap.size W1 W2 := by rw [HEW2.out]; exact new_below _ _
            have HNB : Hid (W2.heap[W1.heap.size]? = some (.cells #[.slice sa sn sp, .int .i64 rf, .int .i64 (rz : Int), .int .u64 rg.c, .bool rg.o, .int .i64 (hi rg.s), .int .u64 (lo rg.s), .int .i64 rg.mn, .int .i64 rg.mx] 42)) := by rw [HEW2.out]; exact heap_alloc_new _ _
            have HWW2 : Hid (Below w7.heap.size w7 W2) := HWW1.out.trans (hbW2.mono HWW1.out.size)
            replace HNA : Hid (W2.heap[w7.heap.size]? = some (.cells #[.slice ra rn rp, .int .i64 rf, .int .i64 (rz : Int), .int .u64 rg.c, .bool rg.o, .int .i64 (hi rg.s), .int .u64 (lo rg.s), .int .i64 rg.mn, .int .i64 rg.mx] 38)) := (hbW2.block _ (Array.getElem?_eq_some_iff.1 HNA.out).1).trans HNA.out
            rw [← HEW2.out]
            clear HEW2
            clear hbW2
            refine hK.out _ _ ?_ (fun hHeld => ?_)
            · exact ⟨trivial, HWW2.out⟩
            clear hK K
            refine wpAnyH_ready (rs := [4]) (by kernel_rfl) (by simp) ?_
            refine AllReadyH.cons (o := _) rfl (fun K hK => ?_) AllReadyH.nil
            go_simp
            refine (as17_any _ [⟨.slice ra rn rp, D, rf, rz, rg⟩] W2 (t1_reads (D := D) (z := rz) (g := rg) ((HT1.out.below HBw7.out).below HWW2.out) HNA.out) (by simp)).mono ?_
            rintro e W3 ⟨v9, rfl, hT9, hbW3⟩
            have HNF : Hid (TReads W3 v9 [⟨.slice ra rn rp, D, rf, rz, rg⟩]) := hT9
            clear hT9
            have HWW3 : Hid (Below w7.heap.size w7 W3) := HWW2.out.trans (hbW3.mono HWW2.out.size)
            replace HNA : Hid (W3.heap[w7.heap.size]? = some (.cells #[.slice ra rn rp, .int .i64 rf, .int .i64 (rz : Int), .int .u64 rg.c, .bool rg.o, .int .i64 (hi rg.s), .int .u64 (lo rg.s), .int .i64 rg.mn, .int .i64 rg.mx] 38)) := (hbW3.block _ (Array.getElem?_eq_some_iff.1 HNA.out).1).trans HNA.out
            replace HNB : Hid (W3.heap[W1.heap.size]? = some (.cells #[.slice sa sn sp, .int .i64 rf, .int .i64 (rz : Int), .int .u64 rg.c, .bool rg.o, .int .i64 (hi rg.s), .int .u64 (lo rg.s), .int .i64 rg.mn, .int .i64 rg.mx] 42)) := (hbW3.block _ (Array.getElem?_eq_some_iff.1 HNB.out).1).trans HNB.out
            clear hbW3
            refine hK.out _ _ ?_ (fun hHeld => ?_)
            · exact ⟨trivial, HWW3.out⟩
            clear hK K
            refine wpAnyH_ready (rs := [7]) (by kernel_rfl) (by simp) ?_
            refine AllReadyH.cons (o := _) rfl (fun K hK => ?_) AllReadyH.nil
            go_simp
            refine (sameAll17_true v9 _ [⟨.slice ra rn rp, D, rf, rz, rg⟩] [⟨.slice sa sn sp, D, rf, rz, rg⟩] W3 HNF.out (t1_reads (D := D) (z := rz) (g := rg) ((HT2.out.below HBw7.out).below HWW3.out) HNB.out) rfl).mono ?_
            rintro e WZ ⟨rfl, hbZ⟩
            have HWZ : Hid (Below w6.heap.size w6 WZ) := (HBw7.out.trans (HWW3.out.mono HBw7.out.size)).trans (hbZ.mono (HBw7.out.trans (HWW3.out.mono HBw7.out.size)).size)
            have HWY : Hid (Below w7.heap.size w7 WZ) := HWW3.out.trans (hbZ.mono HWW3.out.size)
            clear hbZ
            refine hK.out _ _ ?_ (fun hHeld => ?_)
            · exact ⟨trivial, HWY.out⟩
            clear hK K
            refine wpAnyH_take (i := 8) (v := .bool true) rfl (by kernel_rfl) (by kernel_rfl) (by kernel_rfl) (fun _ _ _ h => h) (Or.inl ⟨by rfl, ?_⟩) (by assumption) ?_
            · (intro w1 hSw; (try dsimp only at hSw); go_simp)
            simp only [List.getElem_toArray, List.getElem_cons_succ, List.getElem_cons_zero, Act.put, List.setIfInBounds_toArray, List.set_cons_zero, List.set_cons_succ]
            refine wpAnyH_take (i := 9) (v := .bool true) rfl (by kernel_rfl) (by kernel_rfl) (by kernel_rfl) (fun _ _ _ h => h) (Or.inl ⟨by rfl, ?_⟩) (by assumption) ?_
            · (intro w1 hSw; (try dsimp only at hSw); go_simp)
            simp only [List.getElem_toArray, List.getElem_cons_succ, List.getElem_cons_zero, Act.put, List.setIfInBounds_toArray, List.set_cons_zero, List.set_cons_succ]
            refine wpAnyH_take (i := 10) (v := .bool false) rfl (by kernel_rfl) (by kernel_rfl) (by kernel_rfl) (fun _ _ _ h => h) (Or.inl ⟨by rfl, ?_⟩) (by assumption) ?_
            · (intro w1 hSw; (try dsimp only at hSw); go_simp)
            simp only [List.getElem_toArray, List.getElem_cons_succ, List.getElem_cons_zero, Act.put, List.setIfInBounds_toArray, List.set_cons_zero, List.set_cons_succ]
            refine wpAnyH_take (i := 11) (v := .bool false) rfl (by kernel_rfl) (by kernel_rfl) (by kernel_rfl) (fun _ _ _ h => h) (Or.inl ⟨by rfl, ?_⟩) (by assumption) ?_
            · (intro w1 hSw; (try dsimp only at hSw); go_simp)
            simp only [List.getElem_toArray, List.getElem_cons_succ, List.getElem_cons_zero, Act.put, List.setIfInBounds_toArray, List.set_cons_zero, List.set_cons_succ]
            refine wpAnyH_take (i := 12) (v := .bool true) rfl (by kernel_rfl) (by kernel_rfl) (by kernel_rfl) (fun _ _ _ h => h) (Or.inl ⟨by rfl, ?_⟩) (by assumption) ?_
            · (intro w1 hSw; (try dsimp only at hSw); go_simp)
            simp only [List.getElem_toArray, List.getElem_cons_succ, List.getElem_cons_zero, Act.put, List.setIfInBounds_toArray, List.set_cons_zero, List.set_cons_succ]
            refine wpAnyH_take (i := 13) (v := .bool true) rfl (by kernel_rfl) (by kernel_rfl) (by kernel_rfl) (fun _ _ _ h => h) (Or.inl ⟨by rfl, ?_⟩) (by assumption) ?_
            · (intro w1 hSw; (try dsimp only at hSw); go_simp)
            simp only [List.getElem_toArray, List.getElem_cons_succ, List.getElem_cons_zero, Act.put, List.setIfInBounds_toArray, List.set_cons_zero, List.set_cons_succ]
            refine wpAnyH_take (i := 14) (v := .bool true) rfl (by kernel_rfl) (by kernel_rfl) (by kernel_rfl) (fun _ _ _ h => h) (Or.inl ⟨by rfl, ?_⟩) (by assumption) ?_
            · (intro w1 hSw; (try dsimp only at hSw); go_simp)
            simp only [List.getElem_toArray, List.getElem_cons_succ, List.getElem_cons_zero, Act.put, List.setIfInBounds_toArray, List.set_cons_zero, List.set_cons_succ]
            refine wpAnyH_take (i := 15) (v := .int .i64 re) rfl (by kernel_rfl) (by kernel_rfl) (by kernel_rfl) (fun _ _ _ h => h) (Or.inl ⟨by rfl, ?_⟩) (by assumption) ?_
            · (intro w1 hSw; (try dsimp only at hSw); go_simp)
            simp only [List.getElem_toArray, List.getElem_cons_succ, List.getElem_cons_zero, Act.put, List.setIfInBounds_toArray, List.set_cons_zero, List.set_cons_succ]
            refine wpAnyH_take (i := 16) (v := .int .i64 re) rfl (by kernel_rfl) (by kernel_rfl) (by kernel_rfl) (fun _ _ _ h => h) (Or.inl ⟨by rfl, ?_⟩) (by assumption) ?_
            · (intro w1 hSw; (try dsimp only at hSw); go_simp)
            simp only [List.getElem_toArray, List.getElem_cons_succ, List.getElem_cons_zero, Act.put, List.setIfInBounds_toArray, List.set_cons_zero, List.set_cons_succ]
            refine wpAnyH_take (i := 17) (v := .bool true) rfl (by kernel_rfl) (by kernel_rfl) (by kernel_rfl) (fun _ _ _ h => h) (Or.inl ⟨by rfl, ?_⟩) (by assumption) ?_
            · (intro w1 hSw; (try dsimp only at hSw); go_simp)
            simp only [List.getElem_toArray, List.getElem_cons_succ, List.getElem_cons_zero, Act.put, List.setIfInBounds_toArray, List.set_cons_zero, List.set_cons_succ]
            refine wpAnyH_take (i := 18) (v := .bool true) rfl (by kernel_rfl) (by kernel_rfl) (by kernel_rfl) (fun _ _ _ h => h) (Or.inl ⟨by rfl, ?_⟩) (by assumption) ?_
            · (intro w1 hSw; (try dsimp only at hSw); go_simp)
            simp only [List.getElem_toArray, List.getElem_cons_succ, List.getElem_cons_zero, Act.put, List.setIfInBounds_toArray, List.set_cons_zero, List.set_cons_succ]
            refine wpAnyH_take (i := 19) (v := .bool true) rfl (by kernel_rfl) (by kernel_rfl) (by kernel_rfl) (fun _ _ _ h => h) (Or.inl ⟨by rfl, ?_⟩) (by assumption) ?_
            · (intro w1 hSw; (try dsimp only at hSw); go_simp)
            simp only [List.getElem_toArray, List.getElem_cons_succ, List.getElem_cons_zero, Act.put, List.setIfInBounds_toArray, List.set_cons_zero, List.set_cons_succ]
            clear hHeld
            refine wpAnyH_done (by kernel_rfl) ?_ _
            refine NoPanic.normal ?_
            have HBB : Hid (Below w.heap.size w WZ) := HB6.out.trans (HWZ.out.mono HB6.out.size)
            go_wp2_with fail
            go_ret
            exact ⟨rfl, HBB.out⟩
        · skip
          go_simp
          obtain ⟨W1, HEW1⟩ := hid_ex (w7.alloc (.cells #[.slice sa sn sp, .int .i64 rf, .int .i64 (rz : Int), .int .u64 rg.c, .bool rg.o, .int .i64 (hi rg.s), .int .u64 (lo rg.s), .int .i64 rg.mn, .int .i64 rg.mx] 42))
          have hbW1 : Below w7.heap.size w7 W1 := by rw [HEW1.out]; exact new_below _ _
          have HNB : Hid (W1.heap[w7.heap.size]? = some (.cells #[.slice sa sn sp, .int .i64 rf, .int .i64 (rz : Int), .int .u64 rg.c, .bool rg.o, .int .i64 (hi rg.s), .int .u64 (lo rg.s), .int .i64 rg.mn, .int .i64 rg.mx] 42)) := by rw [HEW1.out]; exact heap_alloc_new _ _
          have HWW1 : Hid (Below w7.heap.size w7 W1) := HWw7.out.trans (hbW1.mono HWw7.out.size)
          rw [← HEW1.out]
          clear HEW1
          clear hbW1
          refine hK.out _ _ ?_ (fun hHeld => ?_)
          · exact ⟨trivial, HWW1.out⟩
          clear hK K
          refine wpAnyH_ready (rs := [3]) (by kernel_rfl) (by simp) ?_
          refine AllReadyH.cons (o := _) rfl (fun K hK => ?_) AllReadyH.nil
          go_simp
          obtain ⟨W2, HEW2⟩ := hid_ex (W1.alloc (.cells #[.slice ra rn rp, .int .i64 rf, .int .i64 (rz : Int), .int .u64 rg.c, .bool rg.o, .int .i64 (hi rg.s), .int .u64 (lo rg.s), .int .i64 rg.mn, .int .i64 rg.mx] 38))
          have hbW2 : Below W1.heap.size W1 W2 := by rw [HEW2.out]; exact new_below _ _
          have HNA : Hid (W2.heap[W1.heap.size]? = some (.cells #[.slice ra rn rp, .int .i64 rf, .int .i64 (rz : Int), .int .u64 rg.c, .bool rg.o, .int .i64 (hi rg.s), .int .u64 (lo rg.s), .int .i64 rg.mn, .int .i64 rg.mx] 38)) := by rw [HEW2.out]; exact heap_alloc_new _ _
          have HWW2 : Hid (Below w7.heap.size w7 W2) := HWW1.out.trans (hbW2.mono HWW1.out.size)
          replace HNB : Hid (W2.heap[w7.heap.size]? = some (.cells #[.slice sa sn sp, .int .i64 rf, .int .i64 (rz : Int), .int .u64 rg.c, .bool rg.o, .int .i64 (hi rg.s), .int .u64 (lo rg.s), .int .i64 rg.mn, .int .i64 rg.mx] 42)) := (hbW2.block _ (Array.getElem?_eq_some_iff.1 HNB.out).1).trans HNB.out
          rw [← HEW2.out]
          clear HEW2
          clear hbW2
          refine hK.out _ _ ?_ (fun hHeld => ?_)
          · exact ⟨trivial, HWW2.out⟩
          clear hK K
          refine wpAnyH_ready (rs := [4]) (by kernel_rfl) (by simp) ?_
          refine AllReadyH.cons (o := _) rfl (fun K hK => ?_) AllReadyH.nil
          go_simp
          refine (as17_any _ [⟨.slice ra rn rp, D, rf, rz, rg⟩] W2 (t1_reads (D := D) (z := rz) (g := rg) ((HT1.out.below HBw7.out).below HWW2.out) HNA.out) (by simp)).mono ?_
          rintro e W3 ⟨v9, rfl, hT9, hbW3⟩
          have HNF : Hid (TReads W3 v9 [⟨.slice ra rn rp, D, rf, rz, rg⟩]) := hT9
          clear hT9
          have HWW3 : Hid (Below w7.heap.size w7 W3) := HWW2.out.trans (hbW3.mono HWW2.out.size)
          replace HNB : Hid (W3.heap[w7.heap.size]? = some (.cells #[.slice sa sn sp, .int .i64 rf, .int .i64 (rz : Int), .int .u64 rg.c, .bool rg.o, .int .i64 (hi rg.s), .int .u64 (lo rg.s), .int .i64 rg.mn, .int .i64 rg.mx] 42)) := (hbW3.block _ (Array.getElem?_eq_some_iff.1 HNB.out).1).trans HNB.out
          replace HNA : Hid (W3.heap[W1.heap.size]? = some (.cells #[.slice ra rn rp, .int .i64 rf, .int .i64 (rz : Int), .int .u64 rg.c, .bool rg.o, .int .i64 (hi rg.s), .int .u64 (lo rg.s), .int .i64 rg.mn, .int .i64 rg.mx] 38)) := (hbW3.block _ (Array.getElem?_eq_some_iff.1 HNA.out).1).trans HNA.out
          clear hbW3
          refine hK.out _ _ ?_ (fun hHeld => ?_)
          · exact ⟨trivial, HWW3.out⟩
          clear hK K
          refine wpAnyH_ready (rs := [7]) (by kernel_rfl) (by simp) ?_
          refine AllReadyH.cons (o := _) rfl (fun K hK => ?_) AllReadyH.nil
          go_simp
          refine (sameAll17_true v9 _ [⟨.slice ra rn rp, D, rf, rz, rg⟩] [⟨.slice sa sn sp, D, rf, rz, rg⟩] W3 HNF.out (t1_reads (D := D) (z := rz) (g := rg) ((HT2.out.below HBw7.out).below HWW3.out) HNB.out) rfl).mono ?_
          rintro e WZ ⟨rfl, hbZ⟩
          have HWZ : Hid (Below w6.heap.size w6 WZ) := (HBw7.out.trans (HWW3.out.mono HBw7.out.size)).trans (hbZ.mono (HBw7.out.trans (HWW3.out.mono HBw7.out.size)).size)
          have HWY : Hid (Below w7.heap.size w7 WZ) := HWW3.out.trans (hbZ.mono HWW3.out.size)
          clear hbZ
          refine hK.out _ _ ?_ (fun hHeld => ?_)
          · exact ⟨trivial, HWY.out⟩
          clear hK K
          refine wpAnyH_take (i := 8) (v := .bool true) rfl (by kernel_rfl) (by kernel_rfl) (by kernel_rfl) (fun _ _ _ h => h) (Or.inl ⟨by rfl, ?_⟩) (by assumption) ?_
          · (intro w1 hSw; (try dsimp only at hSw); go_simp)
          simp only [List.getElem_toArray, List.getElem_cons_succ, List.getElem_cons_zero, Act.put, List.setIfInBounds_toArray, List.set_cons_zero, List.set_cons_succ]
          refine wpAnyH_take (i := 9) (v := .bool true) rfl (by kernel_rfl) (by kernel_rfl) (by kernel_rfl) (fun _ _ _ h => h) (Or.inl ⟨by rfl, ?_⟩) (by assumption) ?_
          · (intro w1 hSw; (try dsimp only at hSw); go_simp)
          simp only [List.getElem_toArray, List.getElem_cons_succ, List.getElem_cons_zero, Act.put, List.setIfInBounds_toArray, List.set_cons_zero, List.set_cons_succ]
          refine wpAnyH_take (i := 10) (v := .bool false) rfl (by kernel_rfl) (by kernel_rfl) (by kernel_rfl) (fun _ _ _ h => h) (Or.inl ⟨by rfl, ?_⟩) (by assumption) ?_
          · (intro w1 hSw; (try dsimp only at hSw); go_simp)
          simp only [List.getElem_toArray, List.getElem_cons_succ, List.getElem_cons_zero, Act.put, List.setIfInBounds_toArray, List.set_cons_zero, List.set_cons_succ]
          refine wpAnyH_take (i := 11) (v := .bool false) rfl (by kernel_rfl) (by kernel_rfl) (by kernel_rfl) (fun _ _ _ h => h) (Or.inl ⟨by rfl, ?_⟩) (by assumption) ?_
          · (intro w1 hSw; (try dsimp only at hSw); go_simp)
          simp only [List.getElem_toArray, List.getElem_cons_succ, List.getElem_cons_zero, Act.put, List.setIfInBounds_toArray, List.set_cons_zero, List.set_cons_succ]
          refine wpAnyH_take (i := 12) (v := .bool true) rfl (by kernel_rfl) (by kernel_rfl) (by kernel_rfl) (fun _ _ _ h => h) (Or.inl ⟨by rfl, ?_⟩) (by assumption) ?_
          · (intro w1 hSw; (try dsimp only at hSw); go_simp)
          simp only [List.getElem_toArray, List.getElem_cons_succ, List.getElem_cons_zero, Act.put, List.setIfInBounds_toArray, List.set_cons_zero, List.set_cons_succ]
          refine wpAnyH_take (i := 13) (v := .bool true) rfl (by kernel_rfl) (by kernel_rfl) (by kernel_rfl) (fun _ _ _ h => h) (Or.inl ⟨by rfl, ?_⟩) (by assumption) ?_
          · (intro w1 hSw; (try dsimp only at hSw); go_simp)
          simp only [List.getElem_toArray, List.getElem_cons_succ, List.getElem_cons_zero, Act.put, List.setIfInBounds_toArray, List.set_cons_zero, List.set_cons_succ]
          refine wpAnyH_take (i := 14) (v := .bool true) rfl (by kernel_rfl) (by kernel_rfl) (by kernel_rfl) (fun _ _ _ h => h) (Or.inl ⟨by rfl, ?_⟩) (by assumption) ?_
          · (intro w1 hSw; (try dsimp only at hSw); go_simp)
          simp only [List.getElem_toArray, List.getElem_cons_succ, List.getElem_cons_zero, Act.put, List.setIfInBounds_toArray, List.set_cons_zero, List.set_cons_succ]
          refine wpAnyH_take (i := 15) (v := .int .i64 re) rfl (by kernel_rfl) (by kernel_rfl) (by kernel_rfl) (fun _ _ _ h => h) (Or.inl ⟨by rfl, ?_⟩) (by assumption) ?_
          · (intro w1 hSw; (try dsimp only at hSw); go_simp)
          simp only [List.getElem_toArray, List.getElem_cons_succ, List.getElem_cons_zero, Act.put, List.setIfInBounds_toArray, List.set_cons_zero, List.set_cons_succ]
          refine wpAnyH_take (i := 16) (v := .int .i64 re) rfl (by kernel_rfl) (by kernel_rfl) (by kernel_rfl) (fun _ _ _ h => h) (Or.inl ⟨by rfl, ?_⟩) (by assumption) ?_
          · (intro w1 hSw; (try dsimp only at hSw); go_simp)
          simp only [List.getElem_toArray, List.getElem_cons_succ, List.getElem_cons_zero, Act.put, List.setIfInBounds_toArray, List.set_cons_zero, List.set_cons_succ]
          refine wpAnyH_take (i := 17) (v := .bool true) rfl (by kernel_rfl) (by kernel_rfl) (by kernel_rfl) (fun _ _ _ h => h) (Or.inl ⟨by rfl, ?_⟩) (by assumption) ?_
          · (intro w1 hSw; (try dsimp only at hSw); go_simp)
          simp only [List.getElem_toArray, List.getElem_cons_succ, List.getElem_cons_zero, Act.put, List.setIfInBounds_toArray, List.set_cons_zero, List.set_cons_succ]
          refine wpAnyH_take (i := 18) (v := .bool true) rfl (by kernel_rfl) (by kernel_rfl) (by kernel_rfl) (fun _ _ _ h => h) (Or.inl ⟨by rfl, ?_⟩) (by assumption) ?_
          · (intro w1 hSw; (try dsimp only at hSw); go_simp)
          simp only [List.getElem_toArray, List.getElem_cons_succ, List.getElem_cons_zero, Act.put, List.setIfInBounds_toArray, List.set_cons_zero, List.set_cons_succ]
          refine wpAnyH_take (i := 19) (v := .bool true) rfl (by kernel_rfl) (by kernel_rfl) (by kernel_rfl) (fun _ _ _ h => h) (Or.inl ⟨by rfl, ?_⟩) (by assumption) ?_
          · (intro w1 hSw; (try dsimp only at hSw); go_simp)
          simp only [List.getElem_toArray, List.getElem_cons_succ, List.getElem_cons_zero, Act.put, List.setIfInBounds_toArray, List.set_cons_zero, List.set_cons_succ]
          clear hHeld
          refine wpAnyH_done (by kernel_rfl) ?_ _
          refine NoPanic.normal ?_
          have HBB : Hid (Below w.heap.size w WZ) := HB6.out.trans (HWZ.out.mono HB6.out.size)
          go_wp2_with fail
          go_ret
          exact ⟨rfl, HBB.out⟩
      · skip
        refine wp_region_noPanic ?_
        refine wp_region_held_drew (S := (fun w' => True)) (by kernel_rfl) ?_ (fun hHeld => ?_)
        · trivial
        refine wpAnyH_ready (rs := [0]) (by kernel_rfl) (by simp) ?_
        refine AllReadyH.cons (o := _) rfl (fun K hK => ?_) AllReadyH.nil
        go_simp
        refine HAK2.out.mono ?_
        rintro e w7 ⟨rfl, hb7⟩
        have HBw7 : Hid (Below w6.heap.size w6 w7) := (Below.refl w6.heap.size w6).drew.trans hb7
        have HR7 : Hid (w7.heap[w3.heap.size]? = some (.cells #[.slice ra rn rp, .int .i64 rf, .int .i64 (rz : Int), .int .u64 rg.c, .bool rg.o, .int .i64 (hi rg.s), .int .u64 (lo rg.s), .int .i64 rg.mn, .int .i64 rg.mx] 38)) := (hb7.block _ (Array.getElem?_eq_some_iff.1 HR6.out).1).trans HR6.out
        have HS7 : Hid (w7.heap[w5.heap.size]? = some (.cells #[.slice sa sn sp, .int .i64 rf, .int .i64 (rz : Int), .int .u64 rg.c, .bool rg.o, .int .i64 (hi rg.s), .int .u64 (lo rg.s), .int .i64 rg.mn, .int .i64 rg.mx] 42)) := (hb7.block _ (Array.getElem?_eq_some_iff.1 HS6.out).1).trans HS6.out
        have hl3 : w3.heap.size < w7.heap.size := (Array.getElem?_eq_some_iff.1 HR7.out).1
        have hl5 : w5.heap.size < w7.heap.size := (Array.getElem?_eq_some_iff.1 HS7.out).1
        have HWw7 : Hid (Below w7.heap.size w7 w7) := Below.refl _ _
        clear hb7
        refine hK.out _ _ ?_ (fun hHeld => ?_)
        · trivial
        clear hK K
        refine wpAnyH_sub (S' := fun w' => (True) ∧ (Below w7.heap.size w7 w')) (fun _ h => h.1) _ _ _ _ ?_
        have hHeld : (True) ∧ (Below w7.heap.size w7 w7) := ⟨hHeld, Below.refl _ _⟩
        refine wpAnyH_take (i := 1) (v := .bool true) rfl (by kernel_rfl) (by kernel_rfl) (by kernel_rfl) (fun _ _ _ h => h) (Or.inl ⟨by rfl, ?_⟩) (by assumption) ?_
        · (intro w1 hSw; (try dsimp only at hSw); go_simp)
        simp only [List.getElem_toArray, List.getElem_cons_succ, List.getElem_cons_zero, Act.put, List.setIfInBounds_toArray, List.set_cons_zero, List.set_cons_succ]
        refine wpAnyH_take (i := 2) (v := .agg #[.slice ra rn rp, .int .i64 rf, .int .i64 (rz : Int), .int .u64 rg.c, .bool rg.o, .int .i64 (hi rg.s), .int .u64 (lo rg.s), .int .i64 rg.mn, .int .i64 rg.mx]) rfl (by kernel_rfl) (by kernel_rfl) (by kernel_rfl) (fun _ _ _ h => h) (Or.inl ⟨by rfl, ?_⟩) (by assumption) ?_
        · (intro w1 hSw; (try dsimp only at hSw); have gx := (hSw.2.block _ hl3).trans HR7.out; have g0 := (cell_row gx 0 (by simp)).1; have g1 := (cell_row gx 1 (by simp)).1; have g2 := (cell_row gx 2 (by simp)).1; have g3 := (cell_row gx 3 (by simp)).1; have g4 := (cell_row gx 4 (by simp)).1; have g5 := (cell_row gx 5 (by simp)).1; have g6 := (cell_row gx 6 (by simp)).1; have g7 := (cell_row gx 7 (by simp)).1; have g8 := (cell_row gx 8 (by simp)).1; simp only [List.getElem_toArray, List.getElem_cons_zero, List.getElem_cons_succ] at g0 g1 g2 g3 g4 g5 g6 g7 g8; go_simp)
        simp only [List.getElem_toArray, List.getElem_cons_succ, List.getElem_cons_zero, Act.put, List.setIfInBounds_toArray, List.set_cons_zero, List.set_cons_succ]
        refine wpAnyH_take (i := 5) (v := .agg #[.slice sa sn sp, .int .i64 rf, .int .i64 (rz : Int), .int .u64 rg.c, .bool rg.o, .int .i64 (hi rg.s), .int .u64 (lo rg.s), .int .i64 rg.mn, .int .i64 rg.mx]) rfl (by kernel_rfl) (by kernel_rfl) (by kernel_rfl) (fun _ _ _ h => h) (Or.inl ⟨by rfl, ?_⟩) (by assumption) ?_
        · (intro w1 hSw; (try dsimp only at hSw); have gx := (hSw.2.block _ hl5).trans HS7.out; have g0 := (cell_row gx 0 (by simp)).1; have g1 := (cell_row gx 1 (by simp)).1; have g2 := (cell_row gx 2 (by simp)).1; have g3 := (cell_row gx 3 (by simp)).1; have g4 := (cell_row gx 4 (by simp)).1; have g5 := (cell_row gx 5 (by simp)).1; have g6 := (cell_row gx 6 (by simp)).1; have g7 := (cell_row gx 7 (by simp)).1; have g8 := (cell_row gx 8 (by simp)).1; simp only [List.getElem_toArray, List.getElem_cons_zero, List.getElem_cons_succ] at g0 g1 g2 g3 g4 g5 g6 g7 g8; go_simp)
        simp only [List.getElem_toArray, List.getElem_cons_succ, List.getElem_cons_zero, Act.put, List.setIfInBounds_toArray, List.set_cons_zero, List.set_cons_succ]
        refine wpAnyH_ready (rs := [3, 6]) (by kernel_rfl) (by simp) ?_
        refine AllReadyH.cons (o := _) rfl (fun K hK => ?_) (AllReadyH.cons (o := _) rfl (fun K hK => ?_) AllReadyH.nil)
        · skip
          go_simp
          obtain ⟨W1, HEW1⟩ := hid_ex (w7.alloc (.cells #[.slice ra rn rp, .int .i64 rf, .int .i64 (rz : Int), .int .u64 rg.c, .bool rg.o, .int .i64 (hi rg.s), .int .u64 (lo rg.s), .int .i64 rg.mn, .int .i64 rg.mx] 38))
          have hbW1 : Below w7.heap.size w7 W1 := by rw [HEW1.out]; exact new_below _ _
          have HNA : Hid (W1.heap[w7.heap.size]? = some (.cells #[.slice ra rn rp, .int .i64 rf, .int .i64 (rz : Int), .int .u64 rg.c, .bool rg.o, .int .i64 (hi rg.s), .int .u64 (lo rg.s), .int .i64 rg.mn, .int .i64 rg.mx] 38)) := by rw [HEW1.out]; exact heap_alloc_new _ _
          have HWW1 : Hid (Below w7.heap.size w7 W1) := HWw7.out.trans (hbW1.mono HWw7.out.size)
          rw [← HEW1.out]
          clear HEW1
          clear hbW1
          refine hK.out _ _ ?_ (fun hHeld => ?_)
          · exact ⟨trivial, HWW1.out⟩
          clear hK K
          refine wpAnyH_ready (rs := [4, 6]) (by kernel_rfl) (by simp) ?_
          refine AllReadyH.cons (o := _) rfl (fun K hK => ?_) (AllReadyH.cons (o := _) rfl (fun K hK => ?_) AllReadyH.nil)
          · skip
            go_simp
            refine (as17_any _ [⟨.slice ra rn rp, D, rf, rz, rg⟩] W1 (t1_reads (D := D) (z := rz) (g := rg) ((HT1.out.below HBw7.out).below HWW1.out) HNA.out) (by simp)).mono ?_
            rintro e W2 ⟨v9, rfl, hT9, hbW2⟩
            have HNF : Hid (TReads W2 v9 [⟨.slice ra rn rp, D, rf, rz, rg⟩]) := hT9
            clear hT9
            have HWW2 : Hid (Below w7.heap.size w7 W2) := HWW1.out.trans (hbW2.mono HWW1.out.size)
            replace HNA : Hid (W2.heap[w7.heap.size]? = some (.cells #[.slice ra rn rp, .int .i64 rf, .int .i64 (rz : Int), .int .u64 rg.c, .bool rg.o, .int .i64 (hi rg.s), .int .u64 (lo rg.s), .int .i64 rg.mn, .int .i64 rg.mx] 38)) := (hbW2.block _ (Array.getElem?_eq_some_iff.1 HNA.out).1).trans HNA.out
            clear hbW2
            refine hK.out _ _ ?_ (fun hHeld => ?_)
            · exact ⟨trivial, HWW2.out⟩
            clear hK K
            refine wpAnyH_ready (rs := [6]) (by kernel_rfl) (by simp) ?_
            refine AllReadyH.cons (o := _) rfl (fun K hK => ?_) AllReadyH.nil
            go_simp
            obtain ⟨W3, HEW3⟩ := hid_ex (W2.alloc (.cells #[.slice sa sn sp, .int .i64 rf, .int .i64 (rz : Int), .int .u64 rg.c, .bool rg.o, .int .i64 (hi rg.s), .int .u64 (lo rg.s), .int .i64 rg.mn, .int .i64 rg.mx] 42))
            have hbW3 : Below W2.heap.size W2 W3 := by rw [HEW3.out]; exact new_below _ _
            have HNB : Hid (W3.heap[W2.heap.size]? = some (.cells #[.slice sa sn sp, .int .i64 rf, .int .i64 (rz : Int), .int .u64 rg.c, .bool rg.o, .int .i64 (hi rg.s), .int .u64 (lo rg.s), .int .i64 rg.mn, .int .i64 rg.mx] 42)) := by rw [HEW3.out]; exact heap_alloc_new _ _
            have HWW3 : Hid (Below w7.heap.size w7 W3) := HWW2.out.trans (hbW3.mono HWW2.out.size)
            replace HNA : Hid (W3.heap[w7.heap.size]? = some (.cells #[.slice ra rn rp, .int .i64 rf, .int .i64 (rz : Int), .int .u64 rg.c, .bool rg.o, .int .i64 (hi rg.s), .int .u64 (lo rg.s), .int .i64 rg.mn, .int .i64 rg.mx] 38)) := (hbW3.block _ (Array.getElem?_eq_some_iff.1 HNA.out).1).trans HNA.out
            replace HNF : Hid (TReads W3 v9 [⟨.slice ra rn rp, D, rf, rz, rg⟩]) := HNF.out.below hbW3
            rw [← HEW3.out]
            clear HEW3
            clear hbW3
            refine hK.out _ _ ?_ (fun hHeld => ?_)
            · exact ⟨trivial, HWW3.out⟩
            clear hK K
            refine wpAnyH_ready (rs := [7]) (by kernel_rfl) (by simp) ?_
            refine AllReadyH.cons (o := _) rfl (fun K hK => ?_) AllReadyH.nil
            go_simp
            refine (sameAll17_true v9 _ [⟨.slice ra rn rp, D, rf, rz, rg⟩] [⟨.slice sa sn sp, D, rf, rz, rg⟩] W3 HNF.out (t1_reads (D := D) (z := rz) (g := rg) ((HT2.out.below HBw7.out).below HWW3.out) HNB.out) rfl).mono ?_
            rintro e WZ ⟨rfl, hbZ⟩
            have HWZ : Hid (Below w6.heap.size w6 WZ) := (HBw7.out.trans (HWW3.out.mono HBw7.out.size)).trans (hbZ.mono (HBw7.out.trans (HWW3.out.mono HBw7.out.size)).size)
            have HWY : Hid (Below w7.heap.size w7 WZ) := HWW3.out.trans (hbZ.mono HWW3.out.size)
            clear hbZ
            refine hK.out _ _ ?_ (fun hHeld => ?_)
            · exact ⟨trivial, HWY.out⟩
            clear hK K
            refine wpAnyH_take (i := 8) (v := .bool true) rfl (by kernel_rfl) (by kernel_rfl) (by kernel_rfl) (fun _ _ _ h => h) (Or.inl ⟨by rfl, ?_⟩) (by assumption) ?_
            · (intro w1 hSw; (try dsimp only at hSw); go_simp)
            simp only [List.getElem_toArray, List.getElem_cons_succ, List.getElem_cons_zero, Act.put, List.setIfInBounds_toArray, List.set_cons_zero, List.set_cons_succ]
            refine wpAnyH_take (i := 9) (v := .bool true) rfl (by kernel_rfl) (by kernel_rfl) (by kernel_rfl) (fun _ _ _ h => h) (Or.inl ⟨by rfl, ?_⟩) (by assumption) ?_
            · (intro w1 hSw; (try dsimp only at hSw); go_simp)
            simp only [List.getElem_toArray, List.getElem_cons_succ, List.getElem_cons_zero, Act.put, List.setIfInBounds_toArray, List.set_cons_zero, List.set_cons_succ]
            refine wpAnyH_take (i := 10) (v := .bool true) rfl (by kernel_rfl) (by kernel_rfl) (by kernel_rfl) (fun _ _ _ h => h) (Or.inl ⟨by rfl, ?_⟩) (by assumption) ?_
            · (intro w1 hSw; (try dsimp only at hSw); go_simp)
            simp only [List.getElem_toArray, List.getElem_cons_succ, List.getElem_cons_zero, Act.put, List.setIfInBounds_toArray, List.set_cons_zero, List.set_cons_succ]
            refine wpAnyH_take (i := 11) (v := .bool true) rfl (by kernel_rfl) (by kernel_rfl) (by kernel_rfl) (fun _ _ _ h => h) (Or.inl ⟨by rfl, ?_⟩) (by assumption) ?_
            · (intro w1 hSw; (try dsimp only at hSw); go_simp)
            simp only [List.getElem_toArray, List.getElem_cons_succ, List.getElem_cons_zero, Act.put, List.setIfInBounds_toArray, List.set_cons_zero, List.set_cons_succ]
            refine wpAnyH_take (i := 12) (v := .bool true) rfl (by kernel_rfl) (by kernel_rfl) (by kernel_rfl) (fun _ _ _ h => h) (Or.inl ⟨by rfl, ?_⟩) (by assumption) ?_
            · (intro w1 hSw; (try dsimp only at hSw); go_simp)
            simp only [List.getElem_toArray, List.getElem_cons_succ, List.getElem_cons_zero, Act.put, List.setIfInBounds_toArray, List.set_cons_zero, List.set_cons_succ]
            refine wpAnyH_take (i := 13) (v := .bool true) rfl (by kernel_rfl) (by kernel_rfl) (by kernel_rfl) (fun _ _ _ h => h) (Or.inl ⟨by rfl, ?_⟩) (by assumption) ?_
            · (intro w1 hSw; (try dsimp only at hSw); go_simp)
            simp only [List.getElem_toArray, List.getElem_cons_succ, List.getElem_cons_zero, Act.put, List.setIfInBounds_toArray, List.set_cons_zero, List.set_cons_succ]
            refine wpAnyH_take (i := 14) (v := .bool true) rfl (by kernel_rfl) (by kernel_rfl) (by kernel_rfl) (fun _ _ _ h => h) (Or.inl ⟨by rfl, ?_⟩) (by assumption) ?_
            · (intro w1 hSw; (try dsimp only at hSw); go_simp)
            simp only [List.getElem_toArray, List.getElem_cons_succ, List.getElem_cons_zero, Act.put, List.setIfInBounds_toArray, List.set_cons_zero, List.set_cons_succ]
            refine wpAnyH_take (i := 15) (v := .int .i64 re) rfl (by kernel_rfl) (by kernel_rfl) (by kernel_rfl) (fun _ _ _ h => h) (Or.inl ⟨by rfl, ?_⟩) (by assumption) ?_
            · (intro w1 hSw; (try dsimp only at hSw); go_simp)
            simp only [List.getElem_toArray, List.getElem_cons_succ, List.getElem_cons_zero, Act.put, List.setIfInBounds_toArray, List.set_cons_zero, List.set_cons_succ]
            refine wpAnyH_take (i := 16) (v := .int .i64 re) rfl (by kernel_rfl) (by kernel_rfl) (by kernel_rfl) (fun _ _ _ h => h) (Or.inl ⟨by rfl, ?_⟩) (by assumption) ?_
            · (intro w1 hSw; (try dsimp only at hSw); go_simp)
            simp only [List.getElem_toArray, List.getElem_cons_succ, List.getElem_cons_zero, Act.put, List.setIfInBounds_toArray, List.set_cons_zero, List.set_cons_succ]
            refine wpAnyH_take (i := 17) (v := .bool true) rfl (by kernel_rfl) (by kernel_rfl) (by kernel_rfl) (fun _ _ _ h => h) (Or.inl ⟨by rfl, ?_⟩) (by assumption) ?_
            · (intro w1 hSw; (try dsimp only at hSw); go_simp)
            simp only [List.getElem_toArray, List.getElem_cons_succ, List.getElem_cons_zero, Act.put, List.setIfInBounds_toArray, List.set_cons_zero, List.set_cons_succ]
            refine wpAnyH_take (i := 18) (v := .bool true) rfl (by kernel_rfl) (by kernel_rfl) (by kernel_rfl) (fun _ _ _ h => h) (Or.inl ⟨by rfl, ?_⟩) (by assumption) ?_
            · (intro w1 hSw; (try dsimp only at hSw); go_simp)
            simp only [List.getElem_toArray, List.getElem_cons_succ, List.getElem_cons_zero, Act.put, List.setIfInBounds_toArray, List.set_cons_zero, List.set_cons_succ]
            refine wpAnyH_take (i := 19) (v := .bool true) rfl (by kernel_rfl) (by kernel_rfl) (by kernel_rfl) (fun _ _ _ h => h) (Or.inl ⟨by rfl, ?_⟩) (by assumption) ?_
            · (intro w1 hSw; (try dsimp only at hSw); go_simp)
            simp only [List.getElem_toArray, List.getElem_cons_succ, List.getElem_cons_zero, Act.put, List.setIfInBounds_toArray, List.set_cons_zero, List.set_cons_succ]
            clear hHeld
            refine wpAnyH_done (by kernel_rfl) ?_ _
            refine NoPanic.normal ?_
            have HBB : Hid (Below w.heap.size w WZ) := HB6.out.trans (HWZ.out.mono HB6.out.size)
            go_wp2_with fail
            go_ret
            exact ⟨rfl, HBB.out⟩
          · skip
            go_simp
            obtain ⟨W2, HEW2⟩ := hid_ex (W1.alloc (.cells #[.slice sa sn sp, .int .i64 rf, .int .i64 (rz : Int), .int .u64 rg.c, .bool rg.o, .int .i64 (hi rg.s), .int .u64 (lo rg.s), .int .i64 rg.mn, .int .i64 rg.mx] 42))
            have hbW2 : Below W1.heap.size W1 W2 := by rw [HEW2.out]; exact new_below _ _
            have HNB : Hid (W2.heap[W1.heap.size]? = some (.cells #[.slice sa sn sp, .int .i64 rf, .int .i64 (rz : Int), .int .u64 rg.c, .bool rg.o, .int .i64 (hi rg.s), .int .u64 (lo rg.s), .int .i64 rg.mn, .int .i64 rg.mx] 42)) := by rw [HEW2.out]; exact heap_alloc_new _ _
            have HWW2 : Hid (Below w7.heap.size w7 W2) := HWW1.out.trans (hbW2.mono HWW1.out.size)
            replace HNA : Hid (W2.heap[w7.heap.size]? = some (.cells #[.slice ra rn rp, .int .i64 rf, .int .i64 (rz : Int), .int .u64 rg.c, .bool rg.o, .int .i64 (hi rg.s), .int .u64 (lo rg.s), .int .i64 rg.mn, .int .i64 rg.mx] 38)) := (hbW2.block _ (Array.getElem?_eq_some_iff.1 HNA.out).1).trans HNA.out
            rw [← HEW2.out]
            clear HEW2
            clear hbW2
            refine hK.out _ _ ?_ (fun hHeld => ?_)
            · exact ⟨trivial, HWW2.out⟩
            clear hK K
            refine wpAnyH_ready (rs := [4]) (by kernel_rfl) (by simp) ?_
            refine AllReadyH.cons (o := _) rfl (fun K hK => ?_) AllReadyH.nil
            go_simp
            refine (as17_any _ [⟨.slice ra rn rp, D, rf, rz, rg⟩] W2 (t1_reads (D := D) (z := rz) (g := rg) ((HT1.out.below HBw7.out).below HWW2.out) HNA.out) (by simp)).mono ?_
            rintro e W3 ⟨v9, rfl, hT9, hbW3⟩
            have HNF : Hid (TReads W3 v9 [⟨.slice ra rn rp, D, rf, rz, rg⟩]) := hT9
            clear hT9
            have HWW3 : Hid (Below w7.heap.size w7 W3) := HWW2.out.trans (hbW3.mono HWW2.out.size)
            replace HNA : Hid (W3.heap[w7.heap.size]? = some (.cells #[.slice ra rn rp, .int .i64 rf, .int .i64 (rz : Int), .int .u64 rg.c, .bool rg.o, .int .i64 (hi rg.s), .int .u64 (lo rg.s), .int .i64 rg.mn, .int .i64 rg.mx] 38)) := (hbW3.block _ (Array.getElem?_eq_some_iff.1 HNA.out).1).trans HNA.out
            replace HNB : Hid (W3.heap[W1.heap.size]? = some (.cells #[.slice sa sn sp, .int .i64 rf, .int .i64 (rz : Int), .int .u64 rg.c, .bool rg.o, .int .i64 (hi rg.s), .int .u64 (lo rg.s), .int .i64 rg.mn, .int .i64 rg.mx] 42)) := (hbW3.block _ (Array.getElem?_eq_some_iff.1 HNB.out).1).trans HNB.out
            clear hbW3
            refine hK.out _ _ ?_ (fun hHeld => ?_)
            · exact ⟨trivial, HWW3.out⟩
            clear hK K
            refine wpAnyH_ready (rs := [7]) (by kernel_rfl) (by simp) ?_
            refine AllReadyH.cons (o := _) rfl (fun K hK => ?_) AllReadyH.nil
            go_simp
            refine (sameAll17_true v9 _ [⟨.slice ra rn rp, D, rf, rz, rg⟩] [⟨.slice sa sn sp, D, rf, rz, rg⟩] W3 HNF.out (t1_reads (D := D) (z := rz) (g := rg) ((HT2.out.below HBw7.out).below HWW3.out) HNB.out) rfl).mono ?_
            rintro e WZ ⟨rfl, hbZ⟩
            have HWZ : Hid (Below w6.heap.size w6 WZ) := (HBw7.out.trans (HWW3.out.mono HBw7.out.size)).trans (hbZ.mono (HBw7.out.trans (HWW3.out.mono HBw7.out.size)).size)
            have HWY : Hid (Below w7.heap.size w7 WZ) := HWW3.out.trans (hbZ.mono HWW3.out.size)
            clear hbZ
            refine hK.out _ _ ?_ (fun hHeld => ?_)
            · exact ⟨trivial, HWY.out⟩
            clear hK K
            refine wpAnyH_take (i := 8) (v := .bool true) rfl (by kernel_rfl) (by kernel_rfl) (by kernel_rfl) (fun _ _ _ h => h) (Or.inl ⟨by rfl, ?_⟩) (by assumption) ?_
            · (intro w1 hSw; (try dsimp only at hSw); go_simp)
            simp only [List.getElem_toArray, List.getElem_cons_succ, List.getElem_cons_zero, Act.put, List.setIfInBounds_toArray, List.set_cons_zero, List.set_cons_succ]
            refine wpAnyH_take (i := 9) (v := .bool true) rfl (by kernel_rfl) (by kernel_rfl) (by kernel_rfl) (fun _ _ _ h => h) (Or.inl ⟨by rfl, ?_⟩) (by assumption) ?_
            · (intro w1 hSw; (try dsimp only at hSw); go_simp)
            simp only [List.getElem_toArray, List.getElem_cons_succ, List.getElem_cons_zero, Act.put, List.setIfInBounds_toArray, List.set_cons_zero, List.set_cons_succ]
            refine wpAnyH_take (i := 10) (v := .bool true) rfl (by kernel_rfl) (by kernel_rfl) (by kernel_rfl) (fun _ _ _ h => h) (Or.inl ⟨by rfl, ?_⟩) (by assumption) ?_
            · (intro w1 hSw; (try dsimp only at hSw); go_simp)
            simp only [List.getElem_toArray, List.getElem_cons_succ, List.getElem_cons_zero, Act.put, List.setIfInBounds_toArray, List.set_cons_zero, List.set_cons_succ]
            refine wpAnyH_take (i := 11) (v := .bool true) rfl (by kernel_rfl) (by kernel_rfl) (by kernel_rfl) (fun _ _ _ h => h) (Or.inl ⟨by rfl, ?_⟩) (by assumption) ?_
            · (intro w1 hSw; (try dsimp only at hSw); go_simp)
            simp only [List.getElem_toArray, List.getElem_cons_succ, List.getElem_cons_zero, Act.put, List.setIfInBounds_toArray, List.set_cons_zero, List.set_cons_succ]
            refine wpAnyH_take (i := 12) (v := .bool true) rfl (by kernel_rfl) (by kernel_rfl) (by kernel_rfl) (fun _ _ _ h => h) (Or.inl ⟨by rfl, ?_⟩) (by assumption) ?_
            · (intro w1 hSw; (try dsimp only at hSw); go_simp)
            simp only [List.getElem_toArray, List.getElem_cons_succ, List.getElem_cons_zero, Act.put, List.setIfInBounds_toArray, List.set_cons_zero, List.set_cons_succ]
            refine wpAnyH_take (i := 13) (v := .bool true) rfl (by kernel_rfl) (by kernel_rfl) (by kernel_rfl) (fun _ _ _ h => h) (Or.inl ⟨by rfl, ?_⟩) (by assumption) ?_
            · (intro w1 hSw; (try dsimp only at hSw); go_simp)
            simp only [List.getElem_toArray, List.getElem_cons_succ, List.getElem_cons_zero, Act.put, List.setIfInBounds_toArray, List.set_cons_zero, List.set_cons_succ]
            refine wpAnyH_take (i := 14) (v := .bool true) rfl (by kernel_rfl) (by kernel_rfl) (by kernel_rfl) (fun _ _ _ h => h) (Or.inl ⟨by rfl, ?_⟩) (by assumption) ?_
            · (intro w1 hSw; (try dsimp only at hSw); go_simp)
            simp only [List.getElem_toArray, List.getElem_cons_succ, List.getElem_cons_zero, Act.put, List.setIfInBounds_toArray, List.set_cons_zero, List.set_cons_succ]
            refine wpAnyH_take (i := 15) (v := .int .i64 re) rfl (by kernel_rfl) (by kernel_rfl) (by kernel_rfl) (fun _ _ _ h => h) (Or.inl ⟨by rfl, ?_⟩) (by assumption) ?_
            · (intro w1 hSw; (try dsimp only at hSw); go_simp)
            simp only [List.getElem_toArray, List.getElem_cons_succ, List.getElem_cons_zero, Act.put, List.setIfInBounds_toArray, List.set_cons_zero, List.set_cons_succ]
            refine wpAnyH_take (i := 16) (v := .int .i64 re) rfl (by kernel_rfl) (by kernel_rfl) (by kernel_rfl) (fun _ _ _ h => h) (Or.inl ⟨by rfl, ?_⟩) (by assumption) ?_
            · (intro w1 hSw; (try dsimp only at hSw); go_simp)
            simp only [List.getElem_toArray, List.getElem_cons_succ, List.getElem_cons_zero, Act.put, List.setIfInBounds_toArray, List.set_cons_zero, List.set_cons_succ]
            refine wpAnyH_take (i := 17) (v := .bool true) rfl (by kernel_rfl) (by kernel_rfl) (by kernel_rfl) (fun _ _ _ h => h) (Or.inl ⟨by rfl, ?_⟩) (by assumption) ?_
            · (intro w1 hSw; (try dsimp only at hSw); go_simp)
            simp only [List.getElem_toArray, List.getElem_cons_succ, List.getElem_cons_zero, Act.put, List.setIfInBounds_toArray, List.set_cons_zero, List.set_cons_succ]
            refine wpAnyH_take (i := 18) (v := .bool true) rfl (by kernel_rfl) (by kernel_rfl) (by kernel_rfl) (fun _ _ _ h => h) (Or.inl ⟨by rfl, ?_⟩) (by assumption) ?_
            · (intro w1 hSw; (try dsimp only at hSw); go_simp)
            simp only [List.getElem_toArray, List.getElem_cons_succ, List.getElem_cons_zero, Act.put, List.setIfInBounds_toArray, List.set_cons_zero, List.set_cons_succ]
            refine wpAnyH_take (i := 19) (v := .bool true) rfl (by kernel_rfl) (by kernel_rfl) (by kernel_rfl) (fun _ _ _ h => h) (Or.inl ⟨by rfl, ?_⟩) (by assumption) ?_
            · (intro w1 hSw; (try dsimp only at hSw); go_simp)
            simp only [List.getElem_toArray, List.getElem_cons_succ, List.getElem_cons_zero, Act.put, List.setIfInBounds_toArray, List.set_cons_zero, List.set_cons_succ]
            clear hHeld
            refine wpAnyH_done (by kernel_rfl) ?_ _
            refine NoPanic.normal ?_
            have HBB : Hid (Below w.heap.size w WZ) := HB6.out.trans (HWZ.out.mono HB6.out.size)
            go_wp2_with fail
            go_ret
            exact ⟨rfl, HBB.out⟩
        · skip
          go_simp
          obtain ⟨W1, HEW1⟩ := hid_ex (w7.alloc (.cells #[.slice sa sn sp, .int .i64 rf, .int .i64 (rz : Int), .int .u64 rg.c, .bool rg.o, .int .i64 (hi rg.s), .int .u64 (lo rg.s), .int .i64 rg.mn, .int .i64 rg.mx] 42))
          have hbW1 : Below w7.heap.size w7 W1 := by rw [HEW1.out]; exact new_below _ _
          have HNB : Hid (W1.heap[w7.heap.size]? = some (.cells #[.slice sa sn sp, .int .i64 rf, .int .i64 (rz : Int), .int .u64 rg.c, .bool rg.o, .int .i64 (hi rg.s), .int .u64 (lo rg.s), .int .i64 rg.mn, .int .i64 rg.mx] 42)) := by rw [HEW1.out]; exact heap_alloc_new _ _
          have HWW1 : Hid (Below w7.heap.size w7 W1) := HWw7.out.trans (hbW1.mono HWw7.out.size)
          rw [← HEW1.out]
          clear HEW1
          clear hbW1
          refine hK.out _ _ ?_ (fun hHeld => ?_)
          · exact ⟨trivial, HWW1.out⟩
          clear hK K
          refine wpAnyH_ready (rs := [3]) (by kernel_rfl) (by simp) ?_
          refine AllReadyH.cons (o := _) rfl (fun K hK => ?_) AllReadyH.nil
          go_simp
          obtain ⟨W2, HEW2⟩ := hid_ex (W1.alloc (.cells #[.slice ra rn rp, .int .i64 rf, .int .i64 (rz : Int), .int .u64 rg.c, .bool rg.o, .int .i64 (hi rg.s), .int .u64 (lo rg.s), .int .i64 rg.mn, .int .i64 rg.mx] 38))
          have hbW2 : Below W1.heap.size W1 W2 := by rw [HEW2.out]; exact new_below _ _
          have HNA : Hid (W2.heap[W1.heap.size]? = some (.cells #[.slice ra rn rp, .int .i64 rf, .int .i64 (rz : Int), .int .u64 rg.c, .bool rg.o, .int .i64 (hi rg.s), .int .u64 (lo rg.s), .int .i64 rg.mn, .int .i64 rg.mx] 38)) := by rw [HEW2.out]; exact heap_alloc_new _ _
          have HWW2 : Hid (Below w7.heap.size w7 W2) := HWW1.out.trans (hbW2.mono HWW1.out.size)
          replace HNB : Hid (W2.heap[w7.heap.size]? = some (.cells #[.slice sa sn sp, .int .i64 rf, .int .i64 (rz : Int), .int .u64 rg.c, .bool rg.o, .int .i64 (hi rg.s), .int .u64 (lo rg.s), .int .i64 rg.mn, .int .i64 rg.mx] 42)) := (hbW2.block _ (Array.getElem?_eq_some_iff.1 HNB.out).1).trans HNB.out
          rw [← HEW2.out]
          clear HEW2
          clear hbW2
          refine hK.out _ _ ?_ (fun hHeld => ?_)
          · exact ⟨trivial, HWW2.out⟩
          clear hK K
          refine wpAnyH_ready (rs := [4]) (by kernel_rfl) (by simp) ?_
          refine AllReadyH.cons (o := _) rfl (fun K hK => ?_) AllReadyH.nil
          go_simp
          refine (as17_any _ [⟨.slice ra rn rp, D, rf, rz, rg⟩] W2 (t1_reads (D := D) (z := rz) (g := rg) ((HT1.out.below HBw7.out).below HWW2.out) HNA.out) (by simp)).mono ?_
          rintro e W3 ⟨v9, rfl, hT9, hbW3⟩
          have HNF : Hid (TReads W3 v9 [⟨.slice ra rn rp, D, rf, rz, rg⟩]) := hT9
          clear hT9
          have HWW3 : Hid (Below w7.heap.size w7 W3) := HWW2.out.trans (hbW3.mono HWW2.out.size)
          replace HNB : Hid (W3.heap[w7.heap.size]? = some (.cells #[.slice sa sn sp, .int .i64 rf, .int .i64 (rz : Int), .int .u64 rg.c, .bool rg.o, .int .i64 (hi rg.s), .int .u64 (lo rg.s), .int .i64 rg.mn, .int .i64 rg.mx] 42)) := (hbW3.block _ (Array.getElem?_eq_some_iff.1 HNB.out).1).trans HNB.out
          replace HNA : Hid (W3.heap[W1.heap.size]? = some (.cells #[.slice ra rn rp, .int .i64 rf, .int .i64 (rz : Int), .int .u64 rg.c, .bool rg.o, .int .i64 (hi rg.s), .int .u64 (lo rg.s), .int .i64 rg.mn, .int .i64 rg.mx] 38)) := (hbW3.block _ (Array.getElem?_eq_some_iff.1 HNA.out).1).trans HNA.out
          clear hbW3
          refine hK.out _ _ ?_ (fun hHeld => ?_)
          · exact ⟨trivial, HWW3.out⟩
          clear hK K
          refine wpAnyH_ready (rs := [7]) (by kernel_rfl) (by simp) ?_
          refine AllReadyH.cons (o := _) rfl (fun K hK => ?_) AllReadyH.nil
          go_simp
          refine (sameAll17_true v9 _ [⟨.slice ra rn rp, D, rf, rz, rg⟩] [⟨.slice sa sn sp, D, rf, rz, rg⟩] W3 HNF.out (t1_reads (D := D) (z := rz) (g := rg) ((HT2.out.below HBw7.out).below HWW3.out) HNB.out) rfl).mono ?_
          rintro e WZ ⟨rfl, hbZ⟩
          have HWZ : Hid (Below w6.heap.size w6 WZ) := (HBw7.out.trans (HWW3.out.mono HBw7.out.size)).trans (hbZ.mono (HBw7.out.trans (HWW3.out.mono HBw7.out.size)).size)
          have HWY : Hid (Below w7.heap.size w7 WZ) := HWW3.out.trans (hbZ.mono HWW3.out.size)
          clear hbZ
          refine hK.out _ _ ?_ (fun hHeld => ?_)
          · exact ⟨trivial, HWY.out⟩
          clear hK K
          refine wpAnyH_take (i := 8) (v := .bool true) rfl (by kernel_rfl) (by kernel_rfl) (by kernel_rfl) (fun _ _ _ h => h) (Or.inl ⟨by rfl, ?_⟩) (by assumption) ?_
          · (intro w1 hSw; (try dsimp only at hSw); go_simp)
          simp only [List.getElem_toArray, List.getElem_cons_succ, List.getElem_cons_zero, Act.put, List.setIfInBounds_toArray, List.set_cons_zero, List.set_cons_succ]
          refine wpAnyH_take (i := 9) (v := .bool true) rfl (by kernel_rfl) (by kernel_rfl) (by kernel_rfl) (fun _ _ _ h => h) (Or.inl ⟨by rfl, ?_⟩) (by assumption) ?_
          · (intro w1 hSw; (try dsimp only at hSw); go_simp)
          simp only [List.getElem_toArray, List.getElem_cons_succ, List.getElem_cons_zero, Act.put, List.setIfInBounds_toArray, List.set_cons_zero, List.set_cons_succ]
          refine wpAnyH_take (i := 10) (v := .bool true) rfl (by kernel_rfl) (by kernel_rfl) (by kernel_rfl) (fun _ _ _ h => h) (Or.inl ⟨by rfl, ?_⟩) (by assumption) ?_
          · (intro w1 hSw; (try dsimp only at hSw); go_simp)
          simp only [List.getElem_toArray, List.getElem_cons_succ, List.getElem_cons_zero, Act.put, List.setIfInBounds_toArray, List.set_cons_zero, List.set_cons_succ]
          refine wpAnyH_take (i := 11) (v := .bool true) rfl (by kernel_rfl) (by kernel_rfl) (by kernel_rfl) (fun _ _ _ h => h) (Or.inl ⟨by rfl, ?_⟩) (by assumption) ?_
          · (intro w1 hSw; (try dsimp only at hSw); go_simp)
          simp only [List.getElem_toArray, List.getElem_cons_succ, List.getElem_cons_zero, Act.put, List.setIfInBounds_toArray, List.set_cons_zero, List.set_cons_succ]
          refine wpAnyH_take (i := 12) (v := .bool true) rfl (by kernel_rfl) (by kernel_rfl) (by kernel_rfl) (fun _ _ _ h => h) (Or.inl ⟨by rfl, ?_⟩) (by assumption) ?_
          · (intro w1 hSw; (try dsimp only at hSw); go_simp)
          simp only [List.getElem_toArray, List.getElem_cons_succ, List.getElem_cons_zero, Act.put, List.setIfInBounds_toArray, List.set_cons_zero, List.set_cons_succ]
          refine wpAnyH_take (i := 13) (v := .bool true) rfl (by kernel_rfl) (by kernel_rfl) (by kernel_rfl) (fun _ _ _ h => h) (Or.inl ⟨by rfl, ?_⟩) (by assumption) ?_
          · (intro w1 hSw; (try dsimp only at hSw); go_simp)
          simp only [List.getElem_toArray, List.getElem_cons_succ, List.getElem_cons_zero, Act.put, List.setIfInBounds_toArray, List.set_cons_zero, List.set_cons_succ]
          refine wpAnyH_take (i := 14) (v := .bool true) rfl (by kernel_rfl) (by kernel_rfl) (by kernel_rfl) (fun _ _ _ h => h) (Or.inl ⟨by rfl, ?_⟩) (by assumption) ?_
          · (intro w1 hSw; (try dsimp only at hSw); go_simp)
          simp only [List.getElem_toArray, List.getElem_cons_succ, List.getElem_cons_zero, Act.put, List.setIfInBounds_toArray, List.set_cons_zero, List.set_cons_succ]
          refine wpAnyH_take (i := 15) (v := .int .i64 re) rfl (by kernel_rfl) (by kernel_rfl) (by kernel_rfl) (fun _ _ _ h => h) (Or.inl ⟨by rfl, ?_⟩) (by assumption) ?_
          · (intro w1 hSw; (try dsimp only at hSw); go_simp)
          simp only [List.getElem_toArray, List.getElem_cons_succ, List.getElem_cons_zero, Act.put, List.setIfInBounds_toArray, List.set_cons_zero, List.set_cons_succ]
          refine wpAnyH_take (i := 16) (v := .int .i64 re) rfl (by kernel_rfl) (by kernel_rfl) (by kernel_rfl) (fun _ _ _ h => h) (Or.inl ⟨by rfl, ?_⟩) (by assumption) ?_
          · (intro w1 hSw; (try dsimp only at hSw); go_simp)
          simp only [List.getElem_toArray, List.getElem_cons_succ, List.getElem_cons_zero, Act.put, List.setIfInBounds_toArray, List.set_cons_zero, List.set_cons_succ]
          refine wpAnyH_take (i := 17) (v := .bool true) rfl (by kernel_rfl) (by kernel_rfl) (by kernel_rfl) (fun _ _ _ h => h) (Or.inl ⟨by rfl, ?_⟩) (by assumption) ?_
          · (intro w1 hSw; (try dsimp only at hSw); go_simp)
          simp only [List.getElem_toArray, List.getElem_cons_succ, List.getElem_cons_zero, Act.put, List.setIfInBounds_toArray, List.set_cons_zero, List.set_cons_succ]
          refine wpAnyH_take (i := 18) (v := .bool true) rfl (by kernel_rfl) (by kernel_rfl) (by kernel_rfl) (fun _ _ _ h => h) (Or.inl ⟨by rfl, ?_⟩) (by assumption) ?_
          · (intro w1 hSw; (try dsimp only at hSw); go_simp)
          simp only [List.getElem_toArray, List.getElem_cons_succ, List.getElem_cons_zero, Act.put, List.setIfInBounds_toArray, List.set_cons_zero, List.set_cons_succ]
          refine wpAnyH_take (i := 19) (v := .bool true) rfl (by kernel_rfl) (by kernel_rfl) (by kernel_rfl) (fun _ _ _ h => h) (Or.inl ⟨by rfl, ?_⟩) (by assumption) ?_
          · (intro w1 hSw; (try dsimp only at hSw); go_simp)
          simp only [List.getElem_toArray, List.getElem_cons_succ, List.getElem_cons_zero, Act.put, List.setIfInBounds_toArray, List.set_cons_zero, List.set_cons_succ]
          clear hHeld
          refine wpAnyH_done (by kernel_rfl) ?_ _
          refine NoPanic.normal ?_
          have HBB : Hid (Below w.heap.size w WZ) := HB6.out.trans (HWZ.out.mono HB6.out.size)
          go_wp2_with fail
          go_ret
          exact ⟨rfl, HBB.out⟩
end Go.Proofs.YtoenijflijfogaaGreat
