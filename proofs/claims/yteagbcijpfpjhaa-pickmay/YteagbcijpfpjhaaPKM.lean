/- What is offered may be done (written by mkpkm.py). -/
import Derived.Test.YteagbcijpfpjhaaPK19
namespace Go.Proofs.Yteagbcijpfpjhaa
open Go.RowKit Go.Shelf

set_option maxRecDepth 100000 in
set_option maxHeartbeats 8000000 in
theorem may_walk (v : Value) (L : List Rn) (nn : Bool) (w : World) (hR : NReads w v L) : Calls Try.prog 6 #[v, .bool nn] w fun e w' => e = .returned (.bool true) ∧ Below w.heap.size w w' := by
  have HR : Hid (NReads w v L) := hR
  obtain ⟨a, cap, rfl, hl1, hl2⟩ := hR.form
  clear hR
  unfold maxLen at hl2
  go_enter Try.func6, Try.ntmps6
  go_wp2_with fail
  refine (offer_any _ L _ HR.out).mono ?_
  rintro e w1 ⟨hb1, hy, hn⟩
  have HB1 : Hid (Below w.heap.size w w1) := hb1
  clear hb1
  obtain ⟨o, Ho⟩ := hid_ex (okB L)
  cases o with
  | false =>
    obtain rfl := hn Ho.out.symm
    clear hn hy
    go_wp2_with (refine stop_store 28 _ _ rfl ?_)
    refine Stop.of ?_
    refine wpList_storeN rfl _ _ _ rfl w1.heap.size 0 [.slice none 0 0, .int .i64 0] rfl rfl _ _ (heap_alloc_new _ _) (by simp) (by kernel_rfl) (by kernel_rfl) ?_
    intro W hW
    obtain ⟨hbW, hxW, hlW⟩ := stW_new hW (by simp)
    have HBW : Hid (Below w.heap.size w W) := HB1.out.trans (hbW.mono HB1.out.size)
    have HX : Hid (W.heap[w1.heap.size]? = some (.cells #[.slice none 0 0, .int .i64 0] 28)) := hxW
    clear hW hbW hxW
    go_wp2_with fail
    refine (alive_any _).mono ?_
    rintro e w2 ⟨rfl, hb2⟩
    have HB2 : Hid (Below w.heap.size w w2) := HBW.out.trans (hb2.mono HBW.out.size)
    have g0 := (cell_row ((hb2.block _ hlW).trans HX.out) 0 (by simp)).1
    simp only [List.getElem_toArray, List.getElem_cons_zero] at g0
    clear hb2
    go_wp2_with fail
    go_ret
    exact ⟨rfl, HB2.out⟩
  | true =>
    have HOK : Hid (okR L) := okB_iff.1 Ho.out.symm
    have h64 : L.length ≤ 64 := HOK.out.1
    obtain ⟨v', rfl, hO⟩ := hy Ho.out.symm
    clear hn hy
    obtain ⟨T, HT⟩ := hid_ex (offT L)
    rw [← HT.out] at hO ⊢
    have HOw : Hid (Own w1 w.heap.size v' T.fs) := hO
    obtain ⟨fa, fc, rfl, hfl⟩ := hO.form
    clear hO
    unfold maxLen at hfl
    go_wp2_with (refine stop_store 28 _ _ rfl ?_)
    refine Stop.of ?_
    refine wpList_storeN rfl _ _ _ rfl w1.heap.size 0 [.slice fa T.fs.length fc, .int .i64 T.lv] rfl rfl _ _ (heap_alloc_new _ _) (by simp) (by kernel_rfl) (by kernel_rfl) ?_
    intro W hW
    obtain ⟨hbW, hxW, hlW⟩ := stW_new hW (by simp)
    have HBW : Hid (Below w.heap.size w W) := HB1.out.trans (hbW.mono HB1.out.size)
    have HOW : Hid (Own W w.heap.size (.slice fa T.fs.length fc) T.fs) := HOw.out.below hbW
    have HX : Hid (W.heap[w1.heap.size]? = some (.cells #[.slice fa T.fs.length fc, .int .i64 T.lv] 28)) := hxW
    obtain ⟨B, HBB⟩ := hid_ex w1.heap.size
    rw [← HBB.out] at HX hlW ⊢
    clear hW hbW hxW HBB HOw
    cases hs : T.s with
    | false =>
      have hbz : ((T.fs.length : Int) == 0) = true := by
        have := (offT_zero HOK.out (by rw [← HT.out]; exact hs)).1
        rw [HT.out, this]
        rfl
      clear hs HT
      go_wp2_with fail
      refine (alive_any _).mono ?_
      rintro e w2 ⟨rfl, hb2⟩
      have HB2 : Hid (Below w.heap.size w w2) := HBW.out.trans (hb2.mono HBW.out.size)
      have g0 := (cell_row ((hb2.block _ hlW).trans HX.out) 0 (by simp)).1
      simp only [List.getElem_toArray, List.getElem_cons_zero] at g0
      clear hb2
      go_wp2_with fail
      go_ret
      exact ⟨rfl, HB2.out⟩
    | true =>
      have HTO : Hid (TkOk L T) := by
        rw [HT.out] at hs ⊢
        exact off_ok HOK.out hs
      clear hs HT
      have hl0 := HTO.out.l0
      have hl3 := HTO.out.l3
      have hne := HTO.out.ne
      obtain ⟨yb, yo, rfl, hyb, hyc⟩ := HOW.out.reads.at 0 hne
      have HYM : Hid (T.fs[0]'hne ∈ T.fs) := List.getElem_mem hne
      obtain ⟨y, Hy⟩ := hid_ex (T.fs[0]'hne)
      rw [← Hy.out] at hyc HYM
      unfold ic at hyc
      rw [Nat.add_zero] at hyc
      have HYN : Hid (∀ r ∈ L, r.f ∉ T.fs → r.f ≠ y) := fun r _ hr e => hr (by rw [e]; exact HYM.out)
      obtain ⟨ry, hry, hyf⟩ := HTO.out.nm y HYM.out
      have hy1 : 1 ≤ y := by rw [← hyf]; exact (HOK.out.2.1 ry hry).1
      have hy2 : y ≤ 9223372036854775807 := by rw [← hyf]; exact (HR.out.ok ry hry).f2
      have g0 := (cell_row HX.out 0 (by simp)).1
      have g1 := (cell_row HX.out 1 (by simp)).1
      simp only [List.getElem_toArray, List.getElem_cons_zero, List.getElem_cons_succ] at g0 g1
      clear Hy hry hyf HYM
      have HS0 : Hid ((0 : Int) ≤ sumC L T.fs) := by
        unfold Hid
        have h1 := tog_le (okR_uq HOK.out) HTO.out.nd (fun r hr => by have := (HOK.out.2.1 r hr).2.2.2; omega)
        have h2 : 0 ≤ togF L T.fs := by
          unfold togF
          rw [togF_sum HTO.out.nd, Int.zero_add]
          have : ∀ l : List Rn, (∀ r ∈ l, 0 ≤ r.c) → 0 ≤ (l.map Rn.c).sum := by
            intro l
            induction l with
            | nil => intro _; simp
            | cons x l ih =>
              intro hl
              rw [List.map_cons, List.sum_cons]
              have := ih (fun z hz => hl z (List.mem_cons_of_mem _ hz))
              have := hl x (List.mem_cons_self ..)
              omega
          exact this _ (fun r hr => by have := (HOK.out.2.1 r (List.mem_filter.1 hr).1).2.2.2; omega)
        omega
      cases nn with
      | true =>
        have hn0 : (0 : Int) ≤ 0 := by omega
        have HNS : Hid ((0 : Int) ≤ sumC L T.fs) := HS0.out
        obtain ⟨M, hsub, hmem, hlen, haft, hokM⟩ := off_step HOK.out HTO.out (f := y) hy1 hn0 HNS.out HYN.out
        obtain ⟨M', HM'⟩ := hid_ex (if 0 < (0 : Int) then M ++ [⟨y, T.lv, (0 : Int), false⟩] else M)
        rw [← HM'.out] at haft hokM
        have HAF : Hid (aftF L T.fs T.lv y (0 : Int) = some M') := haft
        have HOM : Hid (okB M' = true) := okB_true hokM
        have HLN : Hid (M'.length = L.length - T.fs.length + if 0 < (0 : Int) then 1 else 0) := by
          unfold Hid
          rw [HM'.out]
          split
          · rw [List.length_append, List.length_singleton]; omega
          · omega
        have hfle : T.fs.length ≤ L.length := by omega
        have hM64 : M'.length ≤ 64 := hokM.1
        clear hsub hmem hlen haft hokM HM'
        go_wp2_with fail
        refine (after_any _ _ L T.fs T.lv y (0 : Int) _ (HR.out.below HBW.out) HOW.out.reads (by omega) (by omega) hy2 (by omega)).mono ?_
        rw [HAF.out]
        rintro e w4 ⟨hb4, v4, rfl, hO4⟩
        have HB4 : Hid (Below w.heap.size w w4) := HBW.out.trans (hb4.mono HBW.out.size)
        have HO4 : Hid (NOwn 48 w4 W.heap.size v4 M') := hO4
        have HOF4 : Hid (Own w4 w.heap.size (.slice (some ⟨yb, yo, none⟩) T.fs.length fc) T.fs) := HOW.out.below hb4
        have HX4 : Hid (w4.heap[B]? = some (.cells #[.slice (some ⟨yb, yo, none⟩) T.fs.length fc, .int .i64 T.lv] 28)) := (hb4.block _ hlW).trans HX.out
        obtain ⟨na, nc, rfl, hnl1, hnl2⟩ := hO4.reads.form
        unfold maxLen at hnl2
        clear hb4 hO4 g0 g1
        go_wp2_with fail
        refine (right_any _ M' _ HO4.out.reads).mono ?_
        rw [HOM.out]
        rintro e w5 ⟨rfl, hb5⟩
        have HB5 : Hid (Below w.heap.size w w5) := HB4.out.trans (hb5.mono HB4.out.size)
        have HOF5 : Hid (Own w5 w.heap.size (.slice (some ⟨yb, yo, none⟩) T.fs.length fc) T.fs) := HOF4.out.below hb5
        have HX5 : Hid (w5.heap[B]? = some (.cells #[.slice (some ⟨yb, yo, none⟩) T.fs.length fc, .int .i64 T.lv] 28)) := (hb5.block _ (Array.getElem?_eq_some_iff.1 HX4.out).1).trans HX4.out
        have g0 := (cell_row HX5.out 0 (by simp)).1
        simp only [List.getElem_toArray, List.getElem_cons_zero] at g0
        have hB5 : B < w5.heap.size := (Array.getElem?_eq_some_iff.1 HX5.out).1
        clear hb5 HO4 HOF4 HX4
        by_cases hnp : 0 < (0 : Int)
        · exact absurd hnp (by decide)
        · have HLN2 : Hid ((M'.length : Int) = (L.length : Int) - (T.fs.length : Int)) := by
            unfold Hid
            have := HLN.out
            rw [if_neg hnp] at this
            omega
          obtain ⟨q, Hq⟩ := hid_ex ((L.length : Int) - (T.fs.length : Int))
          have hq0 : 0 ≤ q := by rw [Hq.out]; omega
          have hq1 : q ≤ 64 := by rw [Hq.out]; omega
          have hqe : (L.length : Int) - (T.fs.length : Int) = q := Hq.out.symm
          have hbl : ((M'.length : Int) == q) = true := by rw [beq_iff_eq, Hq.out]; exact HLN2.out
          clear HLN2 Hq
          go_wp2_with fail
          clear hqe
          go_loopw [13] (fun i wr => ∃ k : Nat, 1 ≤ k ∧ k ≤ T.fs.length ∧ i = .int .i64 (k : Int) ∧ Hid (Below w5.heap.size w5 wr)) (fun i _ => T.fs.length - (intOf i).toNat)
          case atStart => exact ⟨1, by omega, HTO.out.ne, rfl, Below.refl _ _⟩
          case round =>
            obtain ⟨k, hk1, hk2, rfl, HBk⟩ := hrel
            have e0 := (HBk.out.cell (p := ⟨B, 0, none⟩) hB5).trans g0
            have HBw : Hid (Below w.heap.size w wr) := HB5.out.trans (HBk.out.mono HB5.out.size)
            by_cases hlt : k < T.fs.length
            · obtain ⟨p, rfl⟩ : ∃ p, k = p + 1 := ⟨k - 1, by omega⟩
              obtain ⟨fb, fo, he1, hfb, hfc⟩ := (HOF5.out.below HBk.out).reads.at (p + 1) hlt
              cases he1
              obtain ⟨fb2, fo2, he2, _, hfd⟩ := (HOF5.out.below HBk.out).reads.at p (by omega)
              cases he2
              have hup : T.fs[p]'(by omega) < T.fs[p + 1]'hlt := List.pairwise_iff_getElem.1 HTO.out.up p (p + 1) (by omega) hlt (by omega)
              obtain ⟨x1, Hx1⟩ := hid_ex (T.fs[p]'(by omega))
              obtain ⟨x2, Hx2⟩ := hid_ex (T.fs[p + 1]'hlt)
              rw [← Hx1.out, ← Hx2.out] at hup
              rw [← Hx1.out] at hfd
              rw [← Hx2.out] at hfc
              unfold ic at hfc hfd
              have hde : decide (x2 ≤ x1) = false := decide_eq_false (by omega)
              have hcs : ((p + 1 : Nat) : Int) = (p : Int) + 1 := rfl
              clear Hx1 Hx2
              rw [hcs]
              clear hcs
              go_wp2_with fail
              go_quiet (fail)
              have HBn : Hid (Below w5.heap.size w5 (wr.drewN nq)) := below_drewN HBk.out nq
              go_wp2_with fail
              go_roundw
              case rel => exact ⟨p + 1 + 1, by omega, by omega, by go_num, HBn.out⟩
              case measure => simp [intOf]; omega
            · go_wp2_with fail
              refine (alive_any _).mono ?_
              rintro e w7 ⟨rfl, hb7⟩
              have HB7 : Hid (Below w.heap.size w w7) := HBw.out.trans (hb7.mono HBw.out.size)
              clear hb7
              go_wp2_with fail
              go_ret
              exact ⟨rfl, HB7.out⟩
      | false =>
        go_wp2_with fail
        refine (together_any _ _ L T.fs T.lv _ (HR.out.below HBW.out) HOW.out.reads h64 (by have := (off_step HOK.out HTO.out (f := y) (n := 0) hy1 (by omega) (HS0.out) HYN.out); obtain ⟨M, h1, _, h3, _⟩ := this; omega) (fun r hr => by have := (HOK.out.2.1 r hr).2.2.2; omega)).mono ?_
        obtain ⟨n, Hnn⟩ := hid_ex (togF L T.fs)
        rw [← Hnn.out]
        rintro e w3 ⟨rfl, hn0, hn2, hb3⟩
        have HNS : Hid (n ≤ sumC L T.fs) := by rw [Hnn.out]; exact tog_le (okR_uq HOK.out) HTO.out.nd (fun r hr => by have := (HOK.out.2.1 r hr).2.2.2; omega)
        have HB3 : Hid (Below w.heap.size w w3) := HBW.out.trans (hb3.mono HBW.out.size)
        have HO3 : Hid (Own w3 w.heap.size (.slice (some ⟨yb, yo, none⟩) T.fs.length fc) T.fs) := HOW.out.below hb3
        have HX3 : Hid (w3.heap[B]? = some (.cells #[.slice (some ⟨yb, yo, none⟩) T.fs.length fc, .int .i64 T.lv] 28)) := (hb3.block _ hlW).trans HX.out
        have hl3w : B < w3.heap.size := (Array.getElem?_eq_some_iff.1 HX3.out).1
        clear hb3 g0 g1 HBW HOW HX hlW
        have HBW : Hid (Below w.heap.size w w3) := HB3.out
        have HOW : Hid (Own w3 w.heap.size (.slice (some ⟨yb, yo, none⟩) T.fs.length fc) T.fs) := HO3.out
        have HX : Hid (w3.heap[B]? = some (.cells #[.slice (some ⟨yb, yo, none⟩) T.fs.length fc, .int .i64 T.lv] 28)) := HX3.out
        have hlW := hl3w
        have g0 := (cell_row HX.out 0 (by simp)).1
        have g1 := (cell_row HX.out 1 (by simp)).1
        simp only [List.getElem_toArray, List.getElem_cons_zero, List.getElem_cons_succ] at g0 g1
        clear hyc Hnn HB3 HO3 HX3 hl3w
        obtain ⟨M, hsub, hmem, hlen, haft, hokM⟩ := off_step HOK.out HTO.out (f := y) hy1 hn0 HNS.out HYN.out
        obtain ⟨M', HM'⟩ := hid_ex (if 0 < n then M ++ [⟨y, T.lv, n, false⟩] else M)
        rw [← HM'.out] at haft hokM
        have HAF : Hid (aftF L T.fs T.lv y n = some M') := haft
        have HOM : Hid (okB M' = true) := okB_true hokM
        have HLN : Hid (M'.length = L.length - T.fs.length + if 0 < n then 1 else 0) := by
          unfold Hid
          rw [HM'.out]
          split
          · rw [List.length_append, List.length_singleton]; omega
          · omega
        have hfle : T.fs.length ≤ L.length := by omega
        have hM64 : M'.length ≤ 64 := hokM.1
        clear hsub hmem hlen haft hokM HM'
        go_wp2_with fail
        refine (after_any _ _ L T.fs T.lv y n _ (HR.out.below HBW.out) HOW.out.reads (by omega) (by omega) hy2 (by omega)).mono ?_
        rw [HAF.out]
        rintro e w4 ⟨hb4, v4, rfl, hO4⟩
        have HB4 : Hid (Below w.heap.size w w4) := HBW.out.trans (hb4.mono HBW.out.size)
        have HO4 : Hid (NOwn 48 w4 w3.heap.size v4 M') := hO4
        have HOF4 : Hid (Own w4 w.heap.size (.slice (some ⟨yb, yo, none⟩) T.fs.length fc) T.fs) := HOW.out.below hb4
        have HX4 : Hid (w4.heap[B]? = some (.cells #[.slice (some ⟨yb, yo, none⟩) T.fs.length fc, .int .i64 T.lv] 28)) := (hb4.block _ hlW).trans HX.out
        obtain ⟨na, nc, rfl, hnl1, hnl2⟩ := hO4.reads.form
        unfold maxLen at hnl2
        clear hb4 hO4 g0 g1
        go_wp2_with fail
        refine (right_any _ M' _ HO4.out.reads).mono ?_
        rw [HOM.out]
        rintro e w5 ⟨rfl, hb5⟩
        have HB5 : Hid (Below w.heap.size w w5) := HB4.out.trans (hb5.mono HB4.out.size)
        have HOF5 : Hid (Own w5 w.heap.size (.slice (some ⟨yb, yo, none⟩) T.fs.length fc) T.fs) := HOF4.out.below hb5
        have HX5 : Hid (w5.heap[B]? = some (.cells #[.slice (some ⟨yb, yo, none⟩) T.fs.length fc, .int .i64 T.lv] 28)) := (hb5.block _ (Array.getElem?_eq_some_iff.1 HX4.out).1).trans HX4.out
        have g0 := (cell_row HX5.out 0 (by simp)).1
        simp only [List.getElem_toArray, List.getElem_cons_zero] at g0
        have hB5 : B < w5.heap.size := (Array.getElem?_eq_some_iff.1 HX5.out).1
        clear hb5 HO4 HOF4 HX4
        by_cases hnp : 0 < n
        · have HLN2 : Hid ((M'.length : Int) = (L.length : Int) - (T.fs.length : Int) + 1) := by
            unfold Hid
            have := HLN.out
            rw [if_pos hnp] at this
            omega
          obtain ⟨q, Hq⟩ := hid_ex ((L.length : Int) - (T.fs.length : Int))
          have hq0 : 0 ≤ q := by rw [Hq.out]; omega
          have hq1 : q ≤ 64 := by rw [Hq.out]; omega
          have hqe : (L.length : Int) - (T.fs.length : Int) = q := Hq.out.symm
          have hbl : ((M'.length : Int) == q + 1) = true := by rw [beq_iff_eq, Hq.out]; exact HLN2.out
          clear HLN2 Hq
          go_wp2_with fail
          clear hqe
          go_loopw [13] (fun i wr => ∃ k : Nat, 1 ≤ k ∧ k ≤ T.fs.length ∧ i = .int .i64 (k : Int) ∧ Hid (Below w5.heap.size w5 wr)) (fun i _ => T.fs.length - (intOf i).toNat)
          case atStart => exact ⟨1, by omega, HTO.out.ne, rfl, Below.refl _ _⟩
          case round =>
            obtain ⟨k, hk1, hk2, rfl, HBk⟩ := hrel
            have e0 := (HBk.out.cell (p := ⟨B, 0, none⟩) hB5).trans g0
            have HBw : Hid (Below w.heap.size w wr) := HB5.out.trans (HBk.out.mono HB5.out.size)
            by_cases hlt : k < T.fs.length
            · obtain ⟨p, rfl⟩ : ∃ p, k = p + 1 := ⟨k - 1, by omega⟩
              obtain ⟨fb, fo, he1, hfb, hfc⟩ := (HOF5.out.below HBk.out).reads.at (p + 1) hlt
              cases he1
              obtain ⟨fb2, fo2, he2, _, hfd⟩ := (HOF5.out.below HBk.out).reads.at p (by omega)
              cases he2
              have hup : T.fs[p]'(by omega) < T.fs[p + 1]'hlt := List.pairwise_iff_getElem.1 HTO.out.up p (p + 1) (by omega) hlt (by omega)
              obtain ⟨x1, Hx1⟩ := hid_ex (T.fs[p]'(by omega))
              obtain ⟨x2, Hx2⟩ := hid_ex (T.fs[p + 1]'hlt)
              rw [← Hx1.out, ← Hx2.out] at hup
              rw [← Hx1.out] at hfd
              rw [← Hx2.out] at hfc
              unfold ic at hfc hfd
              have hde : decide (x2 ≤ x1) = false := decide_eq_false (by omega)
              have hcs : ((p + 1 : Nat) : Int) = (p : Int) + 1 := rfl
              clear Hx1 Hx2
              rw [hcs]
              clear hcs
              go_wp2_with fail
              go_quiet (fail)
              have HBn : Hid (Below w5.heap.size w5 (wr.drewN nq)) := below_drewN HBk.out nq
              go_wp2_with fail
              go_roundw
              case rel => exact ⟨p + 1 + 1, by omega, by omega, by go_num, HBn.out⟩
              case measure => simp [intOf]; omega
            · go_wp2_with fail
              refine (alive_any _).mono ?_
              rintro e w7 ⟨rfl, hb7⟩
              have HB7 : Hid (Below w.heap.size w w7) := HBw.out.trans (hb7.mono HBw.out.size)
              clear hb7
              go_wp2_with fail
              go_ret
              exact ⟨rfl, HB7.out⟩
        · have HLN2 : Hid ((M'.length : Int) = (L.length : Int) - (T.fs.length : Int)) := by
            unfold Hid
            have := HLN.out
            rw [if_neg hnp] at this
            omega
          obtain ⟨q, Hq⟩ := hid_ex ((L.length : Int) - (T.fs.length : Int))
          have hq0 : 0 ≤ q := by rw [Hq.out]; omega
          have hq1 : q ≤ 64 := by rw [Hq.out]; omega
          have hqe : (L.length : Int) - (T.fs.length : Int) = q := Hq.out.symm
          have hbl : ((M'.length : Int) == q) = true := by rw [beq_iff_eq, Hq.out]; exact HLN2.out
          clear HLN2 Hq
          go_wp2_with fail
          clear hqe
          go_loopw [13] (fun i wr => ∃ k : Nat, 1 ≤ k ∧ k ≤ T.fs.length ∧ i = .int .i64 (k : Int) ∧ Hid (Below w5.heap.size w5 wr)) (fun i _ => T.fs.length - (intOf i).toNat)
          case atStart => exact ⟨1, by omega, HTO.out.ne, rfl, Below.refl _ _⟩
          case round =>
            obtain ⟨k, hk1, hk2, rfl, HBk⟩ := hrel
            have e0 := (HBk.out.cell (p := ⟨B, 0, none⟩) hB5).trans g0
            have HBw : Hid (Below w.heap.size w wr) := HB5.out.trans (HBk.out.mono HB5.out.size)
            by_cases hlt : k < T.fs.length
            · obtain ⟨p, rfl⟩ : ∃ p, k = p + 1 := ⟨k - 1, by omega⟩
              obtain ⟨fb, fo, he1, hfb, hfc⟩ := (HOF5.out.below HBk.out).reads.at (p + 1) hlt
              cases he1
              obtain ⟨fb2, fo2, he2, _, hfd⟩ := (HOF5.out.below HBk.out).reads.at p (by omega)
              cases he2
              have hup : T.fs[p]'(by omega) < T.fs[p + 1]'hlt := List.pairwise_iff_getElem.1 HTO.out.up p (p + 1) (by omega) hlt (by omega)
              obtain ⟨x1, Hx1⟩ := hid_ex (T.fs[p]'(by omega))
              obtain ⟨x2, Hx2⟩ := hid_ex (T.fs[p + 1]'hlt)
              rw [← Hx1.out, ← Hx2.out] at hup
              rw [← Hx1.out] at hfd
              rw [← Hx2.out] at hfc
              unfold ic at hfc hfd
              have hde : decide (x2 ≤ x1) = false := decide_eq_false (by omega)
              have hcs : ((p + 1 : Nat) : Int) = (p : Int) + 1 := rfl
              clear Hx1 Hx2
              rw [hcs]
              clear hcs
              go_wp2_with fail
              go_quiet (fail)
              have HBn : Hid (Below w5.heap.size w5 (wr.drewN nq)) := below_drewN HBk.out nq
              go_wp2_with fail
              go_roundw
              case rel => exact ⟨p + 1 + 1, by omega, by omega, by go_num, HBn.out⟩
              case measure => simp [intOf]; omega
            · go_wp2_with fail
              refine (alive_any _).mono ?_
              rintro e w7 ⟨rfl, hb7⟩
              have HB7 : Hid (Below w.heap.size w w7) := HBw.out.trans (hb7.mono HBw.out.size)
              clear hb7
              go_wp2_with fail
              go_ret
              exact ⟨rfl, HB7.out⟩
end Go.Proofs.Yteagbcijpfpjhaa
