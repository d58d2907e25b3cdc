/- SV6, joined. -/
import Derived.Test.YtoibmjmajbkbcaaSG19
/- The reference's Put of any list (layer 8; written by mksv6.py). -/
namespace Go.Proofs.Ytoibmjmajbkbcaa
open Go.RowKit

set_option maxRecDepth 100000 in
set_option maxHeartbeats 8000000 in
theorem refPut8 (P : Nat → Prop) (Y : Nat) (E : List En) (f : Bool) (kv : Value) (k : Ks) (a : Ag) (h : Int) (w : World) (base : Nat) (hbase : base ≤ w.heap.size) (hL : RL P w base Y E f) (hA : ∀ g, w.heap.size ≤ g → P g) (hE : srt E) (hEg : ∀ x ∈ E, 0 < x.2.c ∧ x.2.c < 18446744073709551616 ∧ rightB x.2 = true) (hlen : E.length < 4096) (hR : Reads w kv k) (ha : 0 ≤ a.c ∧ a.c < 18446744073709551616) :
    Calls Try.prog 8 #[.pointer (some ⟨Y, 0, none⟩), env kv a, .int .i64 h] w fun e w' => e = .returned (.int .i64 (mpF f h k.length a)) ∧ RL P w' base Y (if mpF f h k.length a = 0 then putE E k a else E) f ∧ Below base w w' ∧ Ku w w' ∧ ∀ c, c < w.heap.size → c ≠ Y → ¬ P c → w'.heap[c]? = w.heap[c]? := by
  have HL : Hid (RL P w base Y E f) := hL
  have HAA : Hid (∀ g, w.heap.size ≤ g → P g) := hA
  have HE : Hid (srt E) := hE
  have HEG : Hid (∀ x ∈ E, 0 < x.2.c ∧ x.2.c < 18446744073709551616 ∧ rightB x.2 = true) := hEg
  obtain ⟨v, xs, hY, hO, hxe, hbY, hP, hPv⟩ := hL
  have HPV : Hid (∀ g, v.ownBlock = some g → P g) := hPv
  have HO : Hid (EOwn w base v xs) := hO
  have HXE : Hid (xs.map evE = E) := hxe
  have HP : Hid (∀ x ∈ xs, ∀ g, x.kv.ownBlock = some g → P g) := hP
  have HNO : Hid (∀ w', Below w.heap.size w w' → RL P w' base Y E f ∧ Below base w w' ∧ Ku w w' ∧ ∀ c, c < w.heap.size → c ≠ Y → ¬ P c → w'.heap[c]? = w.heap[c]?) := fun w' hb => ⟨HL.out.below hb, hb.mono hbase, Ku.of_below hb, fun c hc _ _ => hb.block c hc⟩
  have hYl := (Array.getElem?_eq_some_iff.1 hY).1
  have HR : Hid (Reads w kv k) := hR
  have hxl : xs.length < 4096 := by rw [← hxe, List.length_map] at hlen; exact hlen
  obtain ⟨va, vc, rfl, hvc1, hvc2⟩ := hO.row.rc.form
  obtain ⟨ak, ck, rfl, hmk⟩ := hR.form
  unfold maxLen at hmk hvc2
  obtain ⟨w1, HW1⟩ := hid_ex (w.alloc (.cells #[.slice ak k.length ck, .int .u64 a.c, .bool a.o, .int .i64 (hi a.s), .int .u64 (lo a.s), .int .i64 a.mn, .int .i64 a.mx] 36))
  have HB1 : Hid (Below w.heap.size w w1) := by rw [HW1.out]; exact (Below.refl _ _).alloc (Nat.le_refl _) _
  have HX1 : Hid (w1.heap[w.heap.size]? = some (.cells #[.slice ak k.length ck, .int .u64 a.c, .bool a.o, .int .i64 (hi a.s), .int .u64 (lo a.s), .int .i64 a.mn, .int .i64 a.mx] 36)) := by rw [HW1.out]; exact World.alloc_heap_new _ _
  have HY1 : Hid (w1.heap[Y]? = some (.cells #[.slice va xs.length vc, .bool f] 28)) := (HB1.out.block _ hYl).trans hY
  have HHY : Hid (w.heap[Y]? = some (.cells #[.slice va xs.length vc, .bool f] 28)) := hY
  clear hR hY hE hEg hO hP hPv hA hlen
  obtain ⟨q, Hq⟩ := hid_ex (mpF f h k.length a)
  rw [← Hq.out]
  unfold env
  have y0 := (cell_row HY1.out 0 (by simp)).1
  have y1 := (cell_row HY1.out 1 (by simp)).1
  obtain ⟨x0, x1, x2, x3, x4, x5, x6⟩ := box7 HX1.out
  simp only [List.getElem_toArray, List.getElem_cons_succ, List.getElem_cons_zero] at y0 y1
  go_enter Try.func8, Try.ntmps8
  by_cases g1 : h < 1
  · have hq : q = 1 := by rw [Hq.out]; unfold mpF; rw [if_pos (.inl g1)]
    subst hq
    go_wp2_with fail
    rw [← HW1.out]
    go_ret
    exact ⟨rfl, HNO.out _ HB1.out⟩
  by_cases g2 : 8 < h
  · have hq : q = 1 := by rw [Hq.out]; unfold mpF; rw [if_pos (.inr g2)]
    subst hq
    go_wp2_with fail
    rw [← HW1.out]
    go_ret
    exact ⟨rfl, HNO.out _ HB1.out⟩
  rw [HW1.out] at y0 y1
  cases f with
  | true =>
    have hq : q = 7 := by rw [Hq.out]; unfold mpF; rw [if_neg (by omega), if_pos rfl]
    subst hq
    go_wp2_with fail
    rw [← HW1.out]
    go_ret
    exact ⟨rfl, HNO.out _ HB1.out⟩
  | false =>
  have HM : Hid (q = if k.length < 1 ∨ 256 < k.length then 40 else if a.c = 0 ∨ rightB a = false then 3 else 0) := by
    rw [Hq.out]; unfold Hid mpF; rw [if_neg (by omega), if_neg (by simp)]
  by_cases k1 : k.length = 0
  · have i1 : ((k.length : Int) == 0) = true := beq0_t k1
    have hq : q = 40 := by rw [HM.out, if_pos (.inl (by omega))]
    subst hq
    clear k1
    go_wp2_with fail
    rw [← HW1.out]
    go_ret
    exact ⟨rfl, HNO.out _ HB1.out⟩
  have i1 : ((k.length : Int) == 0) = false := beq0_f k1
  have k1' : 1 ≤ k.length := by omega
  clear k1
  by_cases k2 : (256 : Int) < (k.length : Int)
  · have hq : q = 40 := by rw [HM.out, if_pos (.inr (by omega))]
    subst hq
    go_wp2_with fail
    rw [← HW1.out]
    go_ret
    exact ⟨rfl, HNO.out _ HB1.out⟩
  have HM2 : Hid (q = if a.c = 0 ∨ rightB a = false then 3 else 0) := by rw [HM.out]; unfold Hid; rw [if_neg (by omega)]
  clear HM
  by_cases a0 : a.c = 0
  · have i2 : (a.c == 0) = true := by rw [a0]; rfl
    have hq : q = 3 := by rw [HM2.out, if_pos (.inl a0)]
    subst hq
    clear a0
    go_wp2_with fail
    rw [← HW1.out]
    go_ret
    exact ⟨rfl, HNO.out _ HB1.out⟩
  have i2 : (a.c == 0) = false := by rw [beq_eq_false_iff_ne]; exact a0
  have HM3 : Hid (q = if rightB a = false then 3 else 0) := by
    rw [HM2.out]; unfold Hid
    by_cases hr : rightB a = false
    · rw [if_pos (.inr hr), if_pos hr]
    · rw [if_neg (by rintro (h | h); exact a0 h; exact hr h), if_neg hr]
  clear HM2 a0
  have HRT : Hid (∀ w, Calls Try.prog 24 #[.agg #[.int .u64 a.c, .bool a.o, .int .i64 (hi a.s), .int .u64 (lo a.s), .int .i64 a.mn, .int .i64 a.mx]] w fun e w' => e = .returned (.bool (rightB a)) ∧ Below w.heap.size w w') := fun w => refRight_any a w
  go_wp2_with fail
  rw [← HW1.out]
  refine (HRT.out _).mono ?_
  rintro e w2 ⟨rfl, hb2⟩
  have hs1 := HB1.out.size
  have HB2 : Hid (Below w.heap.size w w2) := HB1.out.trans (hb2.mono hs1)
  have HX2 : Hid (w2.heap[w.heap.size]? = some (.cells #[.slice ak k.length ck, .int .u64 a.c, .bool a.o, .int .i64 (hi a.s), .int .u64 (lo a.s), .int .i64 a.mn, .int .i64 a.mx] 36)) := (hb2.block _ (Array.getElem?_eq_some_iff.1 HX1.out).1).trans HX1.out
  clear hb2 y0 y1 x0 x1 x2 x3 x4 x5 x6 HW1 HRT HX1 HY1
  cases hrb : rightB a with
  | false =>
    have hq : q = 3 := by rw [HM3.out, if_pos hrb]
    subst hq
    go_wp2_with fail
    go_ret
    exact ⟨rfl, HNO.out _ HB2.out⟩
  | true =>
    have hq : q = 0 := by rw [HM3.out, if_neg (by rw [hrb]; simp)]
    subst hq
    have HRB : Hid (rightB a = true) := hrb
    clear hrb HM3 HNO Hq
    have hsx2 := (Array.getElem?_eq_some_iff.1 HX2.out).1
    have HY2 : Hid (w2.heap[Y]? = some (.cells #[.slice va xs.length vc, .bool false] 28)) := (HB2.out.block _ hYl).trans HHY.out
    have HERD : Hid (ERd w2 (.slice va xs.length vc) E) := by
      have h1 := (HO.out.below HB2.out).rd
      rw [HXE.out] at h1
      exact h1
    obtain ⟨x0, x1, x2, x3, x4, x5, x6⟩ := box7 HX2.out
    obtain ⟨T, HT⟩ := hid_ex (putE E k a)
    go_wp2_with fail
    refine (refPlace_any Y false _ E _ k _ HY2.out HERD.out (HR.out.below HB2.out)).mono ?_
    rintro e w3 ⟨n, hn, rfl, hn1, hn2, m3, hw3⟩
    have HPL : Hid (plK (keysE E) k = n) := pl_of HE.out hn hn1 hn2
    have HB23 : Below w2.heap.size w2 w3 := by rw [hw3]; exact below_drewS (Below.refl _ _) m3
    have HB3 : Hid (Below w.heap.size w w3) := HB2.out.trans (HB23.mono HB2.out.size)
    have HX3 : Hid (w3.heap[w.heap.size]? = some (.cells #[.slice ak k.length ck, .int .u64 a.c, .bool a.o, .int .i64 (hi a.s), .int .u64 (lo a.s), .int .i64 a.mn, .int .i64 a.mx] 36)) := (HB23.block _ hsx2).trans HX2.out
    have hsx3 := (Array.getElem?_eq_some_iff.1 HX3.out).1
    have HY3 : Hid (w3.heap[Y]? = some (.cells #[.slice va xs.length vc, .bool false] 28)) := (HB3.out.block _ hYl).trans HHY.out
    have HO3 : Hid (EOwn w3 base (.slice va xs.length vc) xs) := HO.out.below HB3.out
    have hnx : n ≤ xs.length := by rw [← HXE.out, List.length_map] at hn; exact hn
    clear x0 x1 x2 x3 x4 x5 x6 hn1 hn2 hw3 HB23 HX2 HY2 HERD HB2 HO hn
    have y0 := (cell_row HY3.out 0 (by simp)).1
    simp only [List.getElem_toArray, List.getElem_cons_zero] at y0
    obtain ⟨x0, x1, x2, x3, x4, x5, x6⟩ := box7 HX3.out
    have HR3 : Hid (Reads w3 (.slice ak k.length ck) k) := HR.out.below HB3.out
    have hq2 : ∀ n, (convert 29 9 (.slice ak k.length ck)).run Try.prog (w3.drewN n) = .ok (.string ⟨k.toArray⟩) (w3.drewN n) := fun n => reads_text (HR3.out.below (below_drewS (Below.refl _ _) n))
    by_cases hlt : n < xs.length
    · have hil : decide ((n : Int) < (xs.length : Int)) = true := by simp; omega
      obtain ⟨g, off, cap, HOFF, hv, hgb, hgl, HGC, hcs, hfz⟩ := HO3.out.row.at (by omega)
      simp only [Value.slice.injEq, true_and] at hv
      obtain ⟨rfl, rfl⟩ := hv
      obtain ⟨Z, HZ⟩ := hid_ex xs[n]
      have hcs' := hcs n hlt
      rw [← HZ.out] at hcs'
      have HRZ : Hid (Reads w3 Z.kv Z.k) := by rw [HZ.out]; exact HO3.out.evr _ (List.getElem_mem hlt)
      obtain ⟨kZ, Zk, Za⟩ := Z
      obtain ⟨ay, cy, eZ, _⟩ := HRZ.out.form
      simp only at eZ
      subst eZ
      have hq1 : ∀ n, (convert 29 9 (.slice ay Zk.length cy)).run Try.prog (w3.drewN n) = .ok (.string ⟨Zk.toArray⟩) (w3.drewN n) := fun n => reads_text (HRZ.out.below (below_drewS (Below.refl _ _) n))
      have q0 := hcs' 0 (by decide)
      simp only [c7, List.getElem_cons_zero] at q0
      rw [show off + (7 * n + 0) = off + n * 7 by omega] at q0
      have HCS : Hid (∀ i (h : i < 6), w3.cell? ⟨g, off + n * 7 + 1 + i, none⟩ = some ((c7 ⟨.slice ay Zk.length cy, Zk, Za⟩)[i + 1]'(by rw [c7_len]; omega))) := by
        intro i h
        have h7 := hcs' (i + 1) (by omega)
        rw [show off + (7 * n + (i + 1)) = off + n * 7 + 1 + i by omega] at h7
        exact h7
      have HFZ : Hid (∀ i, w3.frozen? ⟨g, i, none⟩ = false) := hfz
      have HZE : Hid (E[n]'(by rw [← HXE.out, List.length_map]; exact hlt) = (Zk, Za)) := by
        have e : ∀ (L : List En) (hL : xs.map evE = L) (hn : n < L.length), L[n] = (Zk, Za) := by
          intro L hL hn
          subst hL
          rw [List.getElem_map, ← HZ.out]; rfl
        exact e E HXE.out _
      clear hcs hcs' hfz
      by_cases hkk : Zk = k
      · subst hkk
        have heq : (Zk == Zk) = true := by simp
        have HGZ : Hid (0 < Za.c ∧ Za.c < 18446744073709551616 ∧ rightB Za = true) := by
          have h1 := HEG.out _ (List.getElem_mem (by rw [← HXE.out, List.length_map]; exact hlt : n < E.length))
          rw [HZE.out] at h1
          exact h1
        obtain ⟨M, HMM⟩ := hid_ex (mrg Za a)
        have HTT : Hid (T = E.set n (Zk, M)) := by
          have hnE : n < E.length := by rw [← HXE.out, List.length_map]; exact hlt
          rw [HT.out]; unfold Hid putE
          rw [dif_pos (by rw [HPL.out]; exact hnE)]
          simp only [HPL.out]
          rw [HZE.out, if_pos rfl, HMM.out]
        have HMG : Hid (∀ W, Calls Try.prog 26 #[.agg #[.int .u64 Za.c, .bool Za.o, .int .i64 (hi Za.s), .int .u64 (lo Za.s), .int .i64 Za.mn, .int .i64 Za.mx], .agg #[.int .u64 a.c, .bool a.o, .int .i64 (hi a.s), .int .u64 (lo a.s), .int .i64 a.mn, .int .i64 a.mx]] W fun e w' => e = .returned (.agg #[.int .u64 M.c, .bool M.o, .int .i64 (hi M.s), .int .u64 (lo M.s), .int .i64 M.mn, .int .i64 M.mx]) ∧ Below W.heap.size W w') := by
          intro W
          rw [HMM.out]
          exact refMerge_any Za a (by have := HGZ.out.1; omega) HGZ.out.2.1 ha.1 ha.2 (over_of HGZ.out.2.2) (over_of HRB.out) W
        go_wp2_with fail
        go_quiet (fail)
        clear hq1 hq2 heq q0
        obtain ⟨w5, HW5⟩ := hid_ex (w3.drewN nq)
        have HB35 : Hid (Below w3.heap.size w3 w5) := by rw [HW5.out]; exact below_drewS (Below.refl _ _) nq
        rw [← HW5.out]
        have HXC := (show Hid _ from box7 HX3.out)
        have HYC : Hid (w3.cell? ⟨Y, 0, none⟩ = some (.slice (some ⟨g, off, none⟩) xs.length vc)) := y0
        have hY3l := (Array.getElem?_eq_some_iff.1 HY3.out).1
        clear HW5 x0 x1 x2 x3 x4 x5 x6 y0
        have hnx' : (n : Int) < (xs.length : Int) := by omega
        go_wp2_with fail
        have HPR : Hid (∀ w', Below w3.heap.size w3 w' → w'.cell? ⟨Y, 0, none⟩ = some (.slice (some ⟨g, off, none⟩) xs.length vc) ∧ w'.cell? ⟨g, off + n * 7 + 1, none⟩ = some (.int .u64 Za.c) ∧ w'.cell? ⟨g, off + n * 7 + 1 + 1, none⟩ = some (.bool Za.o) ∧ w'.cell? ⟨g, off + n * 7 + 1 + 2, none⟩ = some (.int .i64 (hi Za.s)) ∧ w'.cell? ⟨g, off + n * 7 + 1 + 3, none⟩ = some (.int .u64 (lo Za.s)) ∧ w'.cell? ⟨g, off + n * 7 + 1 + 4, none⟩ = some (.int .i64 Za.mn) ∧ w'.cell? ⟨g, off + n * 7 + 1 + 5, none⟩ = some (.int .i64 Za.mx) ∧ w'.cell? ⟨w.heap.size, 1, none⟩ = some (.int .u64 a.c) ∧ w'.cell? ⟨w.heap.size, 2, none⟩ = some (.bool a.o) ∧ w'.cell? ⟨w.heap.size, 3, none⟩ = some (.int .i64 (hi a.s)) ∧ w'.cell? ⟨w.heap.size, 4, none⟩ = some (.int .u64 (lo a.s)) ∧ w'.cell? ⟨w.heap.size, 5, none⟩ = some (.int .i64 a.mn) ∧ w'.cell? ⟨w.heap.size, 6, none⟩ = some (.int .i64 a.mx)) := fun w' hSw => by
          have cy := (hSw.cell (p := ⟨Y, 0, none⟩) hY3l).trans HYC.out
          exact ⟨cy, (hSw.cell (p := ⟨g, off + n * 7 + 1, none⟩) hgl).trans (HCS.out 0 (by decide)), (hSw.cell (p := ⟨g, off + n * 7 + 1 + 1, none⟩) hgl).trans (HCS.out 1 (by decide)), (hSw.cell (p := ⟨g, off + n * 7 + 1 + 2, none⟩) hgl).trans (HCS.out 2 (by decide)), (hSw.cell (p := ⟨g, off + n * 7 + 1 + 3, none⟩) hgl).trans (HCS.out 3 (by decide)), (hSw.cell (p := ⟨g, off + n * 7 + 1 + 4, none⟩) hgl).trans (HCS.out 4 (by decide)), (hSw.cell (p := ⟨g, off + n * 7 + 1 + 5, none⟩) hgl).trans (HCS.out 5 (by decide)), (hSw.cell (p := ⟨w.heap.size, 1, none⟩) hsx3).trans HXC.out.2.1, (hSw.cell (p := ⟨w.heap.size, 2, none⟩) hsx3).trans HXC.out.2.2.1, (hSw.cell (p := ⟨w.heap.size, 3, none⟩) hsx3).trans HXC.out.2.2.2.1, (hSw.cell (p := ⟨w.heap.size, 4, none⟩) hsx3).trans HXC.out.2.2.2.2.1, (hSw.cell (p := ⟨w.heap.size, 5, none⟩) hsx3).trans HXC.out.2.2.2.2.2.1, (hSw.cell (p := ⟨w.heap.size, 6, none⟩) hsx3).trans HXC.out.2.2.2.2.2.2⟩
        refine wp_region_noPanic ?_
        refine wp_region_S 18 (fun _ => True) (fun w' => w'.cell? ⟨Y, 0, none⟩ = some (.slice (some ⟨g, off, none⟩) xs.length vc) ∧ w'.cell? ⟨g, off + n * 7 + 1, none⟩ = some (.int .u64 Za.c) ∧ w'.cell? ⟨g, off + n * 7 + 1 + 1, none⟩ = some (.bool Za.o) ∧ w'.cell? ⟨g, off + n * 7 + 1 + 2, none⟩ = some (.int .i64 (hi Za.s)) ∧ w'.cell? ⟨g, off + n * 7 + 1 + 3, none⟩ = some (.int .u64 (lo Za.s)) ∧ w'.cell? ⟨g, off + n * 7 + 1 + 4, none⟩ = some (.int .i64 Za.mn) ∧ w'.cell? ⟨g, off + n * 7 + 1 + 5, none⟩ = some (.int .i64 Za.mx) ∧ w'.cell? ⟨w.heap.size, 1, none⟩ = some (.int .u64 a.c) ∧ w'.cell? ⟨w.heap.size, 2, none⟩ = some (.bool a.o) ∧ w'.cell? ⟨w.heap.size, 3, none⟩ = some (.int .i64 (hi a.s)) ∧ w'.cell? ⟨w.heap.size, 4, none⟩ = some (.int .u64 (lo a.s)) ∧ w'.cell? ⟨w.heap.size, 5, none⟩ = some (.int .i64 a.mn) ∧ w'.cell? ⟨w.heap.size, 6, none⟩ = some (.int .i64 a.mx)) (by kernel_rfl) ?_ ?_ (fun hHeld => ?_)
        · trivial
        · exact HPR.out _ HB35.out.drew
        refine wpAnyS_take (i := 0) (v := .pointer (some ⟨Y, 0, none⟩)) _ rfl (by kernel_rfl) (by kernel_rfl) (by kernel_rfl) (by kernel_rfl) (by kernel_rfl) rfl (fun _ _ _ h => h) (Or.inl ⟨by rfl, ?_⟩) hHeld (fun hHeld => ?_)
        · (intro w1 hSw; have hSw := hSw.1; (try dsimp only at hSw); go_simp)
        simp only [List.getElem_toArray, List.getElem_cons_zero, Act.put, List.setIfInBounds_toArray, List.set_cons_zero, List.set_cons_succ]
        refine wpAnyS_take (i := 1) (v := .pointer (some ⟨Y, 0, none⟩)) _ rfl (by kernel_rfl) (by kernel_rfl) (by kernel_rfl) (by kernel_rfl) (by kernel_rfl) rfl (fun _ _ _ h => h) (Or.inl ⟨by rfl, ?_⟩) hHeld (fun hHeld => ?_)
        · (intro w1 hSw; have hSw := hSw.1; (try dsimp only at hSw); go_simp)
        simp only [List.getElem_toArray, List.getElem_cons_succ, List.getElem_cons_zero, Act.put, List.setIfInBounds_toArray, List.set_cons_zero, List.set_cons_succ]
        refine wpAnyS_take (i := 2) (v := .pointer (some ⟨Y, 0, none⟩)) _ rfl (by kernel_rfl) (by kernel_rfl) (by kernel_rfl) (by kernel_rfl) (by kernel_rfl) rfl (fun _ _ _ h => h) (Or.inl ⟨by rfl, ?_⟩) hHeld (fun hHeld => ?_)
        · (intro w1 hSw; have hSw := hSw.1; (try dsimp only at hSw); go_simp)
        simp only [List.getElem_toArray, List.getElem_cons_succ, List.getElem_cons_zero, Act.put, List.setIfInBounds_toArray, List.set_cons_zero, List.set_cons_succ]
        refine wpAnyS_take (i := 3) (v := .slice (some ⟨g, off, none⟩) xs.length vc) true rfl (by kernel_rfl) (by kernel_rfl) (by kernel_rfl) (by kernel_rfl) (by kernel_rfl) (by kernel_rfl) (fun _ _ _ h => h) (Or.inl ⟨by rfl, ?_⟩) hHeld (fun hHeld => ?_)
        · (intro w1 hSw; have hSw2 := hSw.2 rfl; have hSw := hSw.1; (try dsimp only at hSw hSw2); go_simp)
        simp only [List.getElem_toArray, List.getElem_cons_succ, List.getElem_cons_zero, Act.put, List.setIfInBounds_toArray, List.set_cons_zero, List.set_cons_succ]
        refine wpAnyS_take (i := 4) (v := .int .i64 (n : Int)) _ rfl (by kernel_rfl) (by kernel_rfl) (by kernel_rfl) (by kernel_rfl) (by kernel_rfl) rfl (fun _ _ _ h => h) (Or.inl ⟨by rfl, ?_⟩) hHeld (fun hHeld => ?_)
        · (intro w1 hSw; have hSw := hSw.1; (try dsimp only at hSw); go_simp)
        simp only [List.getElem_toArray, List.getElem_cons_succ, List.getElem_cons_zero, Act.put, List.setIfInBounds_toArray, List.set_cons_zero, List.set_cons_succ]
        refine wpAnyS_take (i := 5) (v := .pointer (some ⟨Y, 0, none⟩)) _ rfl (by kernel_rfl) (by kernel_rfl) (by kernel_rfl) (by kernel_rfl) (by kernel_rfl) rfl (fun _ _ _ h => h) (Or.inl ⟨by rfl, ?_⟩) hHeld (fun hHeld => ?_)
        · (intro w1 hSw; have hSw := hSw.1; (try dsimp only at hSw); go_simp)
        simp only [List.getElem_toArray, List.getElem_cons_succ, List.getElem_cons_zero, Act.put, List.setIfInBounds_toArray, List.set_cons_zero, List.set_cons_succ]
        refine wpAnyS_take (i := 6) (v := .pointer (some ⟨Y, 0, none⟩)) _ rfl (by kernel_rfl) (by kernel_rfl) (by kernel_rfl) (by kernel_rfl) (by kernel_rfl) rfl (fun _ _ _ h => h) (Or.inl ⟨by rfl, ?_⟩) hHeld (fun hHeld => ?_)
        · (intro w1 hSw; have hSw := hSw.1; (try dsimp only at hSw); go_simp)
        simp only [List.getElem_toArray, List.getElem_cons_succ, List.getElem_cons_zero, Act.put, List.setIfInBounds_toArray, List.set_cons_zero, List.set_cons_succ]
        refine wpAnyS_take (i := 7) (v := .pointer (some ⟨Y, 0, none⟩)) _ rfl (by kernel_rfl) (by kernel_rfl) (by kernel_rfl) (by kernel_rfl) (by kernel_rfl) rfl (fun _ _ _ h => h) (Or.inl ⟨by rfl, ?_⟩) hHeld (fun hHeld => ?_)
        · (intro w1 hSw; have hSw := hSw.1; (try dsimp only at hSw); go_simp)
        simp only [List.getElem_toArray, List.getElem_cons_succ, List.getElem_cons_zero, Act.put, List.setIfInBounds_toArray, List.set_cons_zero, List.set_cons_succ]
        refine wpAnyS_take (i := 8) (v := .slice (some ⟨g, off, none⟩) xs.length vc) true rfl (by kernel_rfl) (by kernel_rfl) (by kernel_rfl) (by kernel_rfl) (by kernel_rfl) (by kernel_rfl) (fun _ _ _ h => h) (Or.inl ⟨by rfl, ?_⟩) hHeld (fun hHeld => ?_)
        · (intro w1 hSw; have hSw2 := hSw.2 rfl; have hSw := hSw.1; (try dsimp only at hSw hSw2); go_simp)
        simp only [List.getElem_toArray, List.getElem_cons_succ, List.getElem_cons_zero, Act.put, List.setIfInBounds_toArray, List.set_cons_zero, List.set_cons_succ]
        refine wpAnyS_take (i := 9) (v := .int .i64 (n : Int)) _ rfl (by kernel_rfl) (by kernel_rfl) (by kernel_rfl) (by kernel_rfl) (by kernel_rfl) rfl (fun _ _ _ h => h) (Or.inl ⟨by rfl, ?_⟩) hHeld (fun hHeld => ?_)
        · (intro w1 hSw; have hSw := hSw.1; (try dsimp only at hSw); go_simp)
        simp only [List.getElem_toArray, List.getElem_cons_succ, List.getElem_cons_zero, Act.put, List.setIfInBounds_toArray, List.set_cons_zero, List.set_cons_succ]
        refine wpAnyS_take (i := 10) (v := .pointer (some ⟨g, off + n * 7, none⟩)) _ rfl (by kernel_rfl) (by kernel_rfl) (by kernel_rfl) (by kernel_rfl) (by kernel_rfl) rfl (fun _ _ _ h => h) (Or.inl ⟨by rfl, ?_⟩) hHeld (fun hHeld => ?_)
        · (intro w1 hSw; have hSw := hSw.1; (try dsimp only at hSw); go_simp)
        simp only [List.getElem_toArray, List.getElem_cons_succ, List.getElem_cons_zero, Act.put, List.setIfInBounds_toArray, List.set_cons_zero, List.set_cons_succ]
        refine wpAnyS_take (i := 11) (v := .pointer (some ⟨g, off + n * 7 + 1, none⟩)) _ rfl (by kernel_rfl) (by kernel_rfl) (by kernel_rfl) (by kernel_rfl) (by kernel_rfl) rfl (fun _ _ _ h => h) (Or.inl ⟨by rfl, ?_⟩) hHeld (fun hHeld => ?_)
        · (intro w1 hSw; have hSw := hSw.1; (try dsimp only at hSw); go_simp)
        simp only [List.getElem_toArray, List.getElem_cons_succ, List.getElem_cons_zero, Act.put, List.setIfInBounds_toArray, List.set_cons_zero, List.set_cons_succ]
        refine wpAnyS_take (i := 12) (v := .agg #[.int .u64 Za.c, .bool Za.o, .int .i64 (hi Za.s), .int .u64 (lo Za.s), .int .i64 Za.mn, .int .i64 Za.mx]) true rfl (by kernel_rfl) (by kernel_rfl) (by kernel_rfl) (by kernel_rfl) (by kernel_rfl) (by kernel_rfl) (fun _ _ _ h => h) (Or.inl ⟨by rfl, ?_⟩) hHeld (fun hHeld => ?_)
        · (intro w1 hSw; have hSw2 := hSw.2 rfl; have hSw := hSw.1; (try dsimp only at hSw hSw2); go_simp)
        simp only [List.getElem_toArray, List.getElem_cons_succ, List.getElem_cons_zero, Act.put, List.setIfInBounds_toArray, List.set_cons_zero, List.set_cons_succ]
        refine wpAnyS_take (i := 13) (v := .pointer (some ⟨w.heap.size, 1, none⟩)) _ rfl (by kernel_rfl) (by kernel_rfl) (by kernel_rfl) (by kernel_rfl) (by kernel_rfl) rfl (fun _ _ _ h => h) (Or.inl ⟨by rfl, ?_⟩) hHeld (fun hHeld => ?_)
        · (intro w1 hSw; have hSw := hSw.1; (try dsimp only at hSw); go_simp)
        simp only [List.getElem_toArray, List.getElem_cons_succ, List.getElem_cons_zero, Act.put, List.setIfInBounds_toArray, List.set_cons_zero, List.set_cons_succ]
        refine wpAnyS_take (i := 14) (v := .agg #[.int .u64 a.c, .bool a.o, .int .i64 (hi a.s), .int .u64 (lo a.s), .int .i64 a.mn, .int .i64 a.mx]) true rfl (by kernel_rfl) (by kernel_rfl) (by kernel_rfl) (by kernel_rfl) (by kernel_rfl) (by kernel_rfl) (fun _ _ _ h => h) (Or.inl ⟨by rfl, ?_⟩) hHeld (fun hHeld => ?_)
        · (intro w1 hSw; have hSw2 := hSw.2 rfl; have hSw := hSw.1; (try dsimp only at hSw hSw2); go_simp)
        simp only [List.getElem_toArray, List.getElem_cons_succ, List.getElem_cons_zero, Act.put, List.setIfInBounds_toArray, List.set_cons_zero, List.set_cons_succ]
        refine wpAnyS_ready (i := 15) (by kernel_rfl) rfl (fun K hK => ?_)
        go_simp
        refine (HMG.out _).mono ?_
        rintro e w6 ⟨rfl, hb6'⟩
        have HB56 : Below w5.heap.size w5 w6 := (Below.refl _ _).drew.trans hb6'
        have HB36 : Hid (Below w3.heap.size w3 w6) := HB35.out.trans (HB56.mono HB35.out.size)
        clear hb6' HB56
        go_simp
        refine hK.out _ _ ⟨?_, fun _ => ?_⟩ (fun hHeld => ?_)
        · trivial
        · exact HPR.out _ HB36.out
        clear hK K
        refine wpAnyS_take (i := 16) (v := .pointer (some ⟨g, off + n * 7, none⟩)) _ rfl (by kernel_rfl) (by kernel_rfl) (by kernel_rfl) (by kernel_rfl) (by kernel_rfl) rfl (fun _ _ _ h => h) (Or.inl ⟨by rfl, ?_⟩) hHeld (fun hHeld => ?_)
        · (intro w1 hSw; have hSw := hSw.1; (try dsimp only at hSw); go_simp)
        simp only [List.getElem_toArray, List.getElem_cons_succ, List.getElem_cons_zero, Act.put, List.setIfInBounds_toArray, List.set_cons_zero, List.set_cons_succ]
        refine wpAnyS_take (i := 17) (v := .pointer (some ⟨g, off + n * 7 + 1, none⟩)) _ rfl (by kernel_rfl) (by kernel_rfl) (by kernel_rfl) (by kernel_rfl) (by kernel_rfl) rfl (fun _ _ _ h => h) (Or.inl ⟨by rfl, ?_⟩) hHeld (fun hHeld => ?_)
        · (intro w1 hSw; have hSw := hSw.1; (try dsimp only at hSw); go_simp)
        simp only [List.getElem_toArray, List.getElem_cons_succ, List.getElem_cons_zero, Act.put, List.setIfInBounds_toArray, List.set_cons_zero, List.set_cons_succ]
        have HB6 : Hid (Below w.heap.size w w6) := HB3.out.trans (HB36.out.mono HB3.out.size)
        have HFIN : Hid (RL P (setG w6 g (off + n * 7 + 1) M) base Y T false ∧ Ku w (setG w6 g (off + n * 7 + 1) M) ∧ ∀ c, c < w.heap.size → c ≠ Y → ¬ P c → (setG w6 g (off + n * 7 + 1) M).heap[c]? = w.heap[c]?) := by
          have ho := HOFF.out
          subst ho
          have hz : xs[n].k = Zk := by rw [← HZ.out]
          have h1 := RL.setG (P := P) ((HB36.out.block _ hY3l).trans HY3.out) (HO3.out.below HB36.out) hbY HP.out (HPV.out g rfl) (HGC.elim fun cs h => ⟨cs, (HB36.out.block _ hgl).trans h⟩) n hlt M
          rw [HXE.out, hz, ← HTT.out, show 7 * n + 1 = 0 + n * 7 + 1 by omega] at h1
          exact ⟨h1.1, (Ku.of_below HB6.out).trans h1.2, fun c hc _ hPc => by rw [setG_other M (fun e => hPc (by rw [e]; exact HPV.out g rfl))]; exact HB6.out.block c hc⟩
        have HBE : Hid (Below base w (setG w6 g (off + n * 7 + 1) M)) := setG_below _ M (HB6.out.mono hbase) hgb
        unfold setG at HFIN HBE
        have c1 : w6.cell? ⟨g, off + n * 7 + 1, none⟩ = some (.int .u64 Za.c) := (HB36.out.cell (p := ⟨g, off + n * 7 + 1, none⟩) hgl).trans (HCS.out 0 (by decide))
        have c2 : w6.cell? ⟨g, off + n * 7 + 1 + 1, none⟩ = some (.bool Za.o) := (HB36.out.cell (p := ⟨g, off + n * 7 + 1 + 1, none⟩) hgl).trans (HCS.out 1 (by decide))
        have c3 : w6.cell? ⟨g, off + n * 7 + 1 + 2, none⟩ = some (.int .i64 (hi Za.s)) := (HB36.out.cell (p := ⟨g, off + n * 7 + 1 + 2, none⟩) hgl).trans (HCS.out 2 (by decide))
        have c4 : w6.cell? ⟨g, off + n * 7 + 1 + 3, none⟩ = some (.int .u64 (lo Za.s)) := (HB36.out.cell (p := ⟨g, off + n * 7 + 1 + 3, none⟩) hgl).trans (HCS.out 3 (by decide))
        have c5 : w6.cell? ⟨g, off + n * 7 + 1 + 4, none⟩ = some (.int .i64 Za.mn) := (HB36.out.cell (p := ⟨g, off + n * 7 + 1 + 4, none⟩) hgl).trans (HCS.out 4 (by decide))
        have c6 : w6.cell? ⟨g, off + n * 7 + 1 + 5, none⟩ = some (.int .i64 Za.mx) := (HB36.out.cell (p := ⟨g, off + n * 7 + 1 + 5, none⟩) hgl).trans (HCS.out 5 (by decide))
        have hfz6 : ∀ i, w6.frozen? ⟨g, i, none⟩ = false := fun i => by
          have h1 := HFZ.out i
          unfold World.frozen? at h1 ⊢
          rw [show w6.heap[g]? = w3.heap[g]? from HB36.out.block _ hgl]
          exact h1
        have p1 := hfz6 (off + n * 7 + 1)
        have p2 := hfz6 (off + n * 7 + 1 + 1)
        have p3 := hfz6 (off + n * 7 + 1 + 2)
        have p4 := hfz6 (off + n * 7 + 1 + 3)
        have p5 := hfz6 (off + n * 7 + 1 + 4)
        have p6 := hfz6 (off + n * 7 + 1 + 5)
        clear hfz6
        refine wpAnyS_ready (i := 18) (by kernel_rfl) rfl (fun K hK => ?_)
        go_simp
        refine hK.out _ _ ⟨?_, fun hno => absurd hno (by decide)⟩ (fun hHeld => ?_)
        · trivial
        clear hK K
        refine wpAnyS_done (by kernel_rfl) ?_ _
        refine NoPanic.normal ?_
        go_wp2_with fail
        go_ret
        refine ⟨rfl, ?_⟩
        rw [← HT.out]
        exact ⟨HFIN.out.1, HBE.out, HFIN.out.2⟩
      · have hne : (Zk == k) = false := beq_eq_false_iff_ne.2 hkk
        have HTT : Hid (T = E.take n ++ (k, a) :: E.drop n) := by
          have hnE : n < E.length := by rw [← HXE.out, List.length_map]; exact hlt
          rw [HT.out]; unfold Hid putE
          rw [dif_pos (by rw [HPL.out]; exact hnE)]
          simp only [HPL.out]
          rw [if_neg (by rw [HZE.out]; exact hkk)]
        have hfl : decide ((4096 : Int) ≤ (xs.length : Int)) = false := by simp; omega
        go_wp2_with fail
        go_quiet (fail)
        clear hq1 q0 hne
        clear hq2
        obtain ⟨w5, HW5⟩ := hid_ex (w3.drewN nq)
        have HB35 : Hid (Below w3.heap.size w3 w5) := by rw [HW5.out]; exact below_drewS (Below.refl _ _) nq
        rw [← HW5.out]
        clear HW5 x0 x1 x2 x3 x4 x5 x6 y0
        have HB5 : Hid (Below w.heap.size w w5) := HB3.out.trans (HB35.out.mono HB3.out.size)
        have HX5 : Hid (w5.heap[w.heap.size]? = some (.cells #[.slice ak k.length ck, .int .u64 a.c, .bool a.o, .int .i64 (hi a.s), .int .u64 (lo a.s), .int .i64 a.mn, .int .i64 a.mx] 36)) := (HB35.out.block _ hsx3).trans HX3.out
        have hsx5 := (Array.getElem?_eq_some_iff.1 HX5.out).1
        have HY5 : Hid (w5.heap[Y]? = some (.cells #[.slice (some ⟨g, off, none⟩) xs.length vc, .bool false] 28)) := (HB5.out.block _ hYl).trans HHY.out
        have hY5l := (Array.getElem?_eq_some_iff.1 HY5.out).1
        have HO5 : Hid (EOwn w5 base (.slice (some ⟨g, off, none⟩) xs.length vc) xs) := HO3.out.below HB35.out
        have y0 := (cell_row HY5.out 0 (by simp)).1
        simp only [List.getElem_toArray, List.getElem_cons_zero] at y0
        obtain ⟨a1, c1, hsl1, hrc1⟩ := esl_upto HO5.out.row.rc (d := n) hnx
        have hev1 : EvR w5 (xs.take n) := fun y hy => HO5.out.evr y (List.mem_of_mem_take hy)
        have hl1 : (xs.take n).length = n := by rw [List.length_take]; omega
        obtain ⟨v1, w6, hrun1, hown1, hb1, -⟩ := run_appE (w := w5) w5.heap.size 26 (.slice none 0 0) (.slice a1 n c1) [] (xs.take n) (OwnE.nil _ _) hrc1 hev1 (by simp; omega) (Nat.le_refl _)
        rw [List.nil_append] at hown1
        have HB56 : Hid (Below w5.heap.size w5 w6) := hb1
        obtain ⟨o1, p1, e1, _, _⟩ := hown1.rc.form
        rw [hl1] at e1
        subst e1
        have HO1 : Hid (OwnE w6 w5.heap.size (.slice o1 n p1) (xs.take n)) := hown1
        have hs56 := hb1.size
        clear hown1 hb1 hrc1 hev1
        go_wp2_with (at_builtin; refine wpList_app_runE rfl _ _ _ _ rfl rfl _ _ _ rfl rfl hrun1 ?_; clear hrun1 hsl1)
        clear y0
        refine wp_region_noPanic ?_
        refine wp_region_held_drew (S := (fun w' => Below w5.heap.size w5 w')) (by kernel_rfl) ?_ (fun hHeld => ?_)
        · exact HB56.out.drew
        refine wpAnyH_take (i := 0) (v := .slice o1 n p1) rfl (by kernel_rfl) (by kernel_rfl) (by kernel_rfl) (fun _ _ _ h => h) (Or.inl ⟨by rfl, ?_⟩) (by assumption) ?_
        · (intro w1 hSw; (try dsimp only at hSw); go_simp)
        simp only [List.getElem_toArray, List.getElem_cons_zero, Act.put, List.setIfInBounds_toArray, List.set_cons_zero, List.set_cons_succ]
        refine wpAnyH_take (i := 1) (v := .pointer (some ⟨w.heap.size, 0, none⟩)) rfl (by kernel_rfl) (by kernel_rfl) (by kernel_rfl) (fun _ _ _ h => h) (Or.inl ⟨by rfl, ?_⟩) (by assumption) ?_
        · (intro w1 hSw; (try dsimp only at hSw); go_simp)
        simp only [List.getElem_toArray, List.getElem_cons_succ, List.getElem_cons_zero, Act.put, List.setIfInBounds_toArray, List.set_cons_zero, List.set_cons_succ]
        refine wpAnyH_take (i := 2) (v := .slice ak k.length ck) rfl (by kernel_rfl) (by kernel_rfl) (by kernel_rfl) (fun _ _ _ h => h) (Or.inl ⟨by rfl, ?_⟩) (by assumption) ?_
        · (intro w1 hSw; (try dsimp only at hSw); have hcc := (hSw.cell (p := ⟨w.heap.size, 0, none⟩) hsx5).trans (box7 HX5.out).1; go_simp)
        simp only [List.getElem_toArray, List.getElem_cons_succ, List.getElem_cons_zero, Act.put, List.setIfInBounds_toArray, List.set_cons_zero, List.set_cons_succ]
        refine wpAnyH_take (i := 4) (v := .pointer (some ⟨w.heap.size, 1, none⟩)) rfl (by kernel_rfl) (by kernel_rfl) (by kernel_rfl) (fun _ _ _ h => h) (Or.inl ⟨by rfl, ?_⟩) (by assumption) ?_
        · (intro w1 hSw; (try dsimp only at hSw); go_simp)
        simp only [List.getElem_toArray, List.getElem_cons_succ, List.getElem_cons_zero, Act.put, List.setIfInBounds_toArray, List.set_cons_zero, List.set_cons_succ]
        refine wpAnyH_take (i := 5) (v := .agg #[.int .u64 a.c, .bool a.o, .int .i64 (hi a.s), .int .u64 (lo a.s), .int .i64 a.mn, .int .i64 a.mx]) rfl (by kernel_rfl) (by kernel_rfl) (by kernel_rfl) (fun _ _ _ h => h) (Or.inl ⟨by rfl, ?_⟩) (by assumption) ?_
        · (intro w1 hSw; (try dsimp only at hSw); have hxx := box7 ((hSw.block _ hsx5).trans HX5.out); obtain ⟨-, h1, h2, h3, h4, h5, h6⟩ := hxx; go_simp)
        simp only [List.getElem_toArray, List.getElem_cons_succ, List.getElem_cons_zero, Act.put, List.setIfInBounds_toArray, List.set_cons_zero, List.set_cons_succ]
        refine wpAnyH_ready (rs := [3]) (by kernel_rfl) (by simp) ?_
        refine AllReadyH.cons (o := _) rfl (fun K hK => ?_) AllReadyH.nil
        go_simp
        refine (ncopy_any _ k (by omega) _ ((HR.out.below HB5.out).below HB56.out.drew)).mono ?_
        rintro e w7 ⟨v7, rfl, ho7, hb7⟩
        have HB57 : Hid (Below w5.heap.size w5 w7) := HB56.out.drew.trans (hb7.mono hs56)
        have h67 : w6.heap.size ≤ w7.heap.size := hb7.size
        have HO17 : Hid (OwnE w7 w5.heap.size (.slice o1 n p1) (xs.take n)) := HO1.out.below ((Below.refl _ _).drew.trans hb7)
        obtain ⟨a7, c7', hv7, -⟩ := ho7.form
        subst hv7
        have HO7 : Hid (Own w7 w6.heap.size (.slice a7 k.length c7') k) := ho7
        clear ho7 hb7
        refine hK.out _ _ ?_ (fun hHeld => ?_)
        · exact HB57.out
        clear hK K
        refine wpAnyH_take (i := 6) (v := .agg #[.slice a7 k.length c7', .int .u64 a.c, .bool a.o, .int .i64 (hi a.s), .int .u64 (lo a.s), .int .i64 a.mn, .int .i64 a.mx]) rfl (by kernel_rfl) (by kernel_rfl) (by kernel_rfl) (fun _ _ _ h => h) (Or.inl ⟨by rfl, ?_⟩) (by assumption) ?_
        · (intro w1 hSw; (try dsimp only at hSw); go_simp)
        simp only [List.getElem_toArray, List.getElem_cons_succ, List.getElem_cons_zero, Act.put, List.setIfInBounds_toArray, List.set_cons_zero, List.set_cons_succ]
        obtain ⟨v2, w8, hrun2, hown2, hb2, hgr2⟩ := run_appE (w := w7.alloc (.cells #[.slice a7 k.length c7', .int .u64 a.c, .bool a.o, .int .i64 (hi a.s), .int .u64 (lo a.s), .int .i64 a.mn, .int .i64 a.mx] 36)) w5.heap.size 26 (.slice o1 n p1) (.slice (some ⟨w7.heap.size, 0, none⟩) 1 1) (xs.take n) [⟨.slice a7 k.length c7', k, a⟩] (World.ownsRow.alloc HO17.out _) new7 (fun y hy => by
          obtain rfl := List.mem_singleton.1 hy
          exact HO7.out.reads.below ((Below.refl _ _).alloc (Nat.le_refl _) _)) (by rw [List.length_take]; simp; omega) (by have := HB57.out.size; simp; omega)
        have HB78 : Hid (Below w5.heap.size w7 w8) := ((Below.refl w5.heap.size w7).alloc HB57.out.size _).trans hb2
        have HB58 : Hid (Below w5.heap.size w5 w8) := HB57.out.trans HB78.out
        have hl2 : (xs.take n ++ [(⟨.slice a7 k.length c7', k, a⟩ : Ev)]).length = n + 1 := by rw [List.length_append, List.length_take]; simp; omega
        obtain ⟨o2, p2, e2, _, _⟩ := hown2.rc.form
        rw [hl2] at e2
        subst e2
        have HO8 : Hid (OwnE w8 w5.heap.size (.slice o2 (n + 1) p2) (xs.take n ++ [(⟨.slice a7 k.length c7', k, a⟩ : Ev)])) := hown2
        refine wpAnyH_ready (rs := [7]) (by kernel_rfl) (by simp) ?_
        refine AllReadyH.cons (o := _) rfl (fun K hK => ?_) AllReadyH.nil
        go_simp
        refine hK.out _ _ ?_ (fun hHeld => ?_)
        · exact HB57.out.alloc HB57.out.size _
        clear hK K
        refine wpAnyH_ready (rs := [8]) (by kernel_rfl) (by simp) ?_
        refine AllReadyH.cons (o := _) rfl (fun K hK => ?_) AllReadyH.nil
        refine wp_app_run _ _ _ _ (by rfl) (by rfl) _ _ _ (by rfl) (by rfl) hrun2 ?_
        have HK7 : Hid (Own w8 w6.heap.size (.slice a7 k.length c7') k) := World.ownsRow.kept (World.ownsRow.alloc HO7.out _) hgr2 (own_apart HO17.out HO7.out)
        clear hrun2 hown2 hb2 hgr2
        simp only [List.getElem_toArray, List.getElem_cons_succ, List.getElem_cons_zero, Act.put, List.setIfInBounds_toArray, List.set_cons_zero, List.set_cons_succ]
        refine hK.out _ _ ?_ (fun hHeld => ?_)
        · exact HB58.out
        clear hK K
        refine wpAnyH_ready (rs := [9]) (by kernel_rfl) (by simp) ?_
        refine AllReadyH.cons (o := _) rfl (fun K hK => ?_) AllReadyH.nil
        go_simp
        refine hK.out _ _ ?_ (fun hHeld => ?_)
        · exact HB58.out
        clear hK K
        clear hHeld
        refine wpAnyH_done (by kernel_rfl) ?_ _
        refine NoPanic.normal ?_
        have HY8 : Hid (w8.heap[Y]? = some (.cells #[.slice (some ⟨g, off, none⟩) xs.length vc, .bool false] 28)) := (HB58.out.block _ hY5l).trans HY5.out
        obtain ⟨y0, f0⟩ := cell_row HY8.out 0 (by simp)
        simp only [List.getElem_toArray, List.getElem_cons_zero] at y0
        have h58 := HB58.out.size
        obtain ⟨a3, c3, hsl3, hrc3⟩ := esl_from (HO5.out.row.rc.below HB58.out) (c := n) hnx
        have hev3 : EvR w8 (xs.drop n) := fun y hy => (HO5.out.evr.below HB58.out) y (List.mem_of_mem_drop hy)
        obtain ⟨v3, w9, hrun3, hown3, hb3, hgr3⟩ := run_appE (w := w8) w5.heap.size 26 (.slice o2 (n + 1) p2) (.slice a3 (xs.length - n) c3) _ (xs.drop n) HO8.out hrc3 hev3 (by rw [hl2, List.length_drop]; omega) h58
        obtain ⟨o3, p3, e3, _, _⟩ := hown3.rc.form
        obtain ⟨n3, Hn3⟩ := hid_ex (xs.take n ++ [(⟨.slice a7 k.length c7', k, a⟩ : Ev)] ++ xs.drop n).length
        rw [← Hn3.out] at e3
        subst e3
        have HO9 : Hid (OwnE w9 w5.heap.size (.slice o3 n3 p3) (xs.take n ++ [(⟨.slice a7 k.length c7', k, a⟩ : Ev)] ++ xs.drop n)) := hown3
        have HB89 : Hid (Below w5.heap.size w8 w9) := hb3
        have HB59 : Hid (Below w5.heap.size w5 w9) := HB58.out.trans hb3
        have HK9 : Hid (Own w9 w6.heap.size (.slice a7 k.length c7') k) := World.ownsRow.kept HK7.out hgr3 (own_apart HO8.out HK7.out)
        have HY9 : Hid (w9.heap[Y]? = some (.cells #[.slice (some ⟨g, off, none⟩) xs.length vc, .bool false] 28)) := (HB59.out.block _ hY5l).trans HY5.out
        obtain ⟨z0, f9⟩ := cell_row HY9.out 0 (by simp)
        simp only [List.getElem_toArray, List.getElem_cons_zero] at z0
        have HB9 : Hid (Below w.heap.size w w9) := HB5.out.trans (HB59.out.mono HB5.out.size)
        have hs5 := HB5.out.size
        have HEND : Hid (RL P (w9.setCell ⟨Y, 0, none⟩ (.slice o3 n3 p3)) base Y T false ∧ Below base w (w9.setCell ⟨Y, 0, none⟩ (.slice o3 n3 p3)) ∧ Ku w (w9.setCell ⟨Y, 0, none⟩ (.slice o3 n3 p3)) ∧ ∀ c, c < w.heap.size → c ≠ Y → ¬ P c → (w9.setCell ⟨Y, 0, none⟩ (.slice o3 n3 p3)).heap[c]? = w.heap[c]?) := by
          have hO5 : EOwn w9 base (.slice (some ⟨g, off, none⟩) xs.length vc) xs := HO5.out.below HB59.out
          have hke : ∀ kv' k', Own w9 base kv' k' → Own (w9.setCell ⟨Y, 0, none⟩ (.slice o3 n3 p3)) base kv' k' := fun kv' k' ho => own_via ho fun c cs q _ hc => by
            rw [Below.heap_setCell w9 ⟨Y, 0, none⟩ (.slice o3 n3 p3) c (fun e => ?_)]
            · exact hc
            · have e' : c = Y := e
              subst e'
              have h9 := HY9.out
              rw [hc] at h9
              simp at h9
          refine ⟨⟨.slice o3 n3 p3, xs.take n ++ [(⟨.slice a7 k.length c7', k, a⟩ : Ev)] ++ xs.drop n, ?_, ⟨?_, fun x hx => hke _ _ ?_⟩, ?_, hbY, fun x hx => ?_, fun g hg => HAA.out g (Nat.le_trans hs5 (World.ownsRow.lt HO9.out g hg).1)⟩, (HB9.out.mono hbase).setCell hbY _, (Ku.of_below HB9.out).set HY9.out (.inr rfl) _ _, fun c hc hcY _ => (Below.heap_setCell w9 ⟨Y, 0, none⟩ (.slice o3 n3 p3) c hcY).trans (HB9.out.block c hc)⟩
          · exact (Go.heap_setCell_same w9 Y 0 _ _ (.slice o3 n3 p3) HY9.out).trans rfl
          · exact ownsRow_setCell_other (own_mono HO9.out (Nat.le_trans hbase hs5)) (fun e => by
              have := (World.ownsRow.lt HO9.out _ e).1
              simp at this
              omega) _
          · rcases List.mem_append.1 hx with hx | hx
            · rcases List.mem_append.1 hx with hx | hx
              · exact hO5.2 x (List.mem_of_mem_take hx)
              · obtain rfl := List.mem_singleton.1 hx
                exact HK9.out.mono (by omega)
            · exact hO5.2 x (List.mem_of_mem_drop hx)
          · rw [HTT.out, ← HXE.out, List.map_append, List.map_append, List.map_take, List.map_drop, List.append_assoc]; rfl
          · rcases List.mem_append.1 hx with hx | hx
            · rcases List.mem_append.1 hx with hx | hx
              · exact HP.out x (List.mem_of_mem_take hx)
              · obtain rfl := List.mem_singleton.1 hx
                exact fun g hg => HAA.out g (by have := (World.ownsRow.lt HK9.out g hg).1; omega)
            · exact HP.out x (List.mem_of_mem_drop hx)
        obtain ⟨nk, Hnk⟩ := hid_ex (xs.length - n)
        rw [← Hnk.out] at hsl3 hrun3
        clear hown3 hb3 hrc3 hev3 hl2 hgr3
        go_wp2_with (at_builtin; refine wpList_app_runE rfl _ _ _ _ rfl rfl _ _ _ rfl rfl hrun3 ?_; clear hrun3 hsl3)
        go_ret
        refine ⟨rfl, ?_⟩
        rw [← HT.out]
        exact HEND.out
    · have hil : decide ((n : Int) < (xs.length : Int)) = false := by simp; omega
      have HTT : Hid (T = E.take n ++ (k, a) :: E.drop n) := by
        have hnE : n = E.length := by rw [← HXE.out, List.length_map]; omega
        rw [HT.out]; unfold Hid putE
        rw [dif_neg (by rw [HPL.out]; omega), hnE, List.take_length, List.drop_length]
      have hfl : decide ((4096 : Int) ≤ (xs.length : Int)) = false := by simp; omega
      go_wp2_with fail
      go_quiet (fail)

      clear hq2
      obtain ⟨w5, HW5⟩ := hid_ex (w3.drewN nq)
      have HB35 : Hid (Below w3.heap.size w3 w5) := by rw [HW5.out]; exact below_drewS (Below.refl _ _) nq
      rw [← HW5.out]
      clear HW5 x0 x1 x2 x3 x4 x5 x6 y0
      have HB5 : Hid (Below w.heap.size w w5) := HB3.out.trans (HB35.out.mono HB3.out.size)
      have HX5 : Hid (w5.heap[w.heap.size]? = some (.cells #[.slice ak k.length ck, .int .u64 a.c, .bool a.o, .int .i64 (hi a.s), .int .u64 (lo a.s), .int .i64 a.mn, .int .i64 a.mx] 36)) := (HB35.out.block _ hsx3).trans HX3.out
      have hsx5 := (Array.getElem?_eq_some_iff.1 HX5.out).1
      have HY5 : Hid (w5.heap[Y]? = some (.cells #[.slice va xs.length vc, .bool false] 28)) := (HB5.out.block _ hYl).trans HHY.out
      have hY5l := (Array.getElem?_eq_some_iff.1 HY5.out).1
      have HO5 : Hid (EOwn w5 base (.slice va xs.length vc) xs) := HO3.out.below HB35.out
      have y0 := (cell_row HY5.out 0 (by simp)).1
      simp only [List.getElem_toArray, List.getElem_cons_zero] at y0
      obtain ⟨a1, c1, hsl1, hrc1⟩ := esl_upto HO5.out.row.rc (d := n) hnx
      have hev1 : EvR w5 (xs.take n) := fun y hy => HO5.out.evr y (List.mem_of_mem_take hy)
      have hl1 : (xs.take n).length = n := by rw [List.length_take]; omega
      obtain ⟨v1, w6, hrun1, hown1, hb1, -⟩ := run_appE (w := w5) w5.heap.size 26 (.slice none 0 0) (.slice a1 n c1) [] (xs.take n) (OwnE.nil _ _) hrc1 hev1 (by simp; omega) (Nat.le_refl _)
      rw [List.nil_append] at hown1
      have HB56 : Hid (Below w5.heap.size w5 w6) := hb1
      obtain ⟨o1, p1, e1, _, _⟩ := hown1.rc.form
      rw [hl1] at e1
      subst e1
      have HO1 : Hid (OwnE w6 w5.heap.size (.slice o1 n p1) (xs.take n)) := hown1
      have hs56 := hb1.size
      clear hown1 hb1 hrc1 hev1
      go_wp2_with (at_builtin; refine wpList_app_runE rfl _ _ _ _ rfl rfl _ _ _ rfl rfl hrun1 ?_; clear hrun1 hsl1)
      clear y0
      refine wp_region_noPanic ?_
      refine wp_region_held_drew (S := (fun w' => Below w5.heap.size w5 w')) (by kernel_rfl) ?_ (fun hHeld => ?_)
      · exact HB56.out.drew
      refine wpAnyH_take (i := 0) (v := .slice o1 n p1) rfl (by kernel_rfl) (by kernel_rfl) (by kernel_rfl) (fun _ _ _ h => h) (Or.inl ⟨by rfl, ?_⟩) (by assumption) ?_
      · (intro w1 hSw; (try dsimp only at hSw); go_simp)
      simp only [List.getElem_toArray, List.getElem_cons_zero, Act.put, List.setIfInBounds_toArray, List.set_cons_zero, List.set_cons_succ]
      refine wpAnyH_take (i := 1) (v := .pointer (some ⟨w.heap.size, 0, none⟩)) rfl (by kernel_rfl) (by kernel_rfl) (by kernel_rfl) (fun _ _ _ h => h) (Or.inl ⟨by rfl, ?_⟩) (by assumption) ?_
      · (intro w1 hSw; (try dsimp only at hSw); go_simp)
      simp only [List.getElem_toArray, List.getElem_cons_succ, List.getElem_cons_zero, Act.put, List.setIfInBounds_toArray, List.set_cons_zero, List.set_cons_succ]
      refine wpAnyH_take (i := 2) (v := .slice ak k.length ck) rfl (by kernel_rfl) (by kernel_rfl) (by kernel_rfl) (fun _ _ _ h => h) (Or.inl ⟨by rfl, ?_⟩) (by assumption) ?_
      · (intro w1 hSw; (try dsimp only at hSw); have hcc := (hSw.cell (p := ⟨w.heap.size, 0, none⟩) hsx5).trans (box7 HX5.out).1; go_simp)
      simp only [List.getElem_toArray, List.getElem_cons_succ, List.getElem_cons_zero, Act.put, List.setIfInBounds_toArray, List.set_cons_zero, List.set_cons_succ]
      refine wpAnyH_take (i := 4) (v := .pointer (some ⟨w.heap.size, 1, none⟩)) rfl (by kernel_rfl) (by kernel_rfl) (by kernel_rfl) (fun _ _ _ h => h) (Or.inl ⟨by rfl, ?_⟩) (by assumption) ?_
      · (intro w1 hSw; (try dsimp only at hSw); go_simp)
      simp only [List.getElem_toArray, List.getElem_cons_succ, List.getElem_cons_zero, Act.put, List.setIfInBounds_toArray, List.set_cons_zero, List.set_cons_succ]
      refine wpAnyH_take (i := 5) (v := .agg #[.int .u64 a.c, .bool a.o, .int .i64 (hi a.s), .int .u64 (lo a.s), .int .i64 a.mn, .int .i64 a.mx]) rfl (by kernel_rfl) (by kernel_rfl) (by kernel_rfl) (fun _ _ _ h => h) (Or.inl ⟨by rfl, ?_⟩) (by assumption) ?_
      · (intro w1 hSw; (try dsimp only at hSw); have hxx := box7 ((hSw.block _ hsx5).trans HX5.out); obtain ⟨-, h1, h2, h3, h4, h5, h6⟩ := hxx; go_simp)
      simp only [List.getElem_toArray, List.getElem_cons_succ, List.getElem_cons_zero, Act.put, List.setIfInBounds_toArray, List.set_cons_zero, List.set_cons_succ]
      refine wpAnyH_ready (rs := [3]) (by kernel_rfl) (by simp) ?_
      refine AllReadyH.cons (o := _) rfl (fun K hK => ?_) AllReadyH.nil
      go_simp
      refine (ncopy_any _ k (by omega) _ ((HR.out.below HB5.out).below HB56.out.drew)).mono ?_
      rintro e w7 ⟨v7, rfl, ho7, hb7⟩
      have HB57 : Hid (Below w5.heap.size w5 w7) := HB56.out.drew.trans (hb7.mono hs56)
      have h67 : w6.heap.size ≤ w7.heap.size := hb7.size
      have HO17 : Hid (OwnE w7 w5.heap.size (.slice o1 n p1) (xs.take n)) := HO1.out.below ((Below.refl _ _).drew.trans hb7)
      obtain ⟨a7, c7', hv7, -⟩ := ho7.form
      subst hv7
      have HO7 : Hid (Own w7 w6.heap.size (.slice a7 k.length c7') k) := ho7
      clear ho7 hb7
      refine hK.out _ _ ?_ (fun hHeld => ?_)
      · exact HB57.out
      clear hK K
      refine wpAnyH_take (i := 6) (v := .agg #[.slice a7 k.length c7', .int .u64 a.c, .bool a.o, .int .i64 (hi a.s), .int .u64 (lo a.s), .int .i64 a.mn, .int .i64 a.mx]) rfl (by kernel_rfl) (by kernel_rfl) (by kernel_rfl) (fun _ _ _ h => h) (Or.inl ⟨by rfl, ?_⟩) (by assumption) ?_
      · (intro w1 hSw; (try dsimp only at hSw); go_simp)
      simp only [List.getElem_toArray, List.getElem_cons_succ, List.getElem_cons_zero, Act.put, List.setIfInBounds_toArray, List.set_cons_zero, List.set_cons_succ]
      obtain ⟨v2, w8, hrun2, hown2, hb2, hgr2⟩ := run_appE (w := w7.alloc (.cells #[.slice a7 k.length c7', .int .u64 a.c, .bool a.o, .int .i64 (hi a.s), .int .u64 (lo a.s), .int .i64 a.mn, .int .i64 a.mx] 36)) w5.heap.size 26 (.slice o1 n p1) (.slice (some ⟨w7.heap.size, 0, none⟩) 1 1) (xs.take n) [⟨.slice a7 k.length c7', k, a⟩] (World.ownsRow.alloc HO17.out _) new7 (fun y hy => by
        obtain rfl := List.mem_singleton.1 hy
        exact HO7.out.reads.below ((Below.refl _ _).alloc (Nat.le_refl _) _)) (by rw [List.length_take]; simp; omega) (by have := HB57.out.size; simp; omega)
      have HB78 : Hid (Below w5.heap.size w7 w8) := ((Below.refl w5.heap.size w7).alloc HB57.out.size _).trans hb2
      have HB58 : Hid (Below w5.heap.size w5 w8) := HB57.out.trans HB78.out
      have hl2 : (xs.take n ++ [(⟨.slice a7 k.length c7', k, a⟩ : Ev)]).length = n + 1 := by rw [List.length_append, List.length_take]; simp; omega
      obtain ⟨o2, p2, e2, _, _⟩ := hown2.rc.form
      rw [hl2] at e2
      subst e2
      have HO8 : Hid (OwnE w8 w5.heap.size (.slice o2 (n + 1) p2) (xs.take n ++ [(⟨.slice a7 k.length c7', k, a⟩ : Ev)])) := hown2
      refine wpAnyH_ready (rs := [7]) (by kernel_rfl) (by simp) ?_
      refine AllReadyH.cons (o := _) rfl (fun K hK => ?_) AllReadyH.nil
      go_simp
      refine hK.out _ _ ?_ (fun hHeld => ?_)
      · exact HB57.out.alloc HB57.out.size _
      clear hK K
      refine wpAnyH_ready (rs := [8]) (by kernel_rfl) (by simp) ?_
      refine AllReadyH.cons (o := _) rfl (fun K hK => ?_) AllReadyH.nil
      refine wp_app_run _ _ _ _ (by rfl) (by rfl) _ _ _ (by rfl) (by rfl) hrun2 ?_
      have HK7 : Hid (Own w8 w6.heap.size (.slice a7 k.length c7') k) := World.ownsRow.kept (World.ownsRow.alloc HO7.out _) hgr2 (own_apart HO17.out HO7.out)
      clear hrun2 hown2 hb2 hgr2
      simp only [List.getElem_toArray, List.getElem_cons_succ, List.getElem_cons_zero, Act.put, List.setIfInBounds_toArray, List.set_cons_zero, List.set_cons_succ]
      refine hK.out _ _ ?_ (fun hHeld => ?_)
      · exact HB58.out
      clear hK K
      refine wpAnyH_ready (rs := [9]) (by kernel_rfl) (by simp) ?_
      refine AllReadyH.cons (o := _) rfl (fun K hK => ?_) AllReadyH.nil
      go_simp
      refine hK.out _ _ ?_ (fun hHeld => ?_)
      · exact HB58.out
      clear hK K
      clear hHeld
      refine wpAnyH_done (by kernel_rfl) ?_ _
      refine NoPanic.normal ?_
      have HY8 : Hid (w8.heap[Y]? = some (.cells #[.slice va xs.length vc, .bool false] 28)) := (HB58.out.block _ hY5l).trans HY5.out
      obtain ⟨y0, f0⟩ := cell_row HY8.out 0 (by simp)
      simp only [List.getElem_toArray, List.getElem_cons_zero] at y0
      have h58 := HB58.out.size
      obtain ⟨a3, c3, hsl3, hrc3⟩ := esl_from (HO5.out.row.rc.below HB58.out) (c := n) hnx
      have hev3 : EvR w8 (xs.drop n) := fun y hy => (HO5.out.evr.below HB58.out) y (List.mem_of_mem_drop hy)
      obtain ⟨v3, w9, hrun3, hown3, hb3, hgr3⟩ := run_appE (w := w8) w5.heap.size 26 (.slice o2 (n + 1) p2) (.slice a3 (xs.length - n) c3) _ (xs.drop n) HO8.out hrc3 hev3 (by rw [hl2, List.length_drop]; omega) h58
      obtain ⟨o3, p3, e3, _, _⟩ := hown3.rc.form
      obtain ⟨n3, Hn3⟩ := hid_ex (xs.take n ++ [(⟨.slice a7 k.length c7', k, a⟩ : Ev)] ++ xs.drop n).length
      rw [← Hn3.out] at e3
      subst e3
      have HO9 : Hid (OwnE w9 w5.heap.size (.slice o3 n3 p3) (xs.take n ++ [(⟨.slice a7 k.length c7', k, a⟩ : Ev)] ++ xs.drop n)) := hown3
      have HB89 : Hid (Below w5.heap.size w8 w9) := hb3
      have HB59 : Hid (Below w5.heap.size w5 w9) := HB58.out.trans hb3
      have HK9 : Hid (Own w9 w6.heap.size (.slice a7 k.length c7') k) := World.ownsRow.kept HK7.out hgr3 (own_apart HO8.out HK7.out)
      have HY9 : Hid (w9.heap[Y]? = some (.cells #[.slice va xs.length vc, .bool false] 28)) := (HB59.out.block _ hY5l).trans HY5.out
      obtain ⟨z0, f9⟩ := cell_row HY9.out 0 (by simp)
      simp only [List.getElem_toArray, List.getElem_cons_zero] at z0
      have HB9 : Hid (Below w.heap.size w w9) := HB5.out.trans (HB59.out.mono HB5.out.size)
      have hs5 := HB5.out.size
      have HEND : Hid (RL P (w9.setCell ⟨Y, 0, none⟩ (.slice o3 n3 p3)) base Y T false ∧ Below base w (w9.setCell ⟨Y, 0, none⟩ (.slice o3 n3 p3)) ∧ Ku w (w9.setCell ⟨Y, 0, none⟩ (.slice o3 n3 p3)) ∧ ∀ c, c < w.heap.size → c ≠ Y → ¬ P c → (w9.setCell ⟨Y, 0, none⟩ (.slice o3 n3 p3)).heap[c]? = w.heap[c]?) := by
        have hO5 : EOwn w9 base (.slice va xs.length vc) xs := HO5.out.below HB59.out
        have hke : ∀ kv' k', Own w9 base kv' k' → Own (w9.setCell ⟨Y, 0, none⟩ (.slice o3 n3 p3)) base kv' k' := fun kv' k' ho => own_via ho fun c cs q _ hc => by
          rw [Below.heap_setCell w9 ⟨Y, 0, none⟩ (.slice o3 n3 p3) c (fun e => ?_)]
          · exact hc
          · have e' : c = Y := e
            subst e'
            have h9 := HY9.out
            rw [hc] at h9
            simp at h9
        refine ⟨⟨.slice o3 n3 p3, xs.take n ++ [(⟨.slice a7 k.length c7', k, a⟩ : Ev)] ++ xs.drop n, ?_, ⟨?_, fun x hx => hke _ _ ?_⟩, ?_, hbY, fun x hx => ?_, fun g hg => HAA.out g (Nat.le_trans hs5 (World.ownsRow.lt HO9.out g hg).1)⟩, (HB9.out.mono hbase).setCell hbY _, (Ku.of_below HB9.out).set HY9.out (.inr rfl) _ _, fun c hc hcY _ => (Below.heap_setCell w9 ⟨Y, 0, none⟩ (.slice o3 n3 p3) c hcY).trans (HB9.out.block c hc)⟩
        · exact (Go.heap_setCell_same w9 Y 0 _ _ (.slice o3 n3 p3) HY9.out).trans rfl
        · exact ownsRow_setCell_other (own_mono HO9.out (Nat.le_trans hbase hs5)) (fun e => by
            have := (World.ownsRow.lt HO9.out _ e).1
            simp at this
            omega) _
        · rcases List.mem_append.1 hx with hx | hx
          · rcases List.mem_append.1 hx with hx | hx
            · exact hO5.2 x (List.mem_of_mem_take hx)
            · obtain rfl := List.mem_singleton.1 hx
              exact HK9.out.mono (by omega)
          · exact hO5.2 x (List.mem_of_mem_drop hx)
        · rw [HTT.out, ← HXE.out, List.map_append, List.map_append, List.map_take, List.map_drop, List.append_assoc]; rfl
        · rcases List.mem_append.1 hx with hx | hx
          · rcases List.mem_append.1 hx with hx | hx
            · exact HP.out x (List.mem_of_mem_take hx)
            · obtain rfl := List.mem_singleton.1 hx
              exact fun g hg => HAA.out g (by have := (World.ownsRow.lt HK9.out g hg).1; omega)
          · exact HP.out x (List.mem_of_mem_drop hx)
      obtain ⟨nk, Hnk⟩ := hid_ex (xs.length - n)
      rw [← Hnk.out] at hsl3 hrun3
      clear hown3 hb3 hrc3 hev3 hl2 hgr3
      go_wp2_with (at_builtin; refine wpList_app_runE rfl _ _ _ _ rfl rfl _ _ _ rfl rfl hrun3 ?_; clear hrun3 hsl3)
      go_ret
      refine ⟨rfl, ?_⟩
      rw [← HT.out]
      exact HEND.out
end Go.Proofs.Ytoibmjmajbkbcaa
