/- MQw, joined. -/
import Derived.Test.YtilbffgpniomcaaGreatDoorQQ9
import Derived.Test.YtilbffgpniomcaaGreatDoorQQ16
import Derived.Test.YtilbffgpniomcaaGreatDoorQQ18
import Derived.Test.YtilbffgpniomcaaGreatDoorQQ24
import Derived.Test.YtilbffgpniomcaaGreatDoorQQ30
/- ManifestSaves' walk (written by mkmqw.py). -/
namespace Go.Proofs.YtilbffgpniomcaaGreatDoor
open Go.RowKit Go.Shelf

theorem EdI.parts' {w : World} {dv av : Value} {x : Ed} (h : EdI w (.agg #[dv, av, .int .i64 x.lo, .int .i64 x.ne, .int .i64 x.ma]) x) : JR w dv x.dr ∧ UR w av x.ad := EdI.parts (q := ⟨dv, av, x⟩) h
set_option maxRecDepth 100000 in
set_option maxHeartbeats 16000000 in
theorem saves13_walk (n : Int) (v1 : Value) (s : St) (v2 : Value) (L : List Ei) (W : World) (h1 : StI W v1 s) (h2 : EsR W v2 L) (hT : Tb W) :
    Calls Tryz.prog 4 #[.int .i64 n, v1, v2] W fun e W' => e = .returned (.bool true) ∧ Below W.heap.size W W' := by
  obtain ⟨rv, rfl, hU⟩ := h1.e
  obtain ⟨sa, sc, rfl, hm0⟩ := hU.r.form
  obtain ⟨la, lc, rfl, hm1⟩ := h2.form
  unfold maxLen at hm0 hm1
  obtain ⟨SL, HSL⟩ : ∃ k, Hid (s.ru.length = k) := ⟨_, rfl⟩
  obtain ⟨EL, HEL⟩ : ∃ k, Hid (L.length = k) := ⟨_, rfl⟩
  rw [HSL.out] at hU hm0 ⊢
  rw [HEL.out] at h2 hm1 ⊢
  obtain ⟨W0, HW0⟩ := hid_ex (W.alloc (.cells #[.slice sa SL sc, .int .i64 s.lo, .int .i64 s.ne, .int .i64 s.ma] 33))
  have HBW0 : Hid (Below W.heap.size W W0) := by unfold Hid; rw [HW0.out]; exact (Below.refl _ _).alloc (Nat.le_refl _) _
  have HUW : Hid (UR W0 (.slice sa SL sc) s.ru) := hU.below HBW0.out
  have HEs : Hid (EsR W0 (.slice la EL lc) L) := h2.below HBW0.out
  have HTb : Hid (Tb W0) := hT.below HBW0.out
  have hzW : W0.heap.size = W.heap.size + 1 := by rw [HW0.out]; simp
  have HSW : Hid (W0.heap[W.heap.size]? = some (.cells #[.slice sa SL sc, .int .i64 s.lo, .int .i64 s.ne, .int .i64 s.ma] 33)) := by unfold Hid; rw [HW0.out]; exact heap_alloc_new _ _
  clear h1 hU h2 hT
  go_enter Tryz.func4, Tryz.ntmps4
  go_wp2_with fail
  rw [← HW0.out]
  refine (fsW_new 1048576 W0 W0 (Below.refl _ _) (by decide) (by decide)).mono ?_
  rintro e w1 ⟨p, rfl, hf1⟩
  obtain ⟨g0, rfl⟩ := hf1.ptr
  have HF1 : Hid (FsW W0 w1 (.pointer (some ⟨g0, 0, none⟩)) (sfZ 1048576)) := hf1
  have HB1 : Hid (Below W.heap.size W w1) := HBW0.out.trans (hf1.b.mono (by omega))
  have HS1 : Hid (w1.heap[W.heap.size]? = some (.cells #[.slice sa SL sc, .int .i64 s.lo, .int .i64 s.ne, .int .i64 s.ma] 33)) := (hf1.b.block _ (by omega)).trans HSW.out
  clear hf1 HW0
  obtain ⟨c0, c1, c2, c3⟩ := four13 HS1.out
  by_cases g1 : 100 < SL
  · have g1' : (100 : Int) < (SL : Int) := by omega
    go_wp2_with fail
    refine (alive13_any w1).mono ?_
    rintro e wz ⟨rfl, hbz⟩
    have HBz : Hid (Below W.heap.size W wz) := HB1.out.trans (hbz.mono HB1.out.size)
    clear hbz
    go_wp2_with fail
    go_ret
    exact ⟨rfl, HBz.out⟩
  · have g1' : ¬ (100 : Int) < (SL : Int) := by omega
    by_cases g2 : 12 < EL
    · have g2' : (12 : Int) < (EL : Int) := by omega
      go_wp2_with fail
      refine (alive13_any w1).mono ?_
      rintro e wz ⟨rfl, hbz⟩
      have HBz : Hid (Below W.heap.size W wz) := HB1.out.trans (hbz.mono HB1.out.size)
      clear hbz
      go_wp2_with fail
      go_ret
      exact ⟨rfl, HBz.out⟩
    · have g2' : ¬ (12 : Int) < (EL : Int) := by omega
      have d2 : decide ((12 : Int) < (EL : Int)) = false := decide_eq_false g2'
      have HSl : Hid (s.ru.length ≤ 100) := by unfold Hid; rw [HSL.out]; omega
      have HEl : Hid (EL ≤ 12) := by unfold Hid; omega
      have hSv := HF1.out.save n _ s HUW.out (by simp [sfZ]) HTb.out
      have HSv : Hid (Calls Tryz.prog 17 #[.pointer (some ⟨g0, 0, none⟩), .int .i64 n, .agg #[.slice sa SL sc, .int .i64 s.lo, .int .i64 s.ne, .int .i64 s.ma]] w1 (FwR W0 (.pointer (some ⟨g0, 0, none⟩)) (mfSave (sfZ 1048576) n s))) := hSv
      clear hSv
      go_wp2_with fail
      refine HSv.out.mono ?_
      clear HSv c0 c1 c2 c3 g1 g1' g2 g2' d2 hm0
      rintro e w2 ⟨rfl, hf2⟩
      have HB2 : Hid (Below W.heap.size W w2) := HBW0.out.trans (hf2.b.mono (by omega))
      have HS2 : Hid (w2.heap[W.heap.size]? = some (.cells #[.slice sa SL sc, .int .i64 s.lo, .int .i64 s.ne, .int .i64 s.ma] 33)) := (hf2.b.block _ (by omega)).trans HSW.out
      have hAs := as13_any _ s w2 (HUW.out.below hf2.b).r (by have := HSl.out; omega)
      obtain ⟨R, HR⟩ := hid_ex (mfSave (sfZ 1048576) n s)
      rw [← HR.out] at hf2 ⊢
      obtain ⟨G, S1⟩ := R
      simp only at hf2 ⊢
      have HF2 : Hid (FsW W0 w2 (.pointer (some ⟨g0, 0, none⟩)) S1) := hf2
      have HAs : Hid (Calls Tryz.prog 16 #[.agg #[.slice sa SL sc, .int .i64 s.lo, .int .i64 s.ne, .int .i64 s.ma]] w2 _) := hAs
      clear hAs hf2
      obtain ⟨c0, c1, c2, c3⟩ := four13 HS2.out
      go_wp2_with fail
      refine HAs.out.mono ?_
      clear HAs c0 c1 c2 c3
      rintro e w3 ⟨v3, rfl, hr3, hb3⟩
      obtain ⟨a3, c3, hv3, _⟩ := hr3.form
      rw [HSL.out] at hv3
      subst hv3
      have HF3 : Hid (FsW W0 w3 (.pointer (some ⟨g0, 0, none⟩)) S1) := HF2.out.below hb3
      have HRt : Hid (Calls Tryz.prog 18 #[.agg #[.slice a3 SL c3, .int .i64 s.lo, .int .i64 s.ne, .int .i64 s.ma]] w3 _) := refRight13_any _ s w3 hr3
      clear hr3 hb3 HF2
      go_wp2_with fail
      refine HRt.out.mono ?_
      clear HRt
      rintro e w4 ⟨rfl, hb4⟩
      have HF4 : Hid (FsW W0 w4 (.pointer (some ⟨g0, 0, none⟩)) S1) := HF3.out.below hb4
      have HB4 : Hid (Below W.heap.size W w4) := HBW0.out.trans (HF4.out.b.mono (by omega))
      clear hb4 HF3
      by_cases hok : okSt s
      · rw [show decide (okSt s) = true from decide_eq_true hok]
        have HOk : Hid (okSt s) := hok
        clear hok
        have HNm : Hid (Calls Tryz.prog 11 #[.int .i64 n] w4 _) := refName13_any n w4
        obtain ⟨NM, HNM⟩ := hid_ex (nmF man n)
        rw [← HNM.out] at HNm
        go_wp2_with fail
        refine HNm.out.mono ?_
        clear HNm
        rintro e w5 ⟨rfl, hb5⟩
        have HF5 : Hid (FsW W0 w5 (.pointer (some ⟨g0, 0, none⟩)) S1) := HF4.out.below hb5
        have HB5 : Hid (Below W.heap.size W w5) := HBW0.out.trans (HF5.out.b.mono (by omega))
        clear hb5 HF4
        cases hno : isNo n with
        | false =>
          have hN : NM = [] := by rw [HNM.out]; exact nmF_no (fun z => by rw [isNo_iff.2 z] at hno; cases hno)
          subst hN
          have hRe : (G, S1) = (1, sfZ 1048576) := by rw [HR.out]; unfold mfSave; rw [if_neg (fun z => by rw [hno] at z; cases z.2)]
          simp only [Prod.mk.injEq] at hRe
          obtain ⟨rfl, rfl⟩ := hRe
          clear hno HNM HR
          go_wp2_with fail
          refine (alive13_any w5).mono ?_
          rintro e z1 ⟨rfl, hbz⟩
          have HFz : Hid (FsW W0 z1 (.pointer (some ⟨g0, 0, none⟩)) (sfZ 1048576)) := HF5.out.below hbz
          have HBz : Hid (Below W.heap.size W z1) := HB5.out.trans (hbz.mono HB5.out.size)
          clear hbz
          go_wp2_with fail
          refine HFz.out.list.mono ?_
          rintro e z2 ⟨la, lc, rfl, hll, hbz2⟩
          rw [show (sfZ 1048576).dir.length = 0 from rfl]
          have HBz2 : Hid (Below W.heap.size W z2) := HBz.out.trans (hbz2.mono HBz.out.size)
          clear hbz2 hll
          go_wp2_with fail
          go_ret
          exact ⟨rfl, HBz2.out⟩
        | true =>
          have HNo : Hid (isNo n = true) := hno
          obtain ⟨y9, hNe⟩ : ∃ r, NM = 109 :: r := by obtain ⟨r, e⟩ := man_front hno; exact ⟨r, HNM.out.trans e⟩
          have hne : NM.isEmpty = false := by rw [hNe]; rfl
          have hRe : (G, S1) = (0, SVd n [stB s]) := by rw [HR.out]; exact svd_save HOk.out hno
          simp only [Prod.mk.injEq] at hRe
          obtain ⟨rfl, rfl⟩ := hRe
          clear hno HNM HR hNe
          have hSv := HF5.out.save n _ s HUW.out (by simp [SVd, SV]) HTb.out
          rw [svd_again HOk.out HNo.out] at hSv
          have HSv : Hid (Calls Tryz.prog 17 #[.pointer (some ⟨g0, 0, none⟩), .int .i64 n, .agg #[.slice sa SL sc, .int .i64 s.lo, .int .i64 s.ne, .int .i64 s.ma]] w5 (FwR W0 (.pointer (some ⟨g0, 0, none⟩)) (80, SVd n [stB s]))) := hSv
          clear hSv
          have HS5 : Hid (w5.heap[W.heap.size]? = some (.cells #[.slice sa SL sc, .int .i64 s.lo, .int .i64 s.ne, .int .i64 s.ma] 33)) := (HF5.out.b.block _ (by omega)).trans HSW.out
          obtain ⟨c0, c1, c2, c3⟩ := four13 HS5.out
          go_wp2_with fail
          refine HSv.out.mono ?_
          clear HSv c0 c1 c2 c3 hne
          rintro e w6 ⟨rfl, hf6⟩
          simp only at hf6 ⊢
          have HF6 : Hid (FsW W0 w6 (.pointer (some ⟨g0, 0, none⟩)) (SVd n [stB s])) := hf6
          have HS6 : Hid (w6.heap[W.heap.size]? = some (.cells #[.slice sa SL sc, .int .i64 s.lo, .int .i64 s.ne, .int .i64 s.ma] 33)) := (hf6.b.block _ (by omega)).trans HSW.out
          have HAs : Hid (Calls Tryz.prog 16 #[.agg #[.slice sa SL sc, .int .i64 s.lo, .int .i64 s.ne, .int .i64 s.ma]] w6 _) := as13w_any _ s w6 (HUW.out.below hf6.b).r (by have := HSl.out; omega)
          clear hf6 HF5
          obtain ⟨c0, c1, c2, c3⟩ := four13 HS6.out
          go_wp2_with fail
          refine HAs.out.mono ?_
          clear HAs c0 c1 c2 c3
          rintro e w7 ⟨v7, rfl, hu7, hab7, hb7⟩
          obtain ⟨wa7, wc7, hv7, _⟩ := hu7.r.form
          rw [HSL.out] at hv7
          subst hv7
          obtain ⟨O6, hFT, hO6⟩ := HF6.out.t
          have HU7 : Hid (UR w7 (.slice wa7 SL wc7) s.ru) := hu7
          have HN7 : Hid (∀ Q, O6 Q → notP Q (.slice wa7 SL wc7) s.ru) := fun Q hQ _ b off n c e => by have := hab7 b off n c e; have := (hO6 Q hQ).2; omega
          have HF7 : Hid (FsT W0 w6 O6 w6 (.pointer (some ⟨g0, 0, none⟩)) (SVd n [stB s])) := hFT
          have HO6 : Hid (∀ k, O6 k → W0.heap.size ≤ k ∧ k < w6.heap.size) := hO6
          have HBd7 : Hid (Below w6.heap.size w6 w7) := hb7
          have HBW6 : Hid (Below W0.heap.size W0 w6) := hFT.b
          have hz7 := hb7.size
          have HOn7 : Hid (([.slice wa7 SL wc7, .int .i64 s.lo, .int .i64 s.ne, .int .i64 s.ma] : List Value).toArray.all (·.oneCell') = true) := by unfold Hid; kernel_rfl
          clear hu7 hab7 hb7 hFT hO6 HF6
          go_wp2_with (refine stop_store 38 _ _ rfl ?_)
          refine Stop.of ?_
          refine wpList_storeN rfl _ _ _ rfl w7.heap.size 0 [.slice wa7 SL wc7, .int .i64 s.lo, .int .i64 s.ne, .int .i64 s.ma] rfl rfl _ _ (heap_alloc_new _ _) (by simp) (by kernel_rfl) HOn7.out ?_
          intro w8 hw8
          obtain ⟨hb8, hx8, hz8⟩ := stW_nw hw8 (by simp)
          have hb68 : Below w6.heap.size w6 w8 := HBd7.out.trans (hb8.mono hz7)
          have HF8 : Hid (FsT W0 w8 O6 w8 (.pointer (some ⟨g0, 0, none⟩)) (SVd n [stB s])) := HF7.out.since hb68
          have HO8 : Hid (∀ k, O6 k → W0.heap.size ≤ k ∧ k < w8.heap.size) := fun k hk => ⟨(HO6.out k hk).1, by have := (HO6.out k hk).2; have := hb68.size; omega⟩
          obtain ⟨P, HPe⟩ := hid_ex w7.heap.size
          have hPW : W0.heap.size ≤ P := by rw [HPe.out]; have := HBW6.out.size; omega
          have HPO8 : Hid (¬ O6 P) := fun z => by have := (HO6.out P z).2; rw [HPe.out] at this; omega
          have HU8 : Hid (UR w8 (.slice wa7 SL wc7) s.ru) := HU7.out.below hb8
          have HNP8 : Hid (notP P (.slice wa7 SL wc7) s.ru ∧ ∀ Q, O6 Q → notP Q (.slice wa7 SL wc7) s.ru) := ⟨by rw [HPe.out]; exact notP_low HU7.out.r (Nat.le_refl _), HN7.out⟩
          rw [← HPe.out] at hx8 ⊢
          have HP8 : Hid (w8.heap[P]? = some (.cells #[.slice wa7 SL wc7, .int .i64 s.lo, .int .i64 s.ne, .int .i64 s.ma] 38)) := hx8
          clear hw8 hb8 hx8 hb68 HPe HU7 HF7 hz8 hz7
          go_wp2_with fail
          go_loopw [11] (fun iv wr => ∃ (j WL wc : Nat) (wa : Option Addr) (Wt : St) (ds : List (List UInt8)) (O : Nat → Prop), iv = .int .i64 (j : Int) ∧ j ≤ EL ∧ Hid (Wt.ru.length = WL) ∧ Hid (UR wr (.slice wa WL wc) Wt.ru) ∧ Hid (wr.heap[P]? = some (.cells #[.slice wa WL wc, .int .i64 Wt.lo, .int .i64 Wt.ne, .int .i64 Wt.ma] 38)) ∧ Hid (okSt Wt) ∧ Hid (Dw ds Wt j) ∧ Hid (FsT W0 wr O wr (.pointer (some ⟨g0, 0, none⟩)) (SVd n ds)) ∧ Hid (∀ k, O k → W0.heap.size ≤ k ∧ k < wr.heap.size) ∧ Hid (¬ O P) ∧ Hid (notP P (.slice wa WL wc) Wt.ru ∧ ∀ Q, O Q → notP Q (.slice wa WL wc) Wt.ru)) (fun iv _ => EL - (intOf iv).toNat)
          case atStart => exact ⟨0, SL, wc7, wa7, s, [stB s], O6, rfl, by omega, HSL, HU8, HP8, HOk, dw_one HOk.out, HF8, HO8, HPO8, HNP8⟩
          case round =>
            clear HP8 HU8 HF8 HO8 HPO8 HNP8
            obtain ⟨j, WL, wc, wa, Wt, ds, O, rfl, hj, HWL, HWr, HPr, HOkW, HDw, HFr, HO, HPO, HNP⟩ := hrel
            have hPz : P < wr.heap.size := (Array.getElem?_eq_some_iff.1 HPr.out).1
            have HWl : Hid (Wt.ru.length ≤ 64) := HOkW.out.2.2.2.2.2.1
            by_cases hlt : j < EL
            · have hlt' : (j : Int) < (EL : Int) := by omega
              have hjl : j < L.length := by rw [HEL.out]; exact hlt
              obtain ⟨q, Hq⟩ := hid_ex L[j]
              obtain ⟨eb, eo, hla, hebz0, hcs, hEd⟩ := HEs.out.at hjl Hq.out
              obtain ⟨hJ, hA⟩ := hEd.parts
              obtain ⟨dv, av, x⟩ := q
              simp only at hcs hEd hJ hA
              obtain ⟨da, dc, rfl, hdm⟩ := hJ.form
              obtain ⟨aa, ac, rfl, ham⟩ := hA.r.form
              unfold maxLen at hdm ham
              obtain ⟨DL, HDL⟩ : ∃ k, Hid (x.dr.length = k) := ⟨_, rfl⟩
              obtain ⟨AL, HAL⟩ : ∃ k, Hid (x.ad.length = k) := ⟨_, rfl⟩
              rw [HDL.out] at hJ hdm
              rw [HAL.out] at hA ham
              rw [HDL.out, HAL.out] at hcs
              have HSmI : Hid (x.dr.length ≤ 1000000 → x.ad.length ≤ 1000000 → smI x) := hEd.sm
              have HEd : Hid (EdI W0 (.agg #[.slice da DL dc, .slice aa AL ac, .int .i64 x.lo, .int .i64 x.ne, .int .i64 x.ma]) x) := by
                have := hEd
                unfold Ei.val at this
                simp only at this
                rw [HDL.out, HAL.out] at this
                exact this
              subst hla
              have HBWr : Hid (Below W0.heap.size W0 wr) := HFr.out.b
              have hebz : eb < wr.heap.size := Nat.lt_of_lt_of_le hebz0 HBWr.out.size
              have HXr : Hid ((wr.cell? ⟨eb, eo + j * 5, none⟩ = some (.slice da DL dc) ∧ wr.cell? ⟨eb, eo + j * 5 + 1, none⟩ = some (.slice aa AL ac) ∧ wr.cell? ⟨eb, eo + j * 5 + 2, none⟩ = some (.int .i64 x.lo) ∧ wr.cell? ⟨eb, eo + j * 5 + 3, none⟩ = some (.int .i64 x.ne) ∧ wr.cell? ⟨eb, eo + j * 5 + 4, none⟩ = some (.int .i64 x.ma))) := ⟨(HBWr.out.cell hebz0).trans hcs.1, (HBWr.out.cell hebz0).trans hcs.2.1, (HBWr.out.cell hebz0).trans hcs.2.2.1, (HBWr.out.cell hebz0).trans hcs.2.2.2.1, (HBWr.out.cell hebz0).trans hcs.2.2.2.2⟩
              have HEr : Hid (EdR wr (.slice da DL dc) (.slice aa AL ac) x) := ⟨hJ.below HBWr.out, (hA.below HBWr.out).r⟩
              have HBr : Hid (Below W.heap.size W wr) := HBW0.out.trans (HBWr.out.mono (by omega))
              clear hcs hEd hJ hA Hq
              obtain ⟨e0, e1, e2, e3, e4⟩ := HXr.out
              by_cases g1 : 100 < AL
              · have g1' : (100 : Int) < (AL : Int) := by omega
                go_wp2_with fail
                refine (alive13_any wr).mono ?_
                rintro e wz ⟨rfl, hbz⟩
                have HBz : Hid (Below W.heap.size W wz) := HBr.out.trans (hbz.mono HBr.out.size)
                clear hbz
                go_wp2_with fail
                go_ret
                exact ⟨rfl, HBz.out⟩
              · have g1' : ¬ (100 : Int) < (AL : Int) := by omega
                by_cases g2 : 100 < DL
                · have g2' : (100 : Int) < (DL : Int) := by omega
                  go_wp2_with fail
                  refine (alive13_any wr).mono ?_
                  rintro e wz ⟨rfl, hbz⟩
                  have HBz : Hid (Below W.heap.size W wz) := HBr.out.trans (hbz.mono HBr.out.size)
                  clear hbz
                  go_wp2_with fail
                  go_ret
                  exact ⟨rfl, HBz.out⟩
                · have g2' : ¬ (100 : Int) < (DL : Int) := by omega
                  have d2 : decide ((100 : Int) < (DL : Int)) = false := decide_eq_false g2'
                  have HALl : Hid (AL ≤ 100) := by unfold Hid; omega
                  have HSm : Hid (smI x) := HSmI.out (by rw [HDL.out]; omega) (by rw [HAL.out]; omega)
                  obtain ⟨T, HTe⟩ := hid_ex ((apS Wt x).1.getD stZ)
                  obtain ⟨E, HEe⟩ := hid_ex (apS Wt x).2
                  obtain ⟨TL, HTL⟩ : ∃ k, Hid (T.ru.length = k) := ⟨_, rfl⟩
                  obtain ⟨v0, HV0⟩ := hid_ex wr.drew
                  have hbv : Below wr.heap.size wr v0 := by rw [HV0.out]; exact (Below.refl _ _).drew
                  have HBdv0 : Hid (Below wr.heap.size wr v0) := hbv
                  have HPv0 : Hid (v0.heap[P]? = some (.cells #[.slice wa WL wc, .int .i64 Wt.lo, .int .i64 Wt.ne, .int .i64 Wt.ma] 38)) := (hbv.block _ hPz).trans HPr.out
                  have HXv0 : Hid ((v0.cell? ⟨eb, eo + j * 5, none⟩ = some (.slice da DL dc) ∧ v0.cell? ⟨eb, eo + j * 5 + 1, none⟩ = some (.slice aa AL ac) ∧ v0.cell? ⟨eb, eo + j * 5 + 2, none⟩ = some (.int .i64 x.lo) ∧ v0.cell? ⟨eb, eo + j * 5 + 3, none⟩ = some (.int .i64 x.ne) ∧ v0.cell? ⟨eb, eo + j * 5 + 4, none⟩ = some (.int .i64 x.ma))) := ⟨(hbv.cell hebz).trans HXr.out.1, (hbv.cell hebz).trans HXr.out.2.1, (hbv.cell hebz).trans HXr.out.2.2.1, (hbv.cell hebz).trans HXr.out.2.2.2.1, (hbv.cell hebz).trans HXr.out.2.2.2.2⟩
                  have HGv0 : Hid ((v0.cell? ⟨P, 0, none⟩ = some (.slice wa WL wc) ∧ v0.cell? ⟨P, 1, none⟩ = some (.int .i64 Wt.lo) ∧ v0.cell? ⟨P, 2, none⟩ = some (.int .i64 Wt.ne) ∧ v0.cell? ⟨P, 3, none⟩ = some (.int .i64 Wt.ma)) ∧ (v0.cell? ⟨eb, eo + j * 5, none⟩ = some (.slice da DL dc) ∧ v0.cell? ⟨eb, eo + j * 5 + 1, none⟩ = some (.slice aa AL ac) ∧ v0.cell? ⟨eb, eo + j * 5 + 2, none⟩ = some (.int .i64 x.lo) ∧ v0.cell? ⟨eb, eo + j * 5 + 3, none⟩ = some (.int .i64 x.ne) ∧ v0.cell? ⟨eb, eo + j * 5 + 4, none⟩ = some (.int .i64 x.ma))) := ⟨four13 HPv0.out, HXv0.out⟩
                  have HWv0 : Hid (UR v0 (.slice wa WL wc) Wt.ru) := HWr.out.below hbv
                  have HEv0 : Hid (EdR v0 (.slice da DL dc) (.slice aa AL ac) x) := HEr.out.below hbv
                  have hzv0 : wr.heap.size ≤ v0.heap.size := hbv.size
                  clear hbv
                  go_wp2_with fail
                  refine wp_region_noPanic ?_
                  refine wp_region_held_drew (S := fun w' => (w'.cell? ⟨P, 0, none⟩ = some (.slice wa WL wc) ∧ w'.cell? ⟨P, 1, none⟩ = some (.int .i64 Wt.lo) ∧ w'.cell? ⟨P, 2, none⟩ = some (.int .i64 Wt.ne) ∧ w'.cell? ⟨P, 3, none⟩ = some (.int .i64 Wt.ma)) ∧ (w'.cell? ⟨eb, eo + j * 5, none⟩ = some (.slice da DL dc) ∧ w'.cell? ⟨eb, eo + j * 5 + 1, none⟩ = some (.slice aa AL ac) ∧ w'.cell? ⟨eb, eo + j * 5 + 2, none⟩ = some (.int .i64 x.lo) ∧ w'.cell? ⟨eb, eo + j * 5 + 3, none⟩ = some (.int .i64 x.ne) ∧ w'.cell? ⟨eb, eo + j * 5 + 4, none⟩ = some (.int .i64 x.ma))) (by kernel_rfl) ?_ (fun hHeld => ?_)
                  · (rw [← HV0.out]; exact HGv0.out)
                  rw [← HV0.out]
                  clear HV0 e0 e1 e2 e3 e4 g1 g1' g2 g2' d2
                  refine wpAnyH_take (i := 0) (v := .agg #[.slice wa WL wc, .int .i64 Wt.lo, .int .i64 Wt.ne, .int .i64 Wt.ma]) rfl (by kernel_rfl) (by kernel_rfl) (by kernel_rfl) (fun _ _ _ h => h) (Or.inl ⟨by rfl, ?_⟩) (by assumption) ?_
                  · (intro w1 hSw; (try dsimp only at hSw); go_simp)
                  simp only [List.getElem_toArray, List.getElem_cons_zero, Act.put, List.setIfInBounds_toArray, List.set_cons_zero, List.set_cons_succ]
                  refine wpAnyH_take (i := 1) (v := .slice (some ⟨eb, eo, none⟩) EL lc) rfl (by kernel_rfl) (by kernel_rfl) (by kernel_rfl) (fun _ _ _ h => h) (Or.inl ⟨by rfl, ?_⟩) (by assumption) ?_
                  · (intro w1 hSw; (try dsimp only at hSw); go_simp)
                  simp only [List.getElem_toArray, List.getElem_cons_succ, List.getElem_cons_zero, Act.put, List.setIfInBounds_toArray, List.set_cons_zero, List.set_cons_succ]
                  refine wpAnyH_take (i := 2) (v := .int .i64 (j : Int)) rfl (by kernel_rfl) (by kernel_rfl) (by kernel_rfl) (fun _ _ _ h => h) (Or.inl ⟨by rfl, ?_⟩) (by assumption) ?_
                  · (intro w1 hSw; (try dsimp only at hSw); go_simp)
                  simp only [List.getElem_toArray, List.getElem_cons_succ, List.getElem_cons_zero, Act.put, List.setIfInBounds_toArray, List.set_cons_zero, List.set_cons_succ]
                  refine wpAnyH_take (i := 3) (v := .pointer (some ⟨eb, eo + j * 5, none⟩)) rfl (by kernel_rfl) (by kernel_rfl) (by kernel_rfl) (fun _ _ _ h => h) (Or.inl ⟨by rfl, ?_⟩) (by assumption) ?_
                  · (intro w1 hSw; (try dsimp only at hSw); go_simp)
                  simp only [List.getElem_toArray, List.getElem_cons_succ, List.getElem_cons_zero, Act.put, List.setIfInBounds_toArray, List.set_cons_zero, List.set_cons_succ]
                  refine wpAnyH_take (i := 4) (v := .agg #[.slice da DL dc, .slice aa AL ac, .int .i64 x.lo, .int .i64 x.ne, .int .i64 x.ma]) rfl (by kernel_rfl) (by kernel_rfl) (by kernel_rfl) (fun _ _ _ h => h) (Or.inl ⟨by rfl, ?_⟩) (by assumption) ?_
                  · (intro w1 hSw; (try dsimp only at hSw); go_simp)
                  simp only [List.getElem_toArray, List.getElem_cons_succ, List.getElem_cons_zero, Act.put, List.setIfInBounds_toArray, List.set_cons_zero, List.set_cons_succ]
                  refine wpAnyH_ready (rs := [5, 10]) (by kernel_rfl) (by simp) ?_
                  refine AllReadyH.cons (o := _) rfl (fun K hK => ?_) (AllReadyH.cons (o := _) rfl (fun K hK => ?_) AllReadyH.nil)
                  · have HO2 : Hid (P = P) := rfl
                    go_simp
                    refine (asEdit_any _ _ x v0 HEv0.out (by rw [HAL.out]; have := HALl.out; omega)).mono ?_
                    rintro e v1 ⟨ve, rfl, he, hbv1⟩
                    have HBdv1 : Hid (Below wr.heap.size wr v1) := HBdv0.out.trans (hbv1.mono HBdv0.out.size)
                    have HPv1 : Hid (v1.heap[P]? = some (.cells #[.slice wa WL wc, .int .i64 Wt.lo, .int .i64 Wt.ne, .int .i64 Wt.ma] 38)) := (hbv1.block _ (Array.getElem?_eq_some_iff.1 HPv0.out).1).trans HPv0.out
                    have HXv1 : Hid ((v1.cell? ⟨eb, eo + j * 5, none⟩ = some (.slice da DL dc) ∧ v1.cell? ⟨eb, eo + j * 5 + 1, none⟩ = some (.slice aa AL ac) ∧ v1.cell? ⟨eb, eo + j * 5 + 2, none⟩ = some (.int .i64 x.lo) ∧ v1.cell? ⟨eb, eo + j * 5 + 3, none⟩ = some (.int .i64 x.ne) ∧ v1.cell? ⟨eb, eo + j * 5 + 4, none⟩ = some (.int .i64 x.ma))) := ⟨(hbv1.cell (Nat.lt_of_lt_of_le hebz HBdv0.out.size)).trans HXv0.out.1, (hbv1.cell (Nat.lt_of_lt_of_le hebz HBdv0.out.size)).trans HXv0.out.2.1, (hbv1.cell (Nat.lt_of_lt_of_le hebz HBdv0.out.size)).trans HXv0.out.2.2.1, (hbv1.cell (Nat.lt_of_lt_of_le hebz HBdv0.out.size)).trans HXv0.out.2.2.2.1, (hbv1.cell (Nat.lt_of_lt_of_le hebz HBdv0.out.size)).trans HXv0.out.2.2.2.2⟩
                    have HGv1 : Hid ((v1.cell? ⟨P, 0, none⟩ = some (.slice wa WL wc) ∧ v1.cell? ⟨P, 1, none⟩ = some (.int .i64 Wt.lo) ∧ v1.cell? ⟨P, 2, none⟩ = some (.int .i64 Wt.ne) ∧ v1.cell? ⟨P, 3, none⟩ = some (.int .i64 Wt.ma)) ∧ (v1.cell? ⟨eb, eo + j * 5, none⟩ = some (.slice da DL dc) ∧ v1.cell? ⟨eb, eo + j * 5 + 1, none⟩ = some (.slice aa AL ac) ∧ v1.cell? ⟨eb, eo + j * 5 + 2, none⟩ = some (.int .i64 x.lo) ∧ v1.cell? ⟨eb, eo + j * 5 + 3, none⟩ = some (.int .i64 x.ne) ∧ v1.cell? ⟨eb, eo + j * 5 + 4, none⟩ = some (.int .i64 x.ma))) := ⟨four13 HPv1.out, HXv1.out⟩
                    have HWv1 : Hid (UR v1 (.slice wa WL wc) Wt.ru) := HWv0.out.below hbv1
                    have HEv1 : Hid (EdR v1 (.slice da DL dc) (.slice aa AL ac) x) := HEv0.out.below hbv1
                    have hzv1 : wr.heap.size ≤ v1.heap.size := HBdv1.out.size
                    obtain ⟨ea, ec, hve, _⟩ := he.a.form
                    rw [HAL.out] at hve
                    subst hve
                    have HVv1 : Hid (EdR v1 (.slice da DL dc) (.slice ea AL ec) x) := he
                    clear he
                    clear hbv1
                    go_simp
                    refine hK.out _ _ ?_ (fun hHeld => ?_)
                    · exact HGv1.out
                    clear hK K
                    refine wpAnyH_ready (rs := [6, 10]) (by kernel_rfl) (by simp) ?_
                    refine AllReadyH.cons (o := _) rfl (fun K hK => ?_) (AllReadyH.cons (o := _) rfl (fun K hK => ?_) AllReadyH.nil)
                    · have HO2 : Hid (P = P) := rfl
                      go_simp
                      refine (refApplyF_any _ _ _ Wt x v1 HWv1.out HVv1.out.d HVv1.out.a (by have := HWl.out; omega) (by rw [HAL.out]; have := HALl.out; omega)).mono ?_
                      rintro e v2 ⟨vr, hvr, hur, hbv2, hnr⟩
                      rw [← HTe.out, ← HEe.out] at hvr
                      rw [← HTe.out] at hur hnr
                      obtain ⟨ta, tc, hvr2, _⟩ := hur.r.form
                      rw [HTL.out] at hvr2
                      subst hvr2
                      subst hvr
                      have HBdv2 : Hid (Below wr.heap.size wr v2) := HBdv1.out.trans (hbv2.mono HBdv1.out.size)
                      have HPv2 : Hid (v2.heap[P]? = some (.cells #[.slice wa WL wc, .int .i64 Wt.lo, .int .i64 Wt.ne, .int .i64 Wt.ma] 38)) := (hbv2.block _ (Array.getElem?_eq_some_iff.1 HPv1.out).1).trans HPv1.out
                      have HXv2 : Hid ((v2.cell? ⟨eb, eo + j * 5, none⟩ = some (.slice da DL dc) ∧ v2.cell? ⟨eb, eo + j * 5 + 1, none⟩ = some (.slice aa AL ac) ∧ v2.cell? ⟨eb, eo + j * 5 + 2, none⟩ = some (.int .i64 x.lo) ∧ v2.cell? ⟨eb, eo + j * 5 + 3, none⟩ = some (.int .i64 x.ne) ∧ v2.cell? ⟨eb, eo + j * 5 + 4, none⟩ = some (.int .i64 x.ma))) := ⟨(hbv2.cell (Nat.lt_of_lt_of_le hebz HBdv1.out.size)).trans HXv1.out.1, (hbv2.cell (Nat.lt_of_lt_of_le hebz HBdv1.out.size)).trans HXv1.out.2.1, (hbv2.cell (Nat.lt_of_lt_of_le hebz HBdv1.out.size)).trans HXv1.out.2.2.1, (hbv2.cell (Nat.lt_of_lt_of_le hebz HBdv1.out.size)).trans HXv1.out.2.2.2.1, (hbv2.cell (Nat.lt_of_lt_of_le hebz HBdv1.out.size)).trans HXv1.out.2.2.2.2⟩
                      have HGv2 : Hid ((v2.cell? ⟨P, 0, none⟩ = some (.slice wa WL wc) ∧ v2.cell? ⟨P, 1, none⟩ = some (.int .i64 Wt.lo) ∧ v2.cell? ⟨P, 2, none⟩ = some (.int .i64 Wt.ne) ∧ v2.cell? ⟨P, 3, none⟩ = some (.int .i64 Wt.ma)) ∧ (v2.cell? ⟨eb, eo + j * 5, none⟩ = some (.slice da DL dc) ∧ v2.cell? ⟨eb, eo + j * 5 + 1, none⟩ = some (.slice aa AL ac) ∧ v2.cell? ⟨eb, eo + j * 5 + 2, none⟩ = some (.int .i64 x.lo) ∧ v2.cell? ⟨eb, eo + j * 5 + 3, none⟩ = some (.int .i64 x.ne) ∧ v2.cell? ⟨eb, eo + j * 5 + 4, none⟩ = some (.int .i64 x.ma))) := ⟨four13 HPv2.out, HXv2.out⟩
                      have HWv2 : Hid (UR v2 (.slice wa WL wc) Wt.ru) := HWv1.out.below hbv2
                      have HEv2 : Hid (EdR v2 (.slice da DL dc) (.slice aa AL ac) x) := HEv1.out.below hbv2
                      have hzv2 : wr.heap.size ≤ v2.heap.size := HBdv2.out.size
                      have HTv2 : Hid (UR v2 (.slice ta TL tc) T.ru) := hur
                      have HTP : Hid (notP P (.slice ta TL tc) T.ru) := hnr P (Nat.lt_of_lt_of_le hPz hzv1) HNP.out.1
                      have HTO : Hid (∀ Q, O Q → notP Q (.slice ta TL tc) T.ru) := fun Q hQ => hnr Q (Nat.lt_of_lt_of_le (HO.out Q hQ).2 hzv1) (HNP.out.2 Q hQ)
                      clear hbv2 hur hnr
                      go_simp
                      refine hK.out _ _ ?_ (fun hHeld => ?_)
                      · exact HGv2.out
                      clear hK K
                      refine wpAnyH_take (i := 7) (v := .tuple #[.agg #[.slice ta TL tc, .int .i64 T.lo, .int .i64 T.ne, .int .i64 T.ma], .int .i64 E]) rfl (by kernel_rfl) (by kernel_rfl) (by kernel_rfl) (fun _ _ _ h => h) (Or.inl ⟨by rfl, ?_⟩) (by assumption) ?_
                      · (intro w1 hSw; (try dsimp only at hSw); go_simp)
                      simp only [List.getElem_toArray, List.getElem_cons_succ, List.getElem_cons_zero, Act.put, List.setIfInBounds_toArray, List.set_cons_zero, List.set_cons_succ]
                      refine wpAnyH_take (i := 8) (v := .agg #[.slice ta TL tc, .int .i64 T.lo, .int .i64 T.ne, .int .i64 T.ma]) rfl (by kernel_rfl) (by kernel_rfl) (by kernel_rfl) (fun _ _ _ h => h) (Or.inl ⟨by rfl, ?_⟩) (by assumption) ?_
                      · (intro w1 hSw; (try dsimp only at hSw); go_simp)
                      simp only [List.getElem_toArray, List.getElem_cons_succ, List.getElem_cons_zero, Act.put, List.setIfInBounds_toArray, List.set_cons_zero, List.set_cons_succ]
                      refine wpAnyH_take (i := 9) (v := .int .i64 E) rfl (by kernel_rfl) (by kernel_rfl) (by kernel_rfl) (fun _ _ _ h => h) (Or.inl ⟨by rfl, ?_⟩) (by assumption) ?_
                      · (intro w1 hSw; (try dsimp only at hSw); go_simp)
                      simp only [List.getElem_toArray, List.getElem_cons_succ, List.getElem_cons_zero, Act.put, List.setIfInBounds_toArray, List.set_cons_zero, List.set_cons_succ]
                      refine wpAnyH_ready (rs := [10]) (by kernel_rfl) (by simp) ?_
                      refine AllReadyH.cons (o := _) rfl (fun K hK => ?_) AllReadyH.nil
                      go_simp
                      obtain ⟨v3, HNv3⟩ := hid_ex (v2.alloc (.cells #[.slice none 0 0, .int .i64 0, .int .i64 0, .int .i64 0] 38))
                      have hbv3 : Below v2.heap.size v2 v3 := by rw [HNv3.out]; exact (Below.refl _ _).alloc (Nat.le_refl _) _
                      have HQv3 : Hid (v3.heap[v2.heap.size]? = some (.cells #[.slice none 0 0, .int .i64 0, .int .i64 0, .int .i64 0] 38)) := by unfold Hid; rw [HNv3.out]; exact heap_alloc_new _ _
                      have HPA : Hid (wr.heap.size ≤ v2.heap.size) := hzv2
                      have HBdv3 : Hid (Below wr.heap.size wr v3) := HBdv2.out.trans (hbv3.mono HBdv2.out.size)
                      have HPv3 : Hid (v3.heap[P]? = some (.cells #[.slice wa WL wc, .int .i64 Wt.lo, .int .i64 Wt.ne, .int .i64 Wt.ma] 38)) := (hbv3.block _ (Array.getElem?_eq_some_iff.1 HPv2.out).1).trans HPv2.out
                      have HXv3 : Hid ((v3.cell? ⟨eb, eo + j * 5, none⟩ = some (.slice da DL dc) ∧ v3.cell? ⟨eb, eo + j * 5 + 1, none⟩ = some (.slice aa AL ac) ∧ v3.cell? ⟨eb, eo + j * 5 + 2, none⟩ = some (.int .i64 x.lo) ∧ v3.cell? ⟨eb, eo + j * 5 + 3, none⟩ = some (.int .i64 x.ne) ∧ v3.cell? ⟨eb, eo + j * 5 + 4, none⟩ = some (.int .i64 x.ma))) := ⟨(hbv3.cell (Nat.lt_of_lt_of_le hebz HBdv2.out.size)).trans HXv2.out.1, (hbv3.cell (Nat.lt_of_lt_of_le hebz HBdv2.out.size)).trans HXv2.out.2.1, (hbv3.cell (Nat.lt_of_lt_of_le hebz HBdv2.out.size)).trans HXv2.out.2.2.1, (hbv3.cell (Nat.lt_of_lt_of_le hebz HBdv2.out.size)).trans HXv2.out.2.2.2.1, (hbv3.cell (Nat.lt_of_lt_of_le hebz HBdv2.out.size)).trans HXv2.out.2.2.2.2⟩
                      have HGv3 : Hid ((v3.cell? ⟨P, 0, none⟩ = some (.slice wa WL wc) ∧ v3.cell? ⟨P, 1, none⟩ = some (.int .i64 Wt.lo) ∧ v3.cell? ⟨P, 2, none⟩ = some (.int .i64 Wt.ne) ∧ v3.cell? ⟨P, 3, none⟩ = some (.int .i64 Wt.ma)) ∧ (v3.cell? ⟨eb, eo + j * 5, none⟩ = some (.slice da DL dc) ∧ v3.cell? ⟨eb, eo + j * 5 + 1, none⟩ = some (.slice aa AL ac) ∧ v3.cell? ⟨eb, eo + j * 5 + 2, none⟩ = some (.int .i64 x.lo) ∧ v3.cell? ⟨eb, eo + j * 5 + 3, none⟩ = some (.int .i64 x.ne) ∧ v3.cell? ⟨eb, eo + j * 5 + 4, none⟩ = some (.int .i64 x.ma))) := ⟨four13 HPv3.out, HXv3.out⟩
                      have HWv3 : Hid (UR v3 (.slice wa WL wc) Wt.ru) := HWv2.out.below hbv3
                      have HEv3 : Hid (EdR v3 (.slice da DL dc) (.slice aa AL ac) x) := HEv2.out.below hbv3
                      have hzv3 : wr.heap.size ≤ v3.heap.size := HBdv3.out.size
                      have HTv3 : Hid (UR v3 (.slice ta TL tc) T.ru) := HTv2.out.below hbv3
                      have HTA : Hid (notP v2.heap.size (.slice ta TL tc) T.ru) := notP_low HTv2.out.r (Nat.le_refl _)
                      rw [← HNv3.out]
                      clear HNv3 hbv3
                      refine hK.out _ _ ?_ (fun hHeld => ?_)
                      · exact HGv3.out
                      clear hK K
                      have HOnT : Hid (([.slice ta TL tc, .int .i64 T.lo, .int .i64 T.ne, .int .i64 T.ma] : List Value).toArray.all (·.oneCell') = true) := by unfold Hid; kernel_rfl
                      refine wpAnyH_ready (rs := [11]) (by kernel_rfl) (by simp) ?_
                      refine AllReadyH.cons (o := _) rfl (fun K hK => ?_) AllReadyH.nil
                      refine wp_storeN _ _ _ rfl (v2.heap.size) 0 [.slice ta TL tc, .int .i64 T.lo, .int .i64 T.ne, .int .i64 T.ma] rfl rfl _ _ HQv3.out (by simp) (by kernel_rfl) HOnT.out (fun y0 hy0 => ?_)
                      have HA0 : Hid (y0.heap[v2.heap.size]? = some (.cells #[.slice ta TL tc, .int .i64 T.lo, .int .i64 T.ne, .int .i64 T.ma] 38)) := stW_all hy0 (by simp)
                      have hot : ∀ k, k ≠ v2.heap.size → y0.heap[k]? = v3.heap[k]? := hy0.o
                      have HBd0 : Hid (Below wr.heap.size wr y0) := HBdv3.out.trans (hy0.b _ HPA.out)
                      have HP0 : Hid (y0.heap[P]? = some (.cells #[.slice wa WL wc, .int .i64 Wt.lo, .int .i64 Wt.ne, .int .i64 Wt.ma] 38)) := (HBd0.out.block _ hPz).trans HPr.out
                      have HX0 : Hid ((y0.cell? ⟨eb, eo + j * 5, none⟩ = some (.slice da DL dc) ∧ y0.cell? ⟨eb, eo + j * 5 + 1, none⟩ = some (.slice aa AL ac) ∧ y0.cell? ⟨eb, eo + j * 5 + 2, none⟩ = some (.int .i64 x.lo) ∧ y0.cell? ⟨eb, eo + j * 5 + 3, none⟩ = some (.int .i64 x.ne) ∧ y0.cell? ⟨eb, eo + j * 5 + 4, none⟩ = some (.int .i64 x.ma))) := ⟨(HBd0.out.cell hebz).trans HXr.out.1, (HBd0.out.cell hebz).trans HXr.out.2.1, (HBd0.out.cell hebz).trans HXr.out.2.2.1, (HBd0.out.cell hebz).trans HXr.out.2.2.2.1, (HBd0.out.cell hebz).trans HXr.out.2.2.2.2⟩
                      have HG0 : Hid ((y0.cell? ⟨P, 0, none⟩ = some (.slice wa WL wc) ∧ y0.cell? ⟨P, 1, none⟩ = some (.int .i64 Wt.lo) ∧ y0.cell? ⟨P, 2, none⟩ = some (.int .i64 Wt.ne) ∧ y0.cell? ⟨P, 3, none⟩ = some (.int .i64 Wt.ma)) ∧ (y0.cell? ⟨eb, eo + j * 5, none⟩ = some (.slice da DL dc) ∧ y0.cell? ⟨eb, eo + j * 5 + 1, none⟩ = some (.slice aa AL ac) ∧ y0.cell? ⟨eb, eo + j * 5 + 2, none⟩ = some (.int .i64 x.lo) ∧ y0.cell? ⟨eb, eo + j * 5 + 3, none⟩ = some (.int .i64 x.ne) ∧ y0.cell? ⟨eb, eo + j * 5 + 4, none⟩ = some (.int .i64 x.ma))) := ⟨four13 HP0.out, HX0.out⟩
                      have HT0 : Hid (UR y0 (.slice ta TL tc) T.ru) := ⟨HTv3.out.r.keepC fun h0 b off n c e => hot b (HTA.out h0 b off n c e), HTv3.out.c, HTv3.out.z⟩
                      have HW0r : Hid (UR y0 (.slice wa WL wc) Wt.ru) := HWr.out.below HBd0.out
                      obtain ⟨PA, HPAe⟩ := hid_ex (v2.heap.size)
                      have HPAz : Hid (wr.heap.size ≤ PA) := by unfold Hid; rw [HPAe.out]; exact HPA.out
                      rw [← HPAe.out] at HA0 ⊢
                      clear hy0 hot
                      refine hK.out _ _ ?_ (fun hHeld => ?_)
                      · exact HG0.out
                      clear hK K
                      refine wpAnyH_ready (rs := [12]) (by kernel_rfl) (by simp) ?_
                      refine AllReadyH.cons (o := _) rfl (fun K hK => ?_) AllReadyH.nil
                      go_simp
                      refine hK.out _ _ ?_ (fun hHeld => ?_)
                      · exact HG0.out
                      clear hK K
                      refine wpAnyH_done (by kernel_rfl) ?_ _
                      refine NoPanic.normal ?_
                      have hPAy : PA < y0.heap.size := (Array.getElem?_eq_some_iff.1 HA0.out).1
                      have HF0 : Hid (FsT W0 y0 O y0 (.pointer (some ⟨g0, 0, none⟩)) (SVd n ds)) := HFr.out.since HBd0.out
                      have HBWy : Hid (Below W0.heap.size W0 y0) := HF0.out.b
                      rcases apS_cases Wt x with ⟨t', ht⟩ | ⟨c, ht, hcc⟩
                      · have hE : E = 0 := by rw [HEe.out, ht]
                        have hTt : T = t' := by rw [HTe.out, ht]; rfl
                        subst hTt
                        subst hE
                        obtain ⟨b9, hb9, hbl, hdw⟩ := HDw.out.app ht
                        have hap : mfApp (SVd n ds) n x = (0, SVd n (ds ++ [b9])) := svd_app HNo.out hb9 (by have := HDw.out.ln; have := HEl.out; omega)
                        have HTok : Hid (okSt T) := (apS_ok ht).ok
                        have HDw9 : Hid (Dw (ds ++ [b9]) T (j + 1)) := hdw
                        have hAp := HF0.out.app n _ _ x ⟨HEd.out.parts'.1, HEd.out.parts'.2.r⟩ HSm.out HTb.out
                        rw [hap] at hAp
                        have HAp : Hid (Calls Tryz.prog 22 #[.pointer (some ⟨g0, 0, none⟩), .int .i64 n, .agg #[.slice da DL dc, .slice aa AL ac, .int .i64 x.lo, .int .i64 x.ne, .int .i64 x.ma]] y0 (FtR W0 y0 O (.pointer (some ⟨g0, 0, none⟩)) (0, SVd n (ds ++ [b9])))) := hAp
                        clear hAp ht hap hb9 hbl hdw HTe HEe
                        obtain ⟨e0, e1, e2, e3, e4⟩ := HX0.out
                        go_wp2_with fail
                        refine HAp.out.mono ?_
                        clear HAp e0 e1 e2 e3 e4
                        rintro e y1 ⟨rfl, hf1⟩
                        simp only at hf1 ⊢
                        obtain ⟨O1, hF1, hO1, hN1⟩ := hf1.next
                        have hon := hf1.o
                        have HPA1 : Hid (y1.heap[PA]? = some (.cells #[.slice ta TL tc, .int .i64 T.lo, .int .i64 T.ne, .int .i64 T.ma] 38)) := (hon.block PA hPAy (fun z => by have := (HO.out PA z).2; have := HPAz.out; omega)).trans HA0.out
                        have HP1 : Hid (y1.heap[P]? = some (.cells #[.slice wa WL wc, .int .i64 Wt.lo, .int .i64 Wt.ne, .int .i64 Wt.ma] 38)) := (hon.block P (Array.getElem?_eq_some_iff.1 HP0.out).1 HPO.out).trans HP0.out
                        have HT1 : Hid (UR y1 (.slice ta TL tc) T.ru) := HT0.out.onl hon HTO.out
                        have HPO1 : Hid (¬ O1 P) := fun z => (hN1 P z).elim HPO.out (fun q => by have := (Array.getElem?_eq_some_iff.1 HP0.out).1; omega)
                        have HTO1 : Hid (∀ Q, O1 Q → notP Q (.slice ta TL tc) T.ru) := notP_next HT0.out.r HTO.out hN1
                        have HF1 : Hid (FsT W0 y1 O1 y1 (.pointer (some ⟨g0, 0, none⟩)) (SVd n (ds ++ [b9]))) := hF1
                        have HO1 : Hid (∀ k, O1 k → W0.heap.size ≤ k ∧ k < y1.heap.size) := hO1
                        have HOnT2 : Hid (([.slice ta TL tc, .int .i64 T.lo, .int .i64 T.ne, .int .i64 T.ma] : List Value).toArray.all (·.oneCell') = true) := by unfold Hid; kernel_rfl
                        clear hf1 hF1 hO1 hN1 hon HF0
                        obtain ⟨p0, p1, p2, p3⟩ := four13 HPA1.out
                        go_wp2_with (refine stop_store 38 _ _ rfl ?_)
                        refine Stop.of ?_
                        refine wpList_storeN rfl _ _ _ rfl P 0 [.slice ta TL tc, .int .i64 T.lo, .int .i64 T.ne, .int .i64 T.ma] rfl rfl _ _ HP1.out (by simp) (by kernel_rfl) HOnT2.out ?_
                        intro y2 hy2
                        have HK2 := stW_all hy2 (by simp)
                        have HT2 : Hid (UR y2 (.slice ta TL tc) T.ru) := ⟨HT1.out.r.keepC fun h0 b off n c e => hy2.o b (HTP.out h0 b off n c e), HT1.out.c, HT1.out.z⟩
                        have HF2 : Hid (FsT W0 y2 O1 y2 (.pointer (some ⟨g0, 0, none⟩)) (SVd n (ds ++ [b9]))) := HF1.out.put hy2 HPO1.out hPW
                        have hsz2 : y1.heap.size ≤ y2.heap.size := (hy2.b P (Nat.le_refl _)).size
                        have HO2 : Hid (∀ k, O1 k → W0.heap.size ≤ k ∧ k < y2.heap.size) := fun k hk => ⟨(HO1.out k hk).1, by have := (HO1.out k hk).2; omega⟩
                        clear hy2 p0 p1 p2 p3
                        go_wp2_with fail
                        go_roundw
                        case rel => exact ⟨j + 1, TL, tc, ta, T, ds ++ [b9], O1, by go_num, by omega, HTL, HT2, HK2, HTok, HDw9, HF2, HO2, HPO1, ⟨HTP.out, HTO1.out⟩⟩
                        case measure => simp [intOf]; omega
                      · have hE : E = c := by rw [HEe.out, ht]
                        have hc0 : ¬ E = 0 := by omega
                        have hc' : (E != 0) = true := by simpa using hc0
                        have HO0 : Hid (∀ k, O k → W0.heap.size ≤ k ∧ k < y0.heap.size) := fun k hk => ⟨(HO.out k hk).1, by have := (HO.out k hk).2; have := HBd0.out.size; omega⟩
                        have HDw9 : Hid (Dw ds Wt (j + 1)) := HDw.out.on (by omega)
                        clear hE ht hc0 HEe HTe
                        go_wp2_with fail
                        go_roundw
                        case rel => exact ⟨j + 1, WL, wc, wa, Wt, ds, O, by go_num, by omega, HWL, HW0r, HP0, HOkW, HDw9, HF0, HO0, HPO, HNP⟩
                        case measure => simp [intOf]; omega
                    · have HO2 : Hid (P = P) := rfl
                      go_simp
                      obtain ⟨v2, HNv2⟩ := hid_ex (v1.alloc (.cells #[.slice none 0 0, .int .i64 0, .int .i64 0, .int .i64 0] 38))
                      have hbv2 : Below v1.heap.size v1 v2 := by rw [HNv2.out]; exact (Below.refl _ _).alloc (Nat.le_refl _) _
                      have HQv2 : Hid (v2.heap[v1.heap.size]? = some (.cells #[.slice none 0 0, .int .i64 0, .int .i64 0, .int .i64 0] 38)) := by unfold Hid; rw [HNv2.out]; exact heap_alloc_new _ _
                      have HPA : Hid (wr.heap.size ≤ v1.heap.size) := hzv1
                      have HBdv2 : Hid (Below wr.heap.size wr v2) := HBdv1.out.trans (hbv2.mono HBdv1.out.size)
                      have HPv2 : Hid (v2.heap[P]? = some (.cells #[.slice wa WL wc, .int .i64 Wt.lo, .int .i64 Wt.ne, .int .i64 Wt.ma] 38)) := (hbv2.block _ (Array.getElem?_eq_some_iff.1 HPv1.out).1).trans HPv1.out
                      have HXv2 : Hid ((v2.cell? ⟨eb, eo + j * 5, none⟩ = some (.slice da DL dc) ∧ v2.cell? ⟨eb, eo + j * 5 + 1, none⟩ = some (.slice aa AL ac) ∧ v2.cell? ⟨eb, eo + j * 5 + 2, none⟩ = some (.int .i64 x.lo) ∧ v2.cell? ⟨eb, eo + j * 5 + 3, none⟩ = some (.int .i64 x.ne) ∧ v2.cell? ⟨eb, eo + j * 5 + 4, none⟩ = some (.int .i64 x.ma))) := ⟨(hbv2.cell (Nat.lt_of_lt_of_le hebz HBdv1.out.size)).trans HXv1.out.1, (hbv2.cell (Nat.lt_of_lt_of_le hebz HBdv1.out.size)).trans HXv1.out.2.1, (hbv2.cell (Nat.lt_of_lt_of_le hebz HBdv1.out.size)).trans HXv1.out.2.2.1, (hbv2.cell (Nat.lt_of_lt_of_le hebz HBdv1.out.size)).trans HXv1.out.2.2.2.1, (hbv2.cell (Nat.lt_of_lt_of_le hebz HBdv1.out.size)).trans HXv1.out.2.2.2.2⟩
                      have HGv2 : Hid ((v2.cell? ⟨P, 0, none⟩ = some (.slice wa WL wc) ∧ v2.cell? ⟨P, 1, none⟩ = some (.int .i64 Wt.lo) ∧ v2.cell? ⟨P, 2, none⟩ = some (.int .i64 Wt.ne) ∧ v2.cell? ⟨P, 3, none⟩ = some (.int .i64 Wt.ma)) ∧ (v2.cell? ⟨eb, eo + j * 5, none⟩ = some (.slice da DL dc) ∧ v2.cell? ⟨eb, eo + j * 5 + 1, none⟩ = some (.slice aa AL ac) ∧ v2.cell? ⟨eb, eo + j * 5 + 2, none⟩ = some (.int .i64 x.lo) ∧ v2.cell? ⟨eb, eo + j * 5 + 3, none⟩ = some (.int .i64 x.ne) ∧ v2.cell? ⟨eb, eo + j * 5 + 4, none⟩ = some (.int .i64 x.ma))) := ⟨four13 HPv2.out, HXv2.out⟩
                      have HWv2 : Hid (UR v2 (.slice wa WL wc) Wt.ru) := HWv1.out.below hbv2
                      have HEv2 : Hid (EdR v2 (.slice da DL dc) (.slice aa AL ac) x) := HEv1.out.below hbv2
                      have hzv2 : wr.heap.size ≤ v2.heap.size := HBdv2.out.size
                      have HVv2 : Hid (EdR v2 (.slice da DL dc) (.slice ea AL ec) x) := HVv1.out.below hbv2
                      rw [← HNv2.out]
                      clear HNv2 hbv2
                      refine hK.out _ _ ?_ (fun hHeld => ?_)
                      · exact HGv2.out
                      clear hK K
                      refine wpAnyH_ready (rs := [6]) (by kernel_rfl) (by simp) ?_
                      refine AllReadyH.cons (o := _) rfl (fun K hK => ?_) AllReadyH.nil
                      go_simp
                      refine (refApplyF_any _ _ _ Wt x v2 HWv2.out HVv2.out.d HVv2.out.a (by have := HWl.out; omega) (by rw [HAL.out]; have := HALl.out; omega)).mono ?_
                      rintro e v3 ⟨vr, hvr, hur, hbv3, hnr⟩
                      rw [← HTe.out, ← HEe.out] at hvr
                      rw [← HTe.out] at hur hnr
                      obtain ⟨ta, tc, hvr2, _⟩ := hur.r.form
                      rw [HTL.out] at hvr2
                      subst hvr2
                      subst hvr
                      have HBdv3 : Hid (Below wr.heap.size wr v3) := HBdv2.out.trans (hbv3.mono HBdv2.out.size)
                      have HPv3 : Hid (v3.heap[P]? = some (.cells #[.slice wa WL wc, .int .i64 Wt.lo, .int .i64 Wt.ne, .int .i64 Wt.ma] 38)) := (hbv3.block _ (Array.getElem?_eq_some_iff.1 HPv2.out).1).trans HPv2.out
                      have HXv3 : Hid ((v3.cell? ⟨eb, eo + j * 5, none⟩ = some (.slice da DL dc) ∧ v3.cell? ⟨eb, eo + j * 5 + 1, none⟩ = some (.slice aa AL ac) ∧ v3.cell? ⟨eb, eo + j * 5 + 2, none⟩ = some (.int .i64 x.lo) ∧ v3.cell? ⟨eb, eo + j * 5 + 3, none⟩ = some (.int .i64 x.ne) ∧ v3.cell? ⟨eb, eo + j * 5 + 4, none⟩ = some (.int .i64 x.ma))) := ⟨(hbv3.cell (Nat.lt_of_lt_of_le hebz HBdv2.out.size)).trans HXv2.out.1, (hbv3.cell (Nat.lt_of_lt_of_le hebz HBdv2.out.size)).trans HXv2.out.2.1, (hbv3.cell (Nat.lt_of_lt_of_le hebz HBdv2.out.size)).trans HXv2.out.2.2.1, (hbv3.cell (Nat.lt_of_lt_of_le hebz HBdv2.out.size)).trans HXv2.out.2.2.2.1, (hbv3.cell (Nat.lt_of_lt_of_le hebz HBdv2.out.size)).trans HXv2.out.2.2.2.2⟩
                      have HGv3 : Hid ((v3.cell? ⟨P, 0, none⟩ = some (.slice wa WL wc) ∧ v3.cell? ⟨P, 1, none⟩ = some (.int .i64 Wt.lo) ∧ v3.cell? ⟨P, 2, none⟩ = some (.int .i64 Wt.ne) ∧ v3.cell? ⟨P, 3, none⟩ = some (.int .i64 Wt.ma)) ∧ (v3.cell? ⟨eb, eo + j * 5, none⟩ = some (.slice da DL dc) ∧ v3.cell? ⟨eb, eo + j * 5 + 1, none⟩ = some (.slice aa AL ac) ∧ v3.cell? ⟨eb, eo + j * 5 + 2, none⟩ = some (.int .i64 x.lo) ∧ v3.cell? ⟨eb, eo + j * 5 + 3, none⟩ = some (.int .i64 x.ne) ∧ v3.cell? ⟨eb, eo + j * 5 + 4, none⟩ = some (.int .i64 x.ma))) := ⟨four13 HPv3.out, HXv3.out⟩
                      have HWv3 : Hid (UR v3 (.slice wa WL wc) Wt.ru) := HWv2.out.below hbv3
                      have HEv3 : Hid (EdR v3 (.slice da DL dc) (.slice aa AL ac) x) := HEv2.out.below hbv3
                      have hzv3 : wr.heap.size ≤ v3.heap.size := HBdv3.out.size
                      have HTv3 : Hid (UR v3 (.slice ta TL tc) T.ru) := hur
                      have HTP : Hid (notP P (.slice ta TL tc) T.ru) := hnr P (Nat.lt_of_lt_of_le hPz hzv2) HNP.out.1
                      have HTO : Hid (∀ Q, O Q → notP Q (.slice ta TL tc) T.ru) := fun Q hQ => hnr Q (Nat.lt_of_lt_of_le (HO.out Q hQ).2 hzv2) (HNP.out.2 Q hQ)
                      have HQv3 : Hid (v3.heap[v1.heap.size]? = some (.cells #[.slice none 0 0, .int .i64 0, .int .i64 0, .int .i64 0] 38)) := (hbv3.block _ (Array.getElem?_eq_some_iff.1 HQv2.out).1).trans HQv2.out
                      have HTA : Hid (notP (v1.heap.size) (.slice ta TL tc) T.ru) := hnr _ (Array.getElem?_eq_some_iff.1 HQv2.out).1 (notP_low HWr.out.r HPA.out)
                      clear hbv3 hur hnr
                      go_simp
                      refine hK.out _ _ ?_ (fun hHeld => ?_)
                      · exact HGv3.out
                      clear hK K
                      refine wpAnyH_take (i := 7) (v := .tuple #[.agg #[.slice ta TL tc, .int .i64 T.lo, .int .i64 T.ne, .int .i64 T.ma], .int .i64 E]) rfl (by kernel_rfl) (by kernel_rfl) (by kernel_rfl) (fun _ _ _ h => h) (Or.inl ⟨by rfl, ?_⟩) (by assumption) ?_
                      · (intro w1 hSw; (try dsimp only at hSw); go_simp)
                      simp only [List.getElem_toArray, List.getElem_cons_succ, List.getElem_cons_zero, Act.put, List.setIfInBounds_toArray, List.set_cons_zero, List.set_cons_succ]
                      refine wpAnyH_take (i := 8) (v := .agg #[.slice ta TL tc, .int .i64 T.lo, .int .i64 T.ne, .int .i64 T.ma]) rfl (by kernel_rfl) (by kernel_rfl) (by kernel_rfl) (fun _ _ _ h => h) (Or.inl ⟨by rfl, ?_⟩) (by assumption) ?_
                      · (intro w1 hSw; (try dsimp only at hSw); go_simp)
                      simp only [List.getElem_toArray, List.getElem_cons_succ, List.getElem_cons_zero, Act.put, List.setIfInBounds_toArray, List.set_cons_zero, List.set_cons_succ]
                      refine wpAnyH_take (i := 9) (v := .int .i64 E) rfl (by kernel_rfl) (by kernel_rfl) (by kernel_rfl) (fun _ _ _ h => h) (Or.inl ⟨by rfl, ?_⟩) (by assumption) ?_
                      · (intro w1 hSw; (try dsimp only at hSw); go_simp)
                      simp only [List.getElem_toArray, List.getElem_cons_succ, List.getElem_cons_zero, Act.put, List.setIfInBounds_toArray, List.set_cons_zero, List.set_cons_succ]
                      have HOnT : Hid (([.slice ta TL tc, .int .i64 T.lo, .int .i64 T.ne, .int .i64 T.ma] : List Value).toArray.all (·.oneCell') = true) := by unfold Hid; kernel_rfl
                      refine wpAnyH_ready (rs := [11]) (by kernel_rfl) (by simp) ?_
                      refine AllReadyH.cons (o := _) rfl (fun K hK => ?_) AllReadyH.nil
                      refine wp_storeN _ _ _ rfl (v1.heap.size) 0 [.slice ta TL tc, .int .i64 T.lo, .int .i64 T.ne, .int .i64 T.ma] rfl rfl _ _ HQv3.out (by simp) (by kernel_rfl) HOnT.out (fun y0 hy0 => ?_)
                      have HA0 : Hid (y0.heap[v1.heap.size]? = some (.cells #[.slice ta TL tc, .int .i64 T.lo, .int .i64 T.ne, .int .i64 T.ma] 38)) := stW_all hy0 (by simp)
                      have hot : ∀ k, k ≠ v1.heap.size → y0.heap[k]? = v3.heap[k]? := hy0.o
                      have HBd0 : Hid (Below wr.heap.size wr y0) := HBdv3.out.trans (hy0.b _ HPA.out)
                      have HP0 : Hid (y0.heap[P]? = some (.cells #[.slice wa WL wc, .int .i64 Wt.lo, .int .i64 Wt.ne, .int .i64 Wt.ma] 38)) := (HBd0.out.block _ hPz).trans HPr.out
                      have HX0 : Hid ((y0.cell? ⟨eb, eo + j * 5, none⟩ = some (.slice da DL dc) ∧ y0.cell? ⟨eb, eo + j * 5 + 1, none⟩ = some (.slice aa AL ac) ∧ y0.cell? ⟨eb, eo + j * 5 + 2, none⟩ = some (.int .i64 x.lo) ∧ y0.cell? ⟨eb, eo + j * 5 + 3, none⟩ = some (.int .i64 x.ne) ∧ y0.cell? ⟨eb, eo + j * 5 + 4, none⟩ = some (.int .i64 x.ma))) := ⟨(HBd0.out.cell hebz).trans HXr.out.1, (HBd0.out.cell hebz).trans HXr.out.2.1, (HBd0.out.cell hebz).trans HXr.out.2.2.1, (HBd0.out.cell hebz).trans HXr.out.2.2.2.1, (HBd0.out.cell hebz).trans HXr.out.2.2.2.2⟩
                      have HG0 : Hid ((y0.cell? ⟨P, 0, none⟩ = some (.slice wa WL wc) ∧ y0.cell? ⟨P, 1, none⟩ = some (.int .i64 Wt.lo) ∧ y0.cell? ⟨P, 2, none⟩ = some (.int .i64 Wt.ne) ∧ y0.cell? ⟨P, 3, none⟩ = some (.int .i64 Wt.ma)) ∧ (y0.cell? ⟨eb, eo + j * 5, none⟩ = some (.slice da DL dc) ∧ y0.cell? ⟨eb, eo + j * 5 + 1, none⟩ = some (.slice aa AL ac) ∧ y0.cell? ⟨eb, eo + j * 5 + 2, none⟩ = some (.int .i64 x.lo) ∧ y0.cell? ⟨eb, eo + j * 5 + 3, none⟩ = some (.int .i64 x.ne) ∧ y0.cell? ⟨eb, eo + j * 5 + 4, none⟩ = some (.int .i64 x.ma))) := ⟨four13 HP0.out, HX0.out⟩
                      have HT0 : Hid (UR y0 (.slice ta TL tc) T.ru) := ⟨HTv3.out.r.keepC fun h0 b off n c e => hot b (HTA.out h0 b off n c e), HTv3.out.c, HTv3.out.z⟩
                      have HW0r : Hid (UR y0 (.slice wa WL wc) Wt.ru) := HWr.out.below HBd0.out
                      obtain ⟨PA, HPAe⟩ := hid_ex (v1.heap.size)
                      have HPAz : Hid (wr.heap.size ≤ PA) := by unfold Hid; rw [HPAe.out]; exact HPA.out
                      rw [← HPAe.out] at HA0 ⊢
                      clear hy0 hot
                      refine hK.out _ _ ?_ (fun hHeld => ?_)
                      · exact HG0.out
                      clear hK K
                      refine wpAnyH_ready (rs := [12]) (by kernel_rfl) (by simp) ?_
                      refine AllReadyH.cons (o := _) rfl (fun K hK => ?_) AllReadyH.nil
                      go_simp
                      refine hK.out _ _ ?_ (fun hHeld => ?_)
                      · exact HG0.out
                      clear hK K
                      refine wpAnyH_done (by kernel_rfl) ?_ _
                      refine NoPanic.normal ?_
                      have hPAy : PA < y0.heap.size := (Array.getElem?_eq_some_iff.1 HA0.out).1
                      have HF0 : Hid (FsT W0 y0 O y0 (.pointer (some ⟨g0, 0, none⟩)) (SVd n ds)) := HFr.out.since HBd0.out
                      have HBWy : Hid (Below W0.heap.size W0 y0) := HF0.out.b
                      rcases apS_cases Wt x with ⟨t', ht⟩ | ⟨c, ht, hcc⟩
                      · have hE : E = 0 := by rw [HEe.out, ht]
                        have hTt : T = t' := by rw [HTe.out, ht]; rfl
                        subst hTt
                        subst hE
                        obtain ⟨b9, hb9, hbl, hdw⟩ := HDw.out.app ht
                        have hap : mfApp (SVd n ds) n x = (0, SVd n (ds ++ [b9])) := svd_app HNo.out hb9 (by have := HDw.out.ln; have := HEl.out; omega)
                        have HTok : Hid (okSt T) := (apS_ok ht).ok
                        have HDw9 : Hid (Dw (ds ++ [b9]) T (j + 1)) := hdw
                        have hAp := HF0.out.app n _ _ x ⟨HEd.out.parts'.1, HEd.out.parts'.2.r⟩ HSm.out HTb.out
                        rw [hap] at hAp
                        have HAp : Hid (Calls Tryz.prog 22 #[.pointer (some ⟨g0, 0, none⟩), .int .i64 n, .agg #[.slice da DL dc, .slice aa AL ac, .int .i64 x.lo, .int .i64 x.ne, .int .i64 x.ma]] y0 (FtR W0 y0 O (.pointer (some ⟨g0, 0, none⟩)) (0, SVd n (ds ++ [b9])))) := hAp
                        clear hAp ht hap hb9 hbl hdw HTe HEe
                        obtain ⟨e0, e1, e2, e3, e4⟩ := HX0.out
                        go_wp2_with fail
                        refine HAp.out.mono ?_
                        clear HAp e0 e1 e2 e3 e4
                        rintro e y1 ⟨rfl, hf1⟩
                        simp only at hf1 ⊢
                        obtain ⟨O1, hF1, hO1, hN1⟩ := hf1.next
                        have hon := hf1.o
                        have HPA1 : Hid (y1.heap[PA]? = some (.cells #[.slice ta TL tc, .int .i64 T.lo, .int .i64 T.ne, .int .i64 T.ma] 38)) := (hon.block PA hPAy (fun z => by have := (HO.out PA z).2; have := HPAz.out; omega)).trans HA0.out
                        have HP1 : Hid (y1.heap[P]? = some (.cells #[.slice wa WL wc, .int .i64 Wt.lo, .int .i64 Wt.ne, .int .i64 Wt.ma] 38)) := (hon.block P (Array.getElem?_eq_some_iff.1 HP0.out).1 HPO.out).trans HP0.out
                        have HT1 : Hid (UR y1 (.slice ta TL tc) T.ru) := HT0.out.onl hon HTO.out
                        have HPO1 : Hid (¬ O1 P) := fun z => (hN1 P z).elim HPO.out (fun q => by have := (Array.getElem?_eq_some_iff.1 HP0.out).1; omega)
                        have HTO1 : Hid (∀ Q, O1 Q → notP Q (.slice ta TL tc) T.ru) := notP_next HT0.out.r HTO.out hN1
                        have HF1 : Hid (FsT W0 y1 O1 y1 (.pointer (some ⟨g0, 0, none⟩)) (SVd n (ds ++ [b9]))) := hF1
                        have HO1 : Hid (∀ k, O1 k → W0.heap.size ≤ k ∧ k < y1.heap.size) := hO1
                        have HOnT2 : Hid (([.slice ta TL tc, .int .i64 T.lo, .int .i64 T.ne, .int .i64 T.ma] : List Value).toArray.all (·.oneCell') = true) := by unfold Hid; kernel_rfl
                        clear hf1 hF1 hO1 hN1 hon HF0
                        obtain ⟨p0, p1, p2, p3⟩ := four13 HPA1.out
                        go_wp2_with (refine stop_store 38 _ _ rfl ?_)
                        refine Stop.of ?_
                        refine wpList_storeN rfl _ _ _ rfl P 0 [.slice ta TL tc, .int .i64 T.lo, .int .i64 T.ne, .int .i64 T.ma] rfl rfl _ _ HP1.out (by simp) (by kernel_rfl) HOnT2.out ?_
                        intro y2 hy2
                        have HK2 := stW_all hy2 (by simp)
                        have HT2 : Hid (UR y2 (.slice ta TL tc) T.ru) := ⟨HT1.out.r.keepC fun h0 b off n c e => hy2.o b (HTP.out h0 b off n c e), HT1.out.c, HT1.out.z⟩
                        have HF2 : Hid (FsT W0 y2 O1 y2 (.pointer (some ⟨g0, 0, none⟩)) (SVd n (ds ++ [b9]))) := HF1.out.put hy2 HPO1.out hPW
                        have hsz2 : y1.heap.size ≤ y2.heap.size := (hy2.b P (Nat.le_refl _)).size
                        have HO2 : Hid (∀ k, O1 k → W0.heap.size ≤ k ∧ k < y2.heap.size) := fun k hk => ⟨(HO1.out k hk).1, by have := (HO1.out k hk).2; omega⟩
                        clear hy2 p0 p1 p2 p3
                        go_wp2_with fail
                        go_roundw
                        case rel => exact ⟨j + 1, TL, tc, ta, T, ds ++ [b9], O1, by go_num, by omega, HTL, HT2, HK2, HTok, HDw9, HF2, HO2, HPO1, ⟨HTP.out, HTO1.out⟩⟩
                        case measure => simp [intOf]; omega
                      · have hE : E = c := by rw [HEe.out, ht]
                        have hc0 : ¬ E = 0 := by omega
                        have hc' : (E != 0) = true := by simpa using hc0
                        have HO0 : Hid (∀ k, O k → W0.heap.size ≤ k ∧ k < y0.heap.size) := fun k hk => ⟨(HO.out k hk).1, by have := (HO.out k hk).2; have := HBd0.out.size; omega⟩
                        have HDw9 : Hid (Dw ds Wt (j + 1)) := HDw.out.on (by omega)
                        clear hE ht hc0 HEe HTe
                        go_wp2_with fail
                        go_roundw
                        case rel => exact ⟨j + 1, WL, wc, wa, Wt, ds, O, by go_num, by omega, HWL, HW0r, HP0, HOkW, HDw9, HF0, HO0, HPO, HNP⟩
                        case measure => simp [intOf]; omega
                  · have HO2 : Hid (P = P) := rfl
                    go_simp
                    obtain ⟨v1, HNv1⟩ := hid_ex (v0.alloc (.cells #[.slice none 0 0, .int .i64 0, .int .i64 0, .int .i64 0] 38))
                    have hbv1 : Below v0.heap.size v0 v1 := by rw [HNv1.out]; exact (Below.refl _ _).alloc (Nat.le_refl _) _
                    have HQv1 : Hid (v1.heap[v0.heap.size]? = some (.cells #[.slice none 0 0, .int .i64 0, .int .i64 0, .int .i64 0] 38)) := by unfold Hid; rw [HNv1.out]; exact heap_alloc_new _ _
                    have HPA : Hid (wr.heap.size ≤ v0.heap.size) := hzv0
                    have HBdv1 : Hid (Below wr.heap.size wr v1) := HBdv0.out.trans (hbv1.mono HBdv0.out.size)
                    have HPv1 : Hid (v1.heap[P]? = some (.cells #[.slice wa WL wc, .int .i64 Wt.lo, .int .i64 Wt.ne, .int .i64 Wt.ma] 38)) := (hbv1.block _ (Array.getElem?_eq_some_iff.1 HPv0.out).1).trans HPv0.out
                    have HXv1 : Hid ((v1.cell? ⟨eb, eo + j * 5, none⟩ = some (.slice da DL dc) ∧ v1.cell? ⟨eb, eo + j * 5 + 1, none⟩ = some (.slice aa AL ac) ∧ v1.cell? ⟨eb, eo + j * 5 + 2, none⟩ = some (.int .i64 x.lo) ∧ v1.cell? ⟨eb, eo + j * 5 + 3, none⟩ = some (.int .i64 x.ne) ∧ v1.cell? ⟨eb, eo + j * 5 + 4, none⟩ = some (.int .i64 x.ma))) := ⟨(hbv1.cell (Nat.lt_of_lt_of_le hebz HBdv0.out.size)).trans HXv0.out.1, (hbv1.cell (Nat.lt_of_lt_of_le hebz HBdv0.out.size)).trans HXv0.out.2.1, (hbv1.cell (Nat.lt_of_lt_of_le hebz HBdv0.out.size)).trans HXv0.out.2.2.1, (hbv1.cell (Nat.lt_of_lt_of_le hebz HBdv0.out.size)).trans HXv0.out.2.2.2.1, (hbv1.cell (Nat.lt_of_lt_of_le hebz HBdv0.out.size)).trans HXv0.out.2.2.2.2⟩
                    have HGv1 : Hid ((v1.cell? ⟨P, 0, none⟩ = some (.slice wa WL wc) ∧ v1.cell? ⟨P, 1, none⟩ = some (.int .i64 Wt.lo) ∧ v1.cell? ⟨P, 2, none⟩ = some (.int .i64 Wt.ne) ∧ v1.cell? ⟨P, 3, none⟩ = some (.int .i64 Wt.ma)) ∧ (v1.cell? ⟨eb, eo + j * 5, none⟩ = some (.slice da DL dc) ∧ v1.cell? ⟨eb, eo + j * 5 + 1, none⟩ = some (.slice aa AL ac) ∧ v1.cell? ⟨eb, eo + j * 5 + 2, none⟩ = some (.int .i64 x.lo) ∧ v1.cell? ⟨eb, eo + j * 5 + 3, none⟩ = some (.int .i64 x.ne) ∧ v1.cell? ⟨eb, eo + j * 5 + 4, none⟩ = some (.int .i64 x.ma))) := ⟨four13 HPv1.out, HXv1.out⟩
                    have HWv1 : Hid (UR v1 (.slice wa WL wc) Wt.ru) := HWv0.out.below hbv1
                    have HEv1 : Hid (EdR v1 (.slice da DL dc) (.slice aa AL ac) x) := HEv0.out.below hbv1
                    have hzv1 : wr.heap.size ≤ v1.heap.size := HBdv1.out.size
                    rw [← HNv1.out]
                    clear HNv1 hbv1
                    refine hK.out _ _ ?_ (fun hHeld => ?_)
                    · exact HGv1.out
                    clear hK K
                    refine wpAnyH_ready (rs := [5]) (by kernel_rfl) (by simp) ?_
                    refine AllReadyH.cons (o := _) rfl (fun K hK => ?_) AllReadyH.nil
                    go_simp
                    refine (asEdit_any _ _ x v1 HEv1.out (by rw [HAL.out]; have := HALl.out; omega)).mono ?_
                    rintro e v2 ⟨ve, rfl, he, hbv2⟩
                    have HBdv2 : Hid (Below wr.heap.size wr v2) := HBdv1.out.trans (hbv2.mono HBdv1.out.size)
                    have HPv2 : Hid (v2.heap[P]? = some (.cells #[.slice wa WL wc, .int .i64 Wt.lo, .int .i64 Wt.ne, .int .i64 Wt.ma] 38)) := (hbv2.block _ (Array.getElem?_eq_some_iff.1 HPv1.out).1).trans HPv1.out
                    have HXv2 : Hid ((v2.cell? ⟨eb, eo + j * 5, none⟩ = some (.slice da DL dc) ∧ v2.cell? ⟨eb, eo + j * 5 + 1, none⟩ = some (.slice aa AL ac) ∧ v2.cell? ⟨eb, eo + j * 5 + 2, none⟩ = some (.int .i64 x.lo) ∧ v2.cell? ⟨eb, eo + j * 5 + 3, none⟩ = some (.int .i64 x.ne) ∧ v2.cell? ⟨eb, eo + j * 5 + 4, none⟩ = some (.int .i64 x.ma))) := ⟨(hbv2.cell (Nat.lt_of_lt_of_le hebz HBdv1.out.size)).trans HXv1.out.1, (hbv2.cell (Nat.lt_of_lt_of_le hebz HBdv1.out.size)).trans HXv1.out.2.1, (hbv2.cell (Nat.lt_of_lt_of_le hebz HBdv1.out.size)).trans HXv1.out.2.2.1, (hbv2.cell (Nat.lt_of_lt_of_le hebz HBdv1.out.size)).trans HXv1.out.2.2.2.1, (hbv2.cell (Nat.lt_of_lt_of_le hebz HBdv1.out.size)).trans HXv1.out.2.2.2.2⟩
                    have HGv2 : Hid ((v2.cell? ⟨P, 0, none⟩ = some (.slice wa WL wc) ∧ v2.cell? ⟨P, 1, none⟩ = some (.int .i64 Wt.lo) ∧ v2.cell? ⟨P, 2, none⟩ = some (.int .i64 Wt.ne) ∧ v2.cell? ⟨P, 3, none⟩ = some (.int .i64 Wt.ma)) ∧ (v2.cell? ⟨eb, eo + j * 5, none⟩ = some (.slice da DL dc) ∧ v2.cell? ⟨eb, eo + j * 5 + 1, none⟩ = some (.slice aa AL ac) ∧ v2.cell? ⟨eb, eo + j * 5 + 2, none⟩ = some (.int .i64 x.lo) ∧ v2.cell? ⟨eb, eo + j * 5 + 3, none⟩ = some (.int .i64 x.ne) ∧ v2.cell? ⟨eb, eo + j * 5 + 4, none⟩ = some (.int .i64 x.ma))) := ⟨four13 HPv2.out, HXv2.out⟩
                    have HWv2 : Hid (UR v2 (.slice wa WL wc) Wt.ru) := HWv1.out.below hbv2
                    have HEv2 : Hid (EdR v2 (.slice da DL dc) (.slice aa AL ac) x) := HEv1.out.below hbv2
                    have hzv2 : wr.heap.size ≤ v2.heap.size := HBdv2.out.size
                    obtain ⟨ea, ec, hve, _⟩ := he.a.form
                    rw [HAL.out] at hve
                    subst hve
                    have HVv2 : Hid (EdR v2 (.slice da DL dc) (.slice ea AL ec) x) := he
                    clear he
                    have HQv2 : Hid (v2.heap[v0.heap.size]? = some (.cells #[.slice none 0 0, .int .i64 0, .int .i64 0, .int .i64 0] 38)) := (hbv2.block _ (Array.getElem?_eq_some_iff.1 HQv1.out).1).trans HQv1.out
                    clear hbv2
                    go_simp
                    refine hK.out _ _ ?_ (fun hHeld => ?_)
                    · exact HGv2.out
                    clear hK K
                    refine wpAnyH_ready (rs := [6]) (by kernel_rfl) (by simp) ?_
                    refine AllReadyH.cons (o := _) rfl (fun K hK => ?_) AllReadyH.nil
                    go_simp
                    refine (refApplyF_any _ _ _ Wt x v2 HWv2.out HVv2.out.d HVv2.out.a (by have := HWl.out; omega) (by rw [HAL.out]; have := HALl.out; omega)).mono ?_
                    rintro e v3 ⟨vr, hvr, hur, hbv3, hnr⟩
                    rw [← HTe.out, ← HEe.out] at hvr
                    rw [← HTe.out] at hur hnr
                    obtain ⟨ta, tc, hvr2, _⟩ := hur.r.form
                    rw [HTL.out] at hvr2
                    subst hvr2
                    subst hvr
                    have HBdv3 : Hid (Below wr.heap.size wr v3) := HBdv2.out.trans (hbv3.mono HBdv2.out.size)
                    have HPv3 : Hid (v3.heap[P]? = some (.cells #[.slice wa WL wc, .int .i64 Wt.lo, .int .i64 Wt.ne, .int .i64 Wt.ma] 38)) := (hbv3.block _ (Array.getElem?_eq_some_iff.1 HPv2.out).1).trans HPv2.out
                    have HXv3 : Hid ((v3.cell? ⟨eb, eo + j * 5, none⟩ = some (.slice da DL dc) ∧ v3.cell? ⟨eb, eo + j * 5 + 1, none⟩ = some (.slice aa AL ac) ∧ v3.cell? ⟨eb, eo + j * 5 + 2, none⟩ = some (.int .i64 x.lo) ∧ v3.cell? ⟨eb, eo + j * 5 + 3, none⟩ = some (.int .i64 x.ne) ∧ v3.cell? ⟨eb, eo + j * 5 + 4, none⟩ = some (.int .i64 x.ma))) := ⟨(hbv3.cell (Nat.lt_of_lt_of_le hebz HBdv2.out.size)).trans HXv2.out.1, (hbv3.cell (Nat.lt_of_lt_of_le hebz HBdv2.out.size)).trans HXv2.out.2.1, (hbv3.cell (Nat.lt_of_lt_of_le hebz HBdv2.out.size)).trans HXv2.out.2.2.1, (hbv3.cell (Nat.lt_of_lt_of_le hebz HBdv2.out.size)).trans HXv2.out.2.2.2.1, (hbv3.cell (Nat.lt_of_lt_of_le hebz HBdv2.out.size)).trans HXv2.out.2.2.2.2⟩
                    have HGv3 : Hid ((v3.cell? ⟨P, 0, none⟩ = some (.slice wa WL wc) ∧ v3.cell? ⟨P, 1, none⟩ = some (.int .i64 Wt.lo) ∧ v3.cell? ⟨P, 2, none⟩ = some (.int .i64 Wt.ne) ∧ v3.cell? ⟨P, 3, none⟩ = some (.int .i64 Wt.ma)) ∧ (v3.cell? ⟨eb, eo + j * 5, none⟩ = some (.slice da DL dc) ∧ v3.cell? ⟨eb, eo + j * 5 + 1, none⟩ = some (.slice aa AL ac) ∧ v3.cell? ⟨eb, eo + j * 5 + 2, none⟩ = some (.int .i64 x.lo) ∧ v3.cell? ⟨eb, eo + j * 5 + 3, none⟩ = some (.int .i64 x.ne) ∧ v3.cell? ⟨eb, eo + j * 5 + 4, none⟩ = some (.int .i64 x.ma))) := ⟨four13 HPv3.out, HXv3.out⟩
                    have HWv3 : Hid (UR v3 (.slice wa WL wc) Wt.ru) := HWv2.out.below hbv3
                    have HEv3 : Hid (EdR v3 (.slice da DL dc) (.slice aa AL ac) x) := HEv2.out.below hbv3
                    have hzv3 : wr.heap.size ≤ v3.heap.size := HBdv3.out.size
                    have HTv3 : Hid (UR v3 (.slice ta TL tc) T.ru) := hur
                    have HTP : Hid (notP P (.slice ta TL tc) T.ru) := hnr P (Nat.lt_of_lt_of_le hPz hzv2) HNP.out.1
                    have HTO : Hid (∀ Q, O Q → notP Q (.slice ta TL tc) T.ru) := fun Q hQ => hnr Q (Nat.lt_of_lt_of_le (HO.out Q hQ).2 hzv2) (HNP.out.2 Q hQ)
                    have HQv3 : Hid (v3.heap[v0.heap.size]? = some (.cells #[.slice none 0 0, .int .i64 0, .int .i64 0, .int .i64 0] 38)) := (hbv3.block _ (Array.getElem?_eq_some_iff.1 HQv2.out).1).trans HQv2.out
                    have HTA : Hid (notP (v0.heap.size) (.slice ta TL tc) T.ru) := hnr _ (Array.getElem?_eq_some_iff.1 HQv2.out).1 (notP_low HWr.out.r HPA.out)
                    clear hbv3 hur hnr
                    go_simp
                    refine hK.out _ _ ?_ (fun hHeld => ?_)
                    · exact HGv3.out
                    clear hK K
                    refine wpAnyH_take (i := 7) (v := .tuple #[.agg #[.slice ta TL tc, .int .i64 T.lo, .int .i64 T.ne, .int .i64 T.ma], .int .i64 E]) rfl (by kernel_rfl) (by kernel_rfl) (by kernel_rfl) (fun _ _ _ h => h) (Or.inl ⟨by rfl, ?_⟩) (by assumption) ?_
                    · (intro w1 hSw; (try dsimp only at hSw); go_simp)
                    simp only [List.getElem_toArray, List.getElem_cons_succ, List.getElem_cons_zero, Act.put, List.setIfInBounds_toArray, List.set_cons_zero, List.set_cons_succ]
                    refine wpAnyH_take (i := 8) (v := .agg #[.slice ta TL tc, .int .i64 T.lo, .int .i64 T.ne, .int .i64 T.ma]) rfl (by kernel_rfl) (by kernel_rfl) (by kernel_rfl) (fun _ _ _ h => h) (Or.inl ⟨by rfl, ?_⟩) (by assumption) ?_
                    · (intro w1 hSw; (try dsimp only at hSw); go_simp)
                    simp only [List.getElem_toArray, List.getElem_cons_succ, List.getElem_cons_zero, Act.put, List.setIfInBounds_toArray, List.set_cons_zero, List.set_cons_succ]
                    refine wpAnyH_take (i := 9) (v := .int .i64 E) rfl (by kernel_rfl) (by kernel_rfl) (by kernel_rfl) (fun _ _ _ h => h) (Or.inl ⟨by rfl, ?_⟩) (by assumption) ?_
                    · (intro w1 hSw; (try dsimp only at hSw); go_simp)
                    simp only [List.getElem_toArray, List.getElem_cons_succ, List.getElem_cons_zero, Act.put, List.setIfInBounds_toArray, List.set_cons_zero, List.set_cons_succ]
                    have HOnT : Hid (([.slice ta TL tc, .int .i64 T.lo, .int .i64 T.ne, .int .i64 T.ma] : List Value).toArray.all (·.oneCell') = true) := by unfold Hid; kernel_rfl
                    refine wpAnyH_ready (rs := [11]) (by kernel_rfl) (by simp) ?_
                    refine AllReadyH.cons (o := _) rfl (fun K hK => ?_) AllReadyH.nil
                    refine wp_storeN _ _ _ rfl (v0.heap.size) 0 [.slice ta TL tc, .int .i64 T.lo, .int .i64 T.ne, .int .i64 T.ma] rfl rfl _ _ HQv3.out (by simp) (by kernel_rfl) HOnT.out (fun y0 hy0 => ?_)
                    have HA0 : Hid (y0.heap[v0.heap.size]? = some (.cells #[.slice ta TL tc, .int .i64 T.lo, .int .i64 T.ne, .int .i64 T.ma] 38)) := stW_all hy0 (by simp)
                    have hot : ∀ k, k ≠ v0.heap.size → y0.heap[k]? = v3.heap[k]? := hy0.o
                    have HBd0 : Hid (Below wr.heap.size wr y0) := HBdv3.out.trans (hy0.b _ HPA.out)
                    have HP0 : Hid (y0.heap[P]? = some (.cells #[.slice wa WL wc, .int .i64 Wt.lo, .int .i64 Wt.ne, .int .i64 Wt.ma] 38)) := (HBd0.out.block _ hPz).trans HPr.out
                    have HX0 : Hid ((y0.cell? ⟨eb, eo + j * 5, none⟩ = some (.slice da DL dc) ∧ y0.cell? ⟨eb, eo + j * 5 + 1, none⟩ = some (.slice aa AL ac) ∧ y0.cell? ⟨eb, eo + j * 5 + 2, none⟩ = some (.int .i64 x.lo) ∧ y0.cell? ⟨eb, eo + j * 5 + 3, none⟩ = some (.int .i64 x.ne) ∧ y0.cell? ⟨eb, eo + j * 5 + 4, none⟩ = some (.int .i64 x.ma))) := ⟨(HBd0.out.cell hebz).trans HXr.out.1, (HBd0.out.cell hebz).trans HXr.out.2.1, (HBd0.out.cell hebz).trans HXr.out.2.2.1, (HBd0.out.cell hebz).trans HXr.out.2.2.2.1, (HBd0.out.cell hebz).trans HXr.out.2.2.2.2⟩
                    have HG0 : Hid ((y0.cell? ⟨P, 0, none⟩ = some (.slice wa WL wc) ∧ y0.cell? ⟨P, 1, none⟩ = some (.int .i64 Wt.lo) ∧ y0.cell? ⟨P, 2, none⟩ = some (.int .i64 Wt.ne) ∧ y0.cell? ⟨P, 3, none⟩ = some (.int .i64 Wt.ma)) ∧ (y0.cell? ⟨eb, eo + j * 5, none⟩ = some (.slice da DL dc) ∧ y0.cell? ⟨eb, eo + j * 5 + 1, none⟩ = some (.slice aa AL ac) ∧ y0.cell? ⟨eb, eo + j * 5 + 2, none⟩ = some (.int .i64 x.lo) ∧ y0.cell? ⟨eb, eo + j * 5 + 3, none⟩ = some (.int .i64 x.ne) ∧ y0.cell? ⟨eb, eo + j * 5 + 4, none⟩ = some (.int .i64 x.ma))) := ⟨four13 HP0.out, HX0.out⟩
                    have HT0 : Hid (UR y0 (.slice ta TL tc) T.ru) := ⟨HTv3.out.r.keepC fun h0 b off n c e => hot b (HTA.out h0 b off n c e), HTv3.out.c, HTv3.out.z⟩
                    have HW0r : Hid (UR y0 (.slice wa WL wc) Wt.ru) := HWr.out.below HBd0.out
                    obtain ⟨PA, HPAe⟩ := hid_ex (v0.heap.size)
                    have HPAz : Hid (wr.heap.size ≤ PA) := by unfold Hid; rw [HPAe.out]; exact HPA.out
                    rw [← HPAe.out] at HA0 ⊢
                    clear hy0 hot
                    refine hK.out _ _ ?_ (fun hHeld => ?_)
                    · exact HG0.out
                    clear hK K
                    refine wpAnyH_ready (rs := [12]) (by kernel_rfl) (by simp) ?_
                    refine AllReadyH.cons (o := _) rfl (fun K hK => ?_) AllReadyH.nil
                    go_simp
                    refine hK.out _ _ ?_ (fun hHeld => ?_)
                    · exact HG0.out
                    clear hK K
                    refine wpAnyH_done (by kernel_rfl) ?_ _
                    refine NoPanic.normal ?_
                    have hPAy : PA < y0.heap.size := (Array.getElem?_eq_some_iff.1 HA0.out).1
                    have HF0 : Hid (FsT W0 y0 O y0 (.pointer (some ⟨g0, 0, none⟩)) (SVd n ds)) := HFr.out.since HBd0.out
                    have HBWy : Hid (Below W0.heap.size W0 y0) := HF0.out.b
                    rcases apS_cases Wt x with ⟨t', ht⟩ | ⟨c, ht, hcc⟩
                    · have hE : E = 0 := by rw [HEe.out, ht]
                      have hTt : T = t' := by rw [HTe.out, ht]; rfl
                      subst hTt
                      subst hE
                      obtain ⟨b9, hb9, hbl, hdw⟩ := HDw.out.app ht
                      have hap : mfApp (SVd n ds) n x = (0, SVd n (ds ++ [b9])) := svd_app HNo.out hb9 (by have := HDw.out.ln; have := HEl.out; omega)
                      have HTok : Hid (okSt T) := (apS_ok ht).ok
                      have HDw9 : Hid (Dw (ds ++ [b9]) T (j + 1)) := hdw
                      have hAp := HF0.out.app n _ _ x ⟨HEd.out.parts'.1, HEd.out.parts'.2.r⟩ HSm.out HTb.out
                      rw [hap] at hAp
                      have HAp : Hid (Calls Tryz.prog 22 #[.pointer (some ⟨g0, 0, none⟩), .int .i64 n, .agg #[.slice da DL dc, .slice aa AL ac, .int .i64 x.lo, .int .i64 x.ne, .int .i64 x.ma]] y0 (FtR W0 y0 O (.pointer (some ⟨g0, 0, none⟩)) (0, SVd n (ds ++ [b9])))) := hAp
                      clear hAp ht hap hb9 hbl hdw HTe HEe
                      obtain ⟨e0, e1, e2, e3, e4⟩ := HX0.out
                      go_wp2_with fail
                      refine HAp.out.mono ?_
                      clear HAp e0 e1 e2 e3 e4
                      rintro e y1 ⟨rfl, hf1⟩
                      simp only at hf1 ⊢
                      obtain ⟨O1, hF1, hO1, hN1⟩ := hf1.next
                      have hon := hf1.o
                      have HPA1 : Hid (y1.heap[PA]? = some (.cells #[.slice ta TL tc, .int .i64 T.lo, .int .i64 T.ne, .int .i64 T.ma] 38)) := (hon.block PA hPAy (fun z => by have := (HO.out PA z).2; have := HPAz.out; omega)).trans HA0.out
                      have HP1 : Hid (y1.heap[P]? = some (.cells #[.slice wa WL wc, .int .i64 Wt.lo, .int .i64 Wt.ne, .int .i64 Wt.ma] 38)) := (hon.block P (Array.getElem?_eq_some_iff.1 HP0.out).1 HPO.out).trans HP0.out
                      have HT1 : Hid (UR y1 (.slice ta TL tc) T.ru) := HT0.out.onl hon HTO.out
                      have HPO1 : Hid (¬ O1 P) := fun z => (hN1 P z).elim HPO.out (fun q => by have := (Array.getElem?_eq_some_iff.1 HP0.out).1; omega)
                      have HTO1 : Hid (∀ Q, O1 Q → notP Q (.slice ta TL tc) T.ru) := notP_next HT0.out.r HTO.out hN1
                      have HF1 : Hid (FsT W0 y1 O1 y1 (.pointer (some ⟨g0, 0, none⟩)) (SVd n (ds ++ [b9]))) := hF1
                      have HO1 : Hid (∀ k, O1 k → W0.heap.size ≤ k ∧ k < y1.heap.size) := hO1
                      have HOnT2 : Hid (([.slice ta TL tc, .int .i64 T.lo, .int .i64 T.ne, .int .i64 T.ma] : List Value).toArray.all (·.oneCell') = true) := by unfold Hid; kernel_rfl
                      clear hf1 hF1 hO1 hN1 hon HF0
                      obtain ⟨p0, p1, p2, p3⟩ := four13 HPA1.out
                      go_wp2_with (refine stop_store 38 _ _ rfl ?_)
                      refine Stop.of ?_
                      refine wpList_storeN rfl _ _ _ rfl P 0 [.slice ta TL tc, .int .i64 T.lo, .int .i64 T.ne, .int .i64 T.ma] rfl rfl _ _ HP1.out (by simp) (by kernel_rfl) HOnT2.out ?_
                      intro y2 hy2
                      have HK2 := stW_all hy2 (by simp)
                      have HT2 : Hid (UR y2 (.slice ta TL tc) T.ru) := ⟨HT1.out.r.keepC fun h0 b off n c e => hy2.o b (HTP.out h0 b off n c e), HT1.out.c, HT1.out.z⟩
                      have HF2 : Hid (FsT W0 y2 O1 y2 (.pointer (some ⟨g0, 0, none⟩)) (SVd n (ds ++ [b9]))) := HF1.out.put hy2 HPO1.out hPW
                      have hsz2 : y1.heap.size ≤ y2.heap.size := (hy2.b P (Nat.le_refl _)).size
                      have HO2 : Hid (∀ k, O1 k → W0.heap.size ≤ k ∧ k < y2.heap.size) := fun k hk => ⟨(HO1.out k hk).1, by have := (HO1.out k hk).2; omega⟩
                      clear hy2 p0 p1 p2 p3
                      go_wp2_with fail
                      go_roundw
                      case rel => exact ⟨j + 1, TL, tc, ta, T, ds ++ [b9], O1, by go_num, by omega, HTL, HT2, HK2, HTok, HDw9, HF2, HO2, HPO1, ⟨HTP.out, HTO1.out⟩⟩
                      case measure => simp [intOf]; omega
                    · have hE : E = c := by rw [HEe.out, ht]
                      have hc0 : ¬ E = 0 := by omega
                      have hc' : (E != 0) = true := by simpa using hc0
                      have HO0 : Hid (∀ k, O k → W0.heap.size ≤ k ∧ k < y0.heap.size) := fun k hk => ⟨(HO.out k hk).1, by have := (HO.out k hk).2; have := HBd0.out.size; omega⟩
                      have HDw9 : Hid (Dw ds Wt (j + 1)) := HDw.out.on (by omega)
                      clear hE ht hc0 HEe HTe
                      go_wp2_with fail
                      go_roundw
                      case rel => exact ⟨j + 1, WL, wc, wa, Wt, ds, O, by go_num, by omega, HWL, HW0r, HP0, HOkW, HDw9, HF0, HO0, HPO, HNP⟩
                      case measure => simp [intOf]; omega
            · have hlt' : ¬ (j : Int) < (EL : Int) := by omega
              obtain rfl : j = EL := by omega
              have HjE : Hid (j ≤ 12) := HEl.out
              have HLm : Hid ((cat ds).length ≤ 100000) := by unfold Hid; have := HDw.out.ln; have := HjE.out; omega
              have hLd := HFr.out.w.load (svd_len HNo.out HLm.out) HTb.out
              rw [HDw.out.load HNo.out] at hLd
              have HLd : Hid (Calls Tryz.prog 12 #[.pointer (some ⟨g0, 0, none⟩)] wr (LdP (some (Wt, n), 0) wr)) := hLd
              clear hLd
              go_wp2_with fail
              refine HLd.out.mono ?_
              clear HLd
              rintro e x1 ⟨v1, rfl, hu1, hb1⟩
              obtain ⟨ya, yc, hv1, _⟩ := hu1.r.form
              subst hv1
              rw [show ldS ((some (Wt, n), (0 : Int)) : Option (St × Int) × Int) = Wt from rfl] at hu1 ⊢
              rw [show (((some (Wt, n), (0 : Int)) : Option (St × Int) × Int)).2 = 0 from rfl, show ldN ((some (Wt, n), (0 : Int)) : Option (St × Int) × Int) = n from rfl]
              rw [HWL.out] at hu1 ⊢
              have HU1 : Hid (UR x1 (.slice ya WL yc) Wt.ru) := hu1
              have HBd1 : Hid (Below wr.heap.size wr x1) := hb1
              have HOn1 : Hid (([.slice ya WL yc, .int .i64 Wt.lo, .int .i64 Wt.ne, .int .i64 Wt.ma] : List Value).toArray.all (·.oneCell') = true) := by unfold Hid; kernel_rfl
              clear hu1 hb1
              go_wp2_with (refine stop_store 33 _ _ rfl ?_)
              refine Stop.of ?_
              refine wpList_storeN rfl _ _ _ rfl x1.heap.size 0 [.slice ya WL yc, .int .i64 Wt.lo, .int .i64 Wt.ne, .int .i64 Wt.ma] rfl rfl _ _ (heap_alloc_new _ _) (by simp) (by kernel_rfl) HOn1.out ?_
              intro x2 hx2
              obtain ⟨hb2, hq2, hz2⟩ := stW_nw hx2 (by simp)
              obtain ⟨P5, HP5⟩ := hid_ex x1.heap.size
              rw [← HP5.out] at hq2 hz2 ⊢
              have hbd2 : Below wr.heap.size wr x2 := HBd1.out.trans (hb2.mono HBd1.out.size)
              have HFx2 : Hid (FsW W0 x2 (.pointer (some ⟨g0, 0, none⟩)) (SVd n ds)) := HFr.out.w.below hbd2
              have HKx2 : Hid (x2.heap[P5]? = some (.cells #[.slice ya WL yc, .int .i64 Wt.lo, .int .i64 Wt.ne, .int .i64 Wt.ma] 33) ∧ x2.heap[P]? = some (.cells #[.slice wa WL wc, .int .i64 Wt.lo, .int .i64 Wt.ne, .int .i64 Wt.ma] 38)) := ⟨hq2, (hbd2.block _ hPz).trans HPr.out⟩
              have HYx2 : Hid (UR x2 (.slice ya WL yc) Wt.ru) := HU1.out.below hb2
              have HWx2 : Hid (UR x2 (.slice wa WL wc) Wt.ru) := HWr.out.below hbd2
              have HBx2 : Hid (Below W.heap.size W x2) := HBW0.out.trans (HFx2.out.b.mono (by omega))
              clear hx2 hb2 hq2 hbd2 HU1
              have hRd := HFx2.out.read curN (by decide)
              rw [(svd_read n ds).1, (svd_read n ds).2] at hRd
              unfold curN at hRd
              have HRd : Hid (Calls Tryz.prog 23 #[.pointer (some ⟨g0, 0, none⟩), .string ⟨#[99, 117, 114, 114, 101, 110, 116]⟩] x2 _) := hRd
              clear hRd
              go_wp2_with fail
              refine HRd.out.mono ?_
              clear HRd
              rintro e x3 ⟨bv, rfl, hob, hb3⟩
              obtain ⟨ba, bc9, hbv, _⟩ := hob.form
              subst hbv
              obtain ⟨BL, HBL⟩ : ∃ k, Hid ((frm (sh n.toNat)).length = k) := ⟨_, rfl⟩
              have HRbx3 : Hid (Reads x3 (.slice ba BL bc9) (frm (sh n.toNat))) := by unfold Hid; rw [← HBL.out]; exact hob.reads
              rw [HBL.out]
              have HBx3 : Hid (Below W.heap.size W x3) := HBx2.out.trans (hb3.mono HBx2.out.size)
              have HKx3 : Hid (x3.heap[P5]? = some (.cells #[.slice ya WL yc, .int .i64 Wt.lo, .int .i64 Wt.ne, .int .i64 Wt.ma] 33) ∧ x3.heap[P]? = some (.cells #[.slice wa WL wc, .int .i64 Wt.lo, .int .i64 Wt.ne, .int .i64 Wt.ma] 38)) := ⟨(hb3.block _ (Array.getElem?_eq_some_iff.1 HKx2.out.1).1).trans HKx2.out.1, (hb3.block _ (Array.getElem?_eq_some_iff.1 HKx2.out.2).1).trans HKx2.out.2⟩
              have HYx3 : Hid (UR x3 (.slice ya WL yc) Wt.ru) := HYx2.out.below hb3
              have HWx3 : Hid (UR x3 (.slice wa WL wc) Wt.ru) := HWx2.out.below hb3
              have HFx3 : Hid (FsW W0 x3 (.pointer (some ⟨g0, 0, none⟩)) (SVd n ds)) := HFx2.out.below hb3
              clear hob hb3
              have HPl : Hid ((frm (sh n.toNat)).length ≤ 18) := ptB_len HNo.out
              have HFm : Hid (Calls Tryz.prog 24 #[.slice ba BL bc9] x3 _) := refFrame_any _ _ (by have := HPl.out; omega) x3 HRbx3.out
              go_wp2_with fail
              refine HFm.out.mono ?_
              clear HFm
              rintro e x4 ⟨cv, rfl, hoc, hb4⟩
              obtain ⟨ca, cc, hcv, _⟩ := hoc.form
              subst hcv
              have hCl : (frm (frm (sh n.toNat))).length = (frm (sh n.toNat)).length + 8 := frm_len _
              obtain ⟨CL, HCL⟩ : ∃ k, Hid ((frm (frm (sh n.toNat))).length = k) := ⟨_, rfl⟩
              have hCp : 0 < CL ∧ CL ≤ 26 := by rw [← HCL.out]; have := HPl.out; omega
              rw [HCL.out]
              obtain ⟨t0, HT0⟩ := hid_ex x4.drew
              have hbt : Below x3.heap.size x3 t0 := by rw [HT0.out]; exact hb4.drew
              have HBt0 : Hid (Below W.heap.size W t0) := HBx3.out.trans (hbt.mono HBx3.out.size)
              have HKt0 : Hid (t0.heap[P5]? = some (.cells #[.slice ya WL yc, .int .i64 Wt.lo, .int .i64 Wt.ne, .int .i64 Wt.ma] 33) ∧ t0.heap[P]? = some (.cells #[.slice wa WL wc, .int .i64 Wt.lo, .int .i64 Wt.ne, .int .i64 Wt.ma] 38)) := ⟨(hbt.block _ (Array.getElem?_eq_some_iff.1 HKx3.out.1).1).trans HKx3.out.1, (hbt.block _ (Array.getElem?_eq_some_iff.1 HKx3.out.2).1).trans HKx3.out.2⟩
              have HHt0 : Hid ((t0.cell? ⟨P5, 0, none⟩ = some (.slice ya WL yc) ∧ t0.cell? ⟨P5, 1, none⟩ = some (.int .i64 Wt.lo) ∧ t0.cell? ⟨P5, 2, none⟩ = some (.int .i64 Wt.ne) ∧ t0.cell? ⟨P5, 3, none⟩ = some (.int .i64 Wt.ma)) ∧ (t0.cell? ⟨P, 0, none⟩ = some (.slice wa WL wc) ∧ t0.cell? ⟨P, 1, none⟩ = some (.int .i64 Wt.lo) ∧ t0.cell? ⟨P, 2, none⟩ = some (.int .i64 Wt.ne) ∧ t0.cell? ⟨P, 3, none⟩ = some (.int .i64 Wt.ma))) := ⟨four13 HKt0.out.1, four13 HKt0.out.2⟩
              have HYt0 : Hid (UR t0 (.slice ya WL yc) Wt.ru) := HYx3.out.below hbt
              have HWt0 : Hid (UR t0 (.slice wa WL wc) Wt.ru) := HWx3.out.below hbt
              have HRbt0 : Hid (Reads t0 (.slice ba BL bc9) (frm (sh n.toNat))) := HRbx3.out.below hbt
              have HFt0 : Hid (FsW W0 t0 (.pointer (some ⟨g0, 0, none⟩)) (SVd n ds)) := HFx3.out.below hbt
              clear hoc hb4 hbt hCl
              have hCp' : (0 : Int) < (CL : Int) := by omega
              go_wp2_with fail
              refine wp_region_noPanic ?_
              refine wp_region_held_drew (S := fun w' => (w'.cell? ⟨P5, 0, none⟩ = some (.slice ya WL yc) ∧ w'.cell? ⟨P5, 1, none⟩ = some (.int .i64 Wt.lo) ∧ w'.cell? ⟨P5, 2, none⟩ = some (.int .i64 Wt.ne) ∧ w'.cell? ⟨P5, 3, none⟩ = some (.int .i64 Wt.ma)) ∧ (w'.cell? ⟨P, 0, none⟩ = some (.slice wa WL wc) ∧ w'.cell? ⟨P, 1, none⟩ = some (.int .i64 Wt.lo) ∧ w'.cell? ⟨P, 2, none⟩ = some (.int .i64 Wt.ne) ∧ w'.cell? ⟨P, 3, none⟩ = some (.int .i64 Wt.ma))) (by kernel_rfl) ?_ (fun hHeld => ?_)
              · (rw [← HT0.out]; exact HHt0.out)
              rw [← HT0.out]
              clear HT0
              refine wpAnyH_ready (rs := [0]) (by kernel_rfl) (by simp) ?_
              refine AllReadyH.cons (o := _) rfl (fun K hK => ?_) AllReadyH.nil
              go_simp
              refine (alive13_any _).mono ?_
              rintro e t1 ⟨rfl, hb1⟩
              have HBt1 : Hid (Below W.heap.size W t1) := HBt0.out.trans (hb1.mono HBt0.out.size)
              have HKt1 : Hid (t1.heap[P5]? = some (.cells #[.slice ya WL yc, .int .i64 Wt.lo, .int .i64 Wt.ne, .int .i64 Wt.ma] 33) ∧ t1.heap[P]? = some (.cells #[.slice wa WL wc, .int .i64 Wt.lo, .int .i64 Wt.ne, .int .i64 Wt.ma] 38)) := ⟨(hb1.block _ (Array.getElem?_eq_some_iff.1 HKt0.out.1).1).trans HKt0.out.1, (hb1.block _ (Array.getElem?_eq_some_iff.1 HKt0.out.2).1).trans HKt0.out.2⟩
              have HHt1 : Hid ((t1.cell? ⟨P5, 0, none⟩ = some (.slice ya WL yc) ∧ t1.cell? ⟨P5, 1, none⟩ = some (.int .i64 Wt.lo) ∧ t1.cell? ⟨P5, 2, none⟩ = some (.int .i64 Wt.ne) ∧ t1.cell? ⟨P5, 3, none⟩ = some (.int .i64 Wt.ma)) ∧ (t1.cell? ⟨P, 0, none⟩ = some (.slice wa WL wc) ∧ t1.cell? ⟨P, 1, none⟩ = some (.int .i64 Wt.lo) ∧ t1.cell? ⟨P, 2, none⟩ = some (.int .i64 Wt.ne) ∧ t1.cell? ⟨P, 3, none⟩ = some (.int .i64 Wt.ma))) := ⟨four13 HKt1.out.1, four13 HKt1.out.2⟩
              have HYt1 : Hid (UR t1 (.slice ya WL yc) Wt.ru) := HYt0.out.below hb1
              have HWt1 : Hid (UR t1 (.slice wa WL wc) Wt.ru) := HWt0.out.below hb1
              have HRbt1 : Hid (Reads t1 (.slice ba BL bc9) (frm (sh n.toNat))) := HRbt0.out.below hb1
              have HFt1 : Hid (FsW W0 t1 (.pointer (some ⟨g0, 0, none⟩)) (SVd n ds)) := HFt0.out.below hb1
              clear hb1
              go_simp
              refine hK.out _ _ ?_ (fun hHeld => ?_)
              · exact HHt1.out
              clear hK K
              refine wpAnyH_take (i := 1) (v := .bool true) rfl (by kernel_rfl) (by kernel_rfl) (by kernel_rfl) (fun _ _ _ h => h) (Or.inl ⟨by rfl, ?_⟩) (by assumption) ?_
              · (intro w1 hSw; (try dsimp only at hSw); go_simp)
              simp only [List.getElem_toArray, List.getElem_cons_succ, List.getElem_cons_zero, Act.put, List.setIfInBounds_toArray, List.set_cons_zero, List.set_cons_succ]
              refine wpAnyH_take (i := 2) (v := .int .i64 0) rfl (by kernel_rfl) (by kernel_rfl) (by kernel_rfl) (fun _ _ _ h => h) (Or.inl ⟨by rfl, ?_⟩) (by assumption) ?_
              · (intro w1 hSw; (try dsimp only at hSw); go_simp)
              simp only [List.getElem_toArray, List.getElem_cons_succ, List.getElem_cons_zero, Act.put, List.setIfInBounds_toArray, List.set_cons_zero, List.set_cons_succ]
              refine wpAnyH_take (i := 3) (v := .bool true) rfl (by kernel_rfl) (by kernel_rfl) (by kernel_rfl) (fun _ _ _ h => h) (Or.inl ⟨by rfl, ?_⟩) (by assumption) ?_
              · (intro w1 hSw; (try dsimp only at hSw); go_simp)
              simp only [List.getElem_toArray, List.getElem_cons_succ, List.getElem_cons_zero, Act.put, List.setIfInBounds_toArray, List.set_cons_zero, List.set_cons_succ]
              refine wpAnyH_take (i := 4) (v := .bool true) rfl (by kernel_rfl) (by kernel_rfl) (by kernel_rfl) (fun _ _ _ h => h) (Or.inl ⟨by rfl, ?_⟩) (by assumption) ?_
              · (intro w1 hSw; (try dsimp only at hSw); go_simp)
              simp only [List.getElem_toArray, List.getElem_cons_succ, List.getElem_cons_zero, Act.put, List.setIfInBounds_toArray, List.set_cons_zero, List.set_cons_succ]
              refine wpAnyH_take (i := 5) (v := .bool true) rfl (by kernel_rfl) (by kernel_rfl) (by kernel_rfl) (fun _ _ _ h => h) (Or.inl ⟨by rfl, ?_⟩) (by assumption) ?_
              · (intro w1 hSw; (try dsimp only at hSw); go_simp)
              simp only [List.getElem_toArray, List.getElem_cons_succ, List.getElem_cons_zero, Act.put, List.setIfInBounds_toArray, List.set_cons_zero, List.set_cons_succ]
              refine wpAnyH_take (i := 6) (v := .int .i64 n) rfl (by kernel_rfl) (by kernel_rfl) (by kernel_rfl) (fun _ _ _ h => h) (Or.inl ⟨by rfl, ?_⟩) (by assumption) ?_
              · (intro w1 hSw; (try dsimp only at hSw); go_simp)
              simp only [List.getElem_toArray, List.getElem_cons_succ, List.getElem_cons_zero, Act.put, List.setIfInBounds_toArray, List.set_cons_zero, List.set_cons_succ]
              refine wpAnyH_take (i := 7) (v := .int .i64 n) rfl (by kernel_rfl) (by kernel_rfl) (by kernel_rfl) (fun _ _ _ h => h) (Or.inl ⟨by rfl, ?_⟩) (by assumption) ?_
              · (intro w1 hSw; (try dsimp only at hSw); go_simp)
              simp only [List.getElem_toArray, List.getElem_cons_succ, List.getElem_cons_zero, Act.put, List.setIfInBounds_toArray, List.set_cons_zero, List.set_cons_succ]
              refine wpAnyH_take (i := 8) (v := .bool true) rfl (by kernel_rfl) (by kernel_rfl) (by kernel_rfl) (fun _ _ _ h => h) (Or.inl ⟨by rfl, ?_⟩) (by assumption) ?_
              · (intro w1 hSw; (try dsimp only at hSw); go_simp)
              simp only [List.getElem_toArray, List.getElem_cons_succ, List.getElem_cons_zero, Act.put, List.setIfInBounds_toArray, List.set_cons_zero, List.set_cons_succ]
              refine wpAnyH_take (i := 9) (v := .bool true) rfl (by kernel_rfl) (by kernel_rfl) (by kernel_rfl) (fun _ _ _ h => h) (Or.inl ⟨by rfl, ?_⟩) (by assumption) ?_
              · (intro w1 hSw; (try dsimp only at hSw); go_simp)
              simp only [List.getElem_toArray, List.getElem_cons_succ, List.getElem_cons_zero, Act.put, List.setIfInBounds_toArray, List.set_cons_zero, List.set_cons_succ]
              refine wpAnyH_take (i := 10) (v := .bool true) rfl (by kernel_rfl) (by kernel_rfl) (by kernel_rfl) (fun _ _ _ h => h) (Or.inl ⟨by rfl, ?_⟩) (by assumption) ?_
              · (intro w1 hSw; (try dsimp only at hSw); go_simp)
              simp only [List.getElem_toArray, List.getElem_cons_succ, List.getElem_cons_zero, Act.put, List.setIfInBounds_toArray, List.set_cons_zero, List.set_cons_succ]
              refine wpAnyH_take (i := 11) (v := .agg #[.slice ya WL yc, .int .i64 Wt.lo, .int .i64 Wt.ne, .int .i64 Wt.ma]) rfl (by kernel_rfl) (by kernel_rfl) (by kernel_rfl) (fun _ _ _ h => h) (Or.inl ⟨by rfl, ?_⟩) (by assumption) ?_
              · (intro w1 hSw; (try dsimp only at hSw); go_simp)
              simp only [List.getElem_toArray, List.getElem_cons_succ, List.getElem_cons_zero, Act.put, List.setIfInBounds_toArray, List.set_cons_zero, List.set_cons_succ]
              refine wpAnyH_take (i := 13) (v := .agg #[.slice wa WL wc, .int .i64 Wt.lo, .int .i64 Wt.ne, .int .i64 Wt.ma]) rfl (by kernel_rfl) (by kernel_rfl) (by kernel_rfl) (fun _ _ _ h => h) (Or.inl ⟨by rfl, ?_⟩) (by assumption) ?_
              · (intro w1 hSw; (try dsimp only at hSw); go_simp)
              simp only [List.getElem_toArray, List.getElem_cons_succ, List.getElem_cons_zero, Act.put, List.setIfInBounds_toArray, List.set_cons_zero, List.set_cons_succ]
              refine wpAnyH_ready (rs := [12]) (by kernel_rfl) (by simp) ?_
              refine AllReadyH.cons (o := _) rfl (fun K hK => ?_) AllReadyH.nil
              go_simp
              refine (as13_any _ Wt t1 HYt1.out.r (by have := HWl.out; omega)).mono ?_
              rintro e t2 ⟨q2, rfl, hq2, hb2⟩
              have HBt2 : Hid (Below W.heap.size W t2) := HBt1.out.trans (hb2.mono HBt1.out.size)
              have HKt2 : Hid (t2.heap[P5]? = some (.cells #[.slice ya WL yc, .int .i64 Wt.lo, .int .i64 Wt.ne, .int .i64 Wt.ma] 33) ∧ t2.heap[P]? = some (.cells #[.slice wa WL wc, .int .i64 Wt.lo, .int .i64 Wt.ne, .int .i64 Wt.ma] 38)) := ⟨(hb2.block _ (Array.getElem?_eq_some_iff.1 HKt1.out.1).1).trans HKt1.out.1, (hb2.block _ (Array.getElem?_eq_some_iff.1 HKt1.out.2).1).trans HKt1.out.2⟩
              have HHt2 : Hid ((t2.cell? ⟨P5, 0, none⟩ = some (.slice ya WL yc) ∧ t2.cell? ⟨P5, 1, none⟩ = some (.int .i64 Wt.lo) ∧ t2.cell? ⟨P5, 2, none⟩ = some (.int .i64 Wt.ne) ∧ t2.cell? ⟨P5, 3, none⟩ = some (.int .i64 Wt.ma)) ∧ (t2.cell? ⟨P, 0, none⟩ = some (.slice wa WL wc) ∧ t2.cell? ⟨P, 1, none⟩ = some (.int .i64 Wt.lo) ∧ t2.cell? ⟨P, 2, none⟩ = some (.int .i64 Wt.ne) ∧ t2.cell? ⟨P, 3, none⟩ = some (.int .i64 Wt.ma))) := ⟨four13 HKt2.out.1, four13 HKt2.out.2⟩
              have HYt2 : Hid (UR t2 (.slice ya WL yc) Wt.ru) := HYt1.out.below hb2
              have HWt2 : Hid (UR t2 (.slice wa WL wc) Wt.ru) := HWt1.out.below hb2
              have HRbt2 : Hid (Reads t2 (.slice ba BL bc9) (frm (sh n.toNat))) := HRbt1.out.below hb2
              have HFt2 : Hid (FsW W0 t2 (.pointer (some ⟨g0, 0, none⟩)) (SVd n ds)) := HFt1.out.below hb2
              obtain ⟨qa2, qc2, hqv2, _⟩ := hq2.form
              rw [HWL.out] at hqv2
              subst hqv2
              have HQ2t2 : Hid (RuR t2 (.slice qa2 WL qc2) Wt.ru) := hq2
              clear hb2 hq2
              go_simp
              refine hK.out _ _ ?_ (fun hHeld => ?_)
              · exact HHt2.out
              clear hK K
              refine wpAnyH_ready (rs := [14]) (by kernel_rfl) (by simp) ?_
              refine AllReadyH.cons (o := _) rfl (fun K hK => ?_) AllReadyH.nil
              go_simp
              refine (same13_any _ _ Wt.ru Wt.ru Wt.lo Wt.ne Wt.ma Wt.lo Wt.ne Wt.ma t2 HQ2t2.out HWt2.out.r).mono ?_
              rintro e t3 ⟨r, rfl, hr, hb3⟩
              have hr' : r = true := hr ⟨rfl, rfl, rfl, rfl⟩
              subst hr'
              have HBt3 : Hid (Below W.heap.size W t3) := HBt2.out.trans (hb3.mono HBt2.out.size)
              have HKt3 : Hid (t3.heap[P5]? = some (.cells #[.slice ya WL yc, .int .i64 Wt.lo, .int .i64 Wt.ne, .int .i64 Wt.ma] 33) ∧ t3.heap[P]? = some (.cells #[.slice wa WL wc, .int .i64 Wt.lo, .int .i64 Wt.ne, .int .i64 Wt.ma] 38)) := ⟨(hb3.block _ (Array.getElem?_eq_some_iff.1 HKt2.out.1).1).trans HKt2.out.1, (hb3.block _ (Array.getElem?_eq_some_iff.1 HKt2.out.2).1).trans HKt2.out.2⟩
              have HHt3 : Hid ((t3.cell? ⟨P5, 0, none⟩ = some (.slice ya WL yc) ∧ t3.cell? ⟨P5, 1, none⟩ = some (.int .i64 Wt.lo) ∧ t3.cell? ⟨P5, 2, none⟩ = some (.int .i64 Wt.ne) ∧ t3.cell? ⟨P5, 3, none⟩ = some (.int .i64 Wt.ma)) ∧ (t3.cell? ⟨P, 0, none⟩ = some (.slice wa WL wc) ∧ t3.cell? ⟨P, 1, none⟩ = some (.int .i64 Wt.lo) ∧ t3.cell? ⟨P, 2, none⟩ = some (.int .i64 Wt.ne) ∧ t3.cell? ⟨P, 3, none⟩ = some (.int .i64 Wt.ma))) := ⟨four13 HKt3.out.1, four13 HKt3.out.2⟩
              have HYt3 : Hid (UR t3 (.slice ya WL yc) Wt.ru) := HYt2.out.below hb3
              have HWt3 : Hid (UR t3 (.slice wa WL wc) Wt.ru) := HWt2.out.below hb3
              have HRbt3 : Hid (Reads t3 (.slice ba BL bc9) (frm (sh n.toNat))) := HRbt2.out.below hb3
              have HFt3 : Hid (FsW W0 t3 (.pointer (some ⟨g0, 0, none⟩)) (SVd n ds)) := HFt2.out.below hb3
              clear hb3 hr
              go_simp
              refine hK.out _ _ ?_ (fun hHeld => ?_)
              · exact HHt3.out
              clear hK K
              refine wpAnyH_take (i := 15) (v := .bool true) rfl (by kernel_rfl) (by kernel_rfl) (by kernel_rfl) (fun _ _ _ h => h) (Or.inl ⟨by rfl, ?_⟩) (by assumption) ?_
              · (intro w1 hSw; (try dsimp only at hSw); go_simp)
              simp only [List.getElem_toArray, List.getElem_cons_succ, List.getElem_cons_zero, Act.put, List.setIfInBounds_toArray, List.set_cons_zero, List.set_cons_succ]
              refine wpAnyH_take (i := 16) (v := .bool true) rfl (by kernel_rfl) (by kernel_rfl) (by kernel_rfl) (fun _ _ _ h => h) (Or.inl ⟨by rfl, ?_⟩) (by assumption) ?_
              · (intro w1 hSw; (try dsimp only at hSw); go_simp)
              simp only [List.getElem_toArray, List.getElem_cons_succ, List.getElem_cons_zero, Act.put, List.setIfInBounds_toArray, List.set_cons_zero, List.set_cons_succ]
              refine wpAnyH_take (i := 17) (v := .int .i64 0) rfl (by kernel_rfl) (by kernel_rfl) (by kernel_rfl) (fun _ _ _ h => h) (Or.inl ⟨by rfl, ?_⟩) (by assumption) ?_
              · (intro w1 hSw; (try dsimp only at hSw); go_simp)
              simp only [List.getElem_toArray, List.getElem_cons_succ, List.getElem_cons_zero, Act.put, List.setIfInBounds_toArray, List.set_cons_zero, List.set_cons_succ]
              refine wpAnyH_take (i := 18) (v := .bool true) rfl (by kernel_rfl) (by kernel_rfl) (by kernel_rfl) (fun _ _ _ h => h) (Or.inl ⟨by rfl, ?_⟩) (by assumption) ?_
              · (intro w1 hSw; (try dsimp only at hSw); go_simp)
              simp only [List.getElem_toArray, List.getElem_cons_succ, List.getElem_cons_zero, Act.put, List.setIfInBounds_toArray, List.set_cons_zero, List.set_cons_succ]
              refine wpAnyH_take (i := 19) (v := .bool true) rfl (by kernel_rfl) (by kernel_rfl) (by kernel_rfl) (fun _ _ _ h => h) (Or.inl ⟨by rfl, ?_⟩) (by assumption) ?_
              · (intro w1 hSw; (try dsimp only at hSw); go_simp)
              simp only [List.getElem_toArray, List.getElem_cons_succ, List.getElem_cons_zero, Act.put, List.setIfInBounds_toArray, List.set_cons_zero, List.set_cons_succ]
              refine wpAnyH_take (i := 20) (v := .bool true) rfl (by kernel_rfl) (by kernel_rfl) (by kernel_rfl) (fun _ _ _ h => h) (Or.inl ⟨by rfl, ?_⟩) (by assumption) ?_
              · (intro w1 hSw; (try dsimp only at hSw); go_simp)
              simp only [List.getElem_toArray, List.getElem_cons_succ, List.getElem_cons_zero, Act.put, List.setIfInBounds_toArray, List.set_cons_zero, List.set_cons_succ]
              refine wpAnyH_take (i := 21) (v := .slice ba BL bc9) rfl (by kernel_rfl) (by kernel_rfl) (by kernel_rfl) (fun _ _ _ h => h) (Or.inl ⟨by rfl, ?_⟩) (by assumption) ?_
              · (intro w1 hSw; (try dsimp only at hSw); go_simp)
              simp only [List.getElem_toArray, List.getElem_cons_succ, List.getElem_cons_zero, Act.put, List.setIfInBounds_toArray, List.set_cons_zero, List.set_cons_succ]
              refine wpAnyH_take (i := 23) (v := .int .i64 n) rfl (by kernel_rfl) (by kernel_rfl) (by kernel_rfl) (fun _ _ _ h => h) (Or.inl ⟨by rfl, ?_⟩) (by assumption) ?_
              · (intro w1 hSw; (try dsimp only at hSw); go_simp)
              simp only [List.getElem_toArray, List.getElem_cons_succ, List.getElem_cons_zero, Act.put, List.setIfInBounds_toArray, List.set_cons_zero, List.set_cons_succ]
              refine wpAnyH_ready (rs := [22]) (by kernel_rfl) (by simp) ?_
              refine AllReadyH.cons (o := _) rfl (fun K hK => ?_) AllReadyH.nil
              go_simp
              refine (refPointed_any _ _ (by have := HPl.out; omega) t3 HRbt3.out).mono ?_
              rintro e t4 ⟨rfl, hb4⟩
              rw [pt_iff.2 ⟨(isNo_iff.1 HNo.out).1, (isNo_iff.1 HNo.out).2, rfl⟩, Option.getD_some]
              have HBt4 : Hid (Below W.heap.size W t4) := HBt3.out.trans (hb4.mono HBt3.out.size)
              have HKt4 : Hid (t4.heap[P5]? = some (.cells #[.slice ya WL yc, .int .i64 Wt.lo, .int .i64 Wt.ne, .int .i64 Wt.ma] 33) ∧ t4.heap[P]? = some (.cells #[.slice wa WL wc, .int .i64 Wt.lo, .int .i64 Wt.ne, .int .i64 Wt.ma] 38)) := ⟨(hb4.block _ (Array.getElem?_eq_some_iff.1 HKt3.out.1).1).trans HKt3.out.1, (hb4.block _ (Array.getElem?_eq_some_iff.1 HKt3.out.2).1).trans HKt3.out.2⟩
              have HHt4 : Hid ((t4.cell? ⟨P5, 0, none⟩ = some (.slice ya WL yc) ∧ t4.cell? ⟨P5, 1, none⟩ = some (.int .i64 Wt.lo) ∧ t4.cell? ⟨P5, 2, none⟩ = some (.int .i64 Wt.ne) ∧ t4.cell? ⟨P5, 3, none⟩ = some (.int .i64 Wt.ma)) ∧ (t4.cell? ⟨P, 0, none⟩ = some (.slice wa WL wc) ∧ t4.cell? ⟨P, 1, none⟩ = some (.int .i64 Wt.lo) ∧ t4.cell? ⟨P, 2, none⟩ = some (.int .i64 Wt.ne) ∧ t4.cell? ⟨P, 3, none⟩ = some (.int .i64 Wt.ma))) := ⟨four13 HKt4.out.1, four13 HKt4.out.2⟩
              have HYt4 : Hid (UR t4 (.slice ya WL yc) Wt.ru) := HYt3.out.below hb4
              have HWt4 : Hid (UR t4 (.slice wa WL wc) Wt.ru) := HWt3.out.below hb4
              have HRbt4 : Hid (Reads t4 (.slice ba BL bc9) (frm (sh n.toNat))) := HRbt3.out.below hb4
              have HFt4 : Hid (FsW W0 t4 (.pointer (some ⟨g0, 0, none⟩)) (SVd n ds)) := HFt3.out.below hb4
              clear hb4
              go_simp
              refine hK.out _ _ ?_ (fun hHeld => ?_)
              · exact HHt4.out
              clear hK K
              refine wpAnyH_take (i := 24) (v := .bool true) rfl (by kernel_rfl) (by kernel_rfl) (by kernel_rfl) (fun _ _ _ h => h) (Or.inl ⟨by rfl, ?_⟩) (by assumption) ?_
              · (intro w1 hSw; (try dsimp only at hSw); go_simp)
              simp only [List.getElem_toArray, List.getElem_cons_succ, List.getElem_cons_zero, Act.put, List.setIfInBounds_toArray, List.set_cons_zero, List.set_cons_succ]
              refine wpAnyH_take (i := 25) (v := .bool true) rfl (by kernel_rfl) (by kernel_rfl) (by kernel_rfl) (fun _ _ _ h => h) (Or.inl ⟨by rfl, ?_⟩) (by assumption) ?_
              · (intro w1 hSw; (try dsimp only at hSw); go_simp)
              simp only [List.getElem_toArray, List.getElem_cons_succ, List.getElem_cons_zero, Act.put, List.setIfInBounds_toArray, List.set_cons_zero, List.set_cons_succ]
              refine wpAnyH_take (i := 26) (v := .bool true) rfl (by kernel_rfl) (by kernel_rfl) (by kernel_rfl) (fun _ _ _ h => h) (Or.inl ⟨by rfl, ?_⟩) (by assumption) ?_
              · (intro w1 hSw; (try dsimp only at hSw); go_simp)
              simp only [List.getElem_toArray, List.getElem_cons_succ, List.getElem_cons_zero, Act.put, List.setIfInBounds_toArray, List.set_cons_zero, List.set_cons_succ]
              refine wpAnyH_take (i := 27) (v := .slice ca CL cc) rfl (by kernel_rfl) (by kernel_rfl) (by kernel_rfl) (fun _ _ _ h => h) (Or.inl ⟨by rfl, ?_⟩) (by assumption) ?_
              · (intro w1 hSw; (try dsimp only at hSw); go_simp)
              simp only [List.getElem_toArray, List.getElem_cons_succ, List.getElem_cons_zero, Act.put, List.setIfInBounds_toArray, List.set_cons_zero, List.set_cons_succ]
              refine wpAnyH_take (i := 28) (v := .int .i64 (CL : Int)) rfl (by kernel_rfl) (by kernel_rfl) (by kernel_rfl) (fun _ _ _ h => h) (Or.inl ⟨by rfl, ?_⟩) (by assumption) ?_
              · (intro w1 hSw; (try dsimp only at hSw); go_simp)
              simp only [List.getElem_toArray, List.getElem_cons_succ, List.getElem_cons_zero, Act.put, List.setIfInBounds_toArray, List.set_cons_zero, List.set_cons_succ]
              refine wpAnyH_take (i := 29) (v := .bool true) rfl (by kernel_rfl) (by kernel_rfl) (by kernel_rfl) (fun _ _ _ h => h) (Or.inl ⟨by rfl, ?_⟩) (by assumption) ?_
              · (intro w1 hSw; (try dsimp only at hSw); go_simp)
              simp only [List.getElem_toArray, List.getElem_cons_succ, List.getElem_cons_zero, Act.put, List.setIfInBounds_toArray, List.set_cons_zero, List.set_cons_succ]
              refine wpAnyH_take (i := 30) (v := .bool true) rfl (by kernel_rfl) (by kernel_rfl) (by kernel_rfl) (fun _ _ _ h => h) (Or.inl ⟨by rfl, ?_⟩) (by assumption) ?_
              · (intro w1 hSw; (try dsimp only at hSw); go_simp)
              simp only [List.getElem_toArray, List.getElem_cons_succ, List.getElem_cons_zero, Act.put, List.setIfInBounds_toArray, List.set_cons_zero, List.set_cons_succ]
              refine wpAnyH_take (i := 31) (v := .bool true) rfl (by kernel_rfl) (by kernel_rfl) (by kernel_rfl) (fun _ _ _ h => h) (Or.inl ⟨by rfl, ?_⟩) (by assumption) ?_
              · (intro w1 hSw; (try dsimp only at hSw); go_simp)
              simp only [List.getElem_toArray, List.getElem_cons_succ, List.getElem_cons_zero, Act.put, List.setIfInBounds_toArray, List.set_cons_zero, List.set_cons_succ]
              refine wpAnyH_take (i := 32) (v := .pointer (some ⟨g0, 0, none⟩)) rfl (by kernel_rfl) (by kernel_rfl) (by kernel_rfl) (fun _ _ _ h => h) (Or.inl ⟨by rfl, ?_⟩) (by assumption) ?_
              · (intro w1 hSw; (try dsimp only at hSw); go_simp)
              simp only [List.getElem_toArray, List.getElem_cons_succ, List.getElem_cons_zero, Act.put, List.setIfInBounds_toArray, List.set_cons_zero, List.set_cons_succ]
              refine wpAnyH_ready (rs := [33]) (by kernel_rfl) (by simp) ?_
              refine AllReadyH.cons (o := _) rfl (fun K hK => ?_) AllReadyH.nil
              go_simp
              refine HFt4.out.list.mono ?_
              rintro e t5 ⟨la, lc, rfl, hll, hb5⟩
              rw [show (SVd n ds).dir.length = 2 from rfl]
              have HBt5 : Hid (Below W.heap.size W t5) := HBt4.out.trans (hb5.mono HBt4.out.size)
              have HKt5 : Hid (t5.heap[P5]? = some (.cells #[.slice ya WL yc, .int .i64 Wt.lo, .int .i64 Wt.ne, .int .i64 Wt.ma] 33) ∧ t5.heap[P]? = some (.cells #[.slice wa WL wc, .int .i64 Wt.lo, .int .i64 Wt.ne, .int .i64 Wt.ma] 38)) := ⟨(hb5.block _ (Array.getElem?_eq_some_iff.1 HKt4.out.1).1).trans HKt4.out.1, (hb5.block _ (Array.getElem?_eq_some_iff.1 HKt4.out.2).1).trans HKt4.out.2⟩
              have HHt5 : Hid ((t5.cell? ⟨P5, 0, none⟩ = some (.slice ya WL yc) ∧ t5.cell? ⟨P5, 1, none⟩ = some (.int .i64 Wt.lo) ∧ t5.cell? ⟨P5, 2, none⟩ = some (.int .i64 Wt.ne) ∧ t5.cell? ⟨P5, 3, none⟩ = some (.int .i64 Wt.ma)) ∧ (t5.cell? ⟨P, 0, none⟩ = some (.slice wa WL wc) ∧ t5.cell? ⟨P, 1, none⟩ = some (.int .i64 Wt.lo) ∧ t5.cell? ⟨P, 2, none⟩ = some (.int .i64 Wt.ne) ∧ t5.cell? ⟨P, 3, none⟩ = some (.int .i64 Wt.ma))) := ⟨four13 HKt5.out.1, four13 HKt5.out.2⟩
              have HYt5 : Hid (UR t5 (.slice ya WL yc) Wt.ru) := HYt4.out.below hb5
              have HWt5 : Hid (UR t5 (.slice wa WL wc) Wt.ru) := HWt4.out.below hb5
              have HRbt5 : Hid (Reads t5 (.slice ba BL bc9) (frm (sh n.toNat))) := HRbt4.out.below hb5
              have HFt5 : Hid (FsW W0 t5 (.pointer (some ⟨g0, 0, none⟩)) (SVd n ds)) := HFt4.out.below hb5
              clear hb5 hll
              go_simp
              refine hK.out _ _ ?_ (fun hHeld => ?_)
              · exact HHt5.out
              clear hK K
              refine wpAnyH_take (i := 34) (v := .int .i64 2) rfl (by kernel_rfl) (by kernel_rfl) (by kernel_rfl) (fun _ _ _ h => h) (Or.inl ⟨by rfl, ?_⟩) (by assumption) ?_
              · (intro w1 hSw; (try dsimp only at hSw); go_simp)
              simp only [List.getElem_toArray, List.getElem_cons_succ, List.getElem_cons_zero, Act.put, List.setIfInBounds_toArray, List.set_cons_zero, List.set_cons_succ]
              refine wpAnyH_take (i := 35) (v := .bool true) rfl (by kernel_rfl) (by kernel_rfl) (by kernel_rfl) (fun _ _ _ h => h) (Or.inl ⟨by rfl, ?_⟩) (by assumption) ?_
              · (intro w1 hSw; (try dsimp only at hSw); go_simp)
              simp only [List.getElem_toArray, List.getElem_cons_succ, List.getElem_cons_zero, Act.put, List.setIfInBounds_toArray, List.set_cons_zero, List.set_cons_succ]
              refine wpAnyH_take (i := 36) (v := .bool true) rfl (by kernel_rfl) (by kernel_rfl) (by kernel_rfl) (fun _ _ _ h => h) (Or.inl ⟨by rfl, ?_⟩) (by assumption) ?_
              · (intro w1 hSw; (try dsimp only at hSw); go_simp)
              simp only [List.getElem_toArray, List.getElem_cons_succ, List.getElem_cons_zero, Act.put, List.setIfInBounds_toArray, List.set_cons_zero, List.set_cons_succ]
              refine wpAnyH_ready (rs := [37]) (by kernel_rfl) (by simp) ?_
              refine AllReadyH.cons (o := _) rfl (fun K hK => ?_) AllReadyH.nil
              go_simp
              refine hK.out _ _ ?_ (fun hHeld => ?_)
              · exact HHt5.out
              clear hK K
              refine wpAnyH_done (by kernel_rfl) ?_ _
              refine NoPanic.normal ?_
              go_wp2_with fail
              go_ret
              exact ⟨rfl, HBt5.out⟩
      · rw [show decide (okSt s) = false from decide_eq_false hok]
        have hRe : (G, S1) = (1, sfZ 1048576) := by rw [HR.out]; unfold mfSave; rw [if_neg (fun z => hok z.1)]
        simp only [Prod.mk.injEq] at hRe
        obtain ⟨rfl, rfl⟩ := hRe
        clear HR hok
        go_wp2_with fail
        refine (alive13_any w4).mono ?_
        rintro e z1 ⟨rfl, hbz⟩
        have HFz : Hid (FsW W0 z1 (.pointer (some ⟨g0, 0, none⟩)) (sfZ 1048576)) := HF4.out.below hbz
        have HBz : Hid (Below W.heap.size W z1) := HB4.out.trans (hbz.mono HB4.out.size)
        clear hbz
        go_wp2_with fail
        refine HFz.out.list.mono ?_
        rintro e z2 ⟨la, lc, rfl, hll, hbz2⟩
        rw [show (sfZ 1048576).dir.length = 0 from rfl]
        have HBz2 : Hid (Below W.heap.size W z2) := HBz.out.trans (hbz2.mono HBz.out.size)
        clear hbz2 hll
        go_wp2_with fail
        go_ret
        exact ⟨rfl, HBz2.out⟩
end Go.Proofs.YtilbffgpniomcaaGreatDoor
