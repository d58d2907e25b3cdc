/- MEw, joined. -/
import Derived.Test.YtilbffgpniomcaaGreatDoorEE9
import Derived.Test.YtilbffgpniomcaaGreatDoorEE15
import Derived.Test.YtilbffgpniomcaaGreatDoorEE20
import Derived.Test.YtilbffgpniomcaaGreatDoorEE21
import Derived.Test.YtilbffgpniomcaaGreatDoorEE23
/- ManifestEdits' walk (written by mkmew.py). -/
namespace Go.Proofs.YtilbffgpniomcaaGreatDoor
open Go.RowKit Go.Shelf

set_option maxRecDepth 100000 in
set_option maxHeartbeats 8000000 in
theorem edits13_walk (v0 : Value) (s : St) (v1 : Value) (x : Ed) (fl ops : Int) (kv : Value) (ks : List Int) (W : World) (h0 : StI W v0 s) (h1 : EdI W v1 x) (hK : KReads W kv ks) (hfl : fl < 9223372036854775808) (hT : Tb W) :
    Calls Tryz.prog 6 #[v0, v1, .int .i64 fl, .int .i64 ops, kv] W fun e W' => e = .returned (.bool true) ∧ Below W.heap.size W W' := by
  have HSmI : Hid (x.dr.length ≤ 1000000 → x.ad.length ≤ 1000000 → smI x) := h1.sm
  obtain ⟨rv, rfl, hU⟩ := h0.e
  obtain ⟨dv, av, rfl, hD, hA⟩ := h1.e
  obtain ⟨sa, sc, rfl, hm0⟩ := hU.r.form
  obtain ⟨da, dc, rfl, hm1⟩ := hD.form
  obtain ⟨aa, ac, rfl, hm2⟩ := hA.r.form
  obtain ⟨ka, kc, hkv, hm3⟩ : ∃ a cap, kv = .slice a ks.length cap ∧ ks.length ≤ maxLen := by obtain ⟨a, cap, e, h, _⟩ := hK; exact ⟨a, cap, e, h⟩
  subst hkv
  unfold maxLen at hm0 hm1 hm2 hm3
  obtain ⟨SL, HSL⟩ : ∃ k, Hid (s.ru.length = k) := ⟨_, rfl⟩
  obtain ⟨DL, HDL⟩ : ∃ k, Hid (x.dr.length = k) := ⟨_, rfl⟩
  obtain ⟨AL, HAL⟩ : ∃ k, Hid (x.ad.length = k) := ⟨_, rfl⟩
  obtain ⟨KL, HKL⟩ : ∃ k, Hid (ks.length = k) := ⟨_, rfl⟩
  rw [HSL.out] at hU hm0 ⊢
  rw [HDL.out] at hD hm1 ⊢
  rw [HAL.out] at hA hm2 ⊢
  rw [HKL.out] at hK hm3 ⊢
  obtain ⟨W0, HW0⟩ := hid_ex ((W.alloc (.cells #[.slice sa SL sc, .int .i64 s.lo, .int .i64 s.ne, .int .i64 s.ma] 33)).alloc (.cells #[.slice da DL dc, .slice aa AL ac, .int .i64 x.lo, .int .i64 x.ne, .int .i64 x.ma] 52))
  have HBW0 : Hid (Below W.heap.size W W0) := by unfold Hid; rw [HW0.out]; exact ((Below.refl _ _).alloc (Nat.le_refl _) _).alloc (by simp) _
  have HUW : Hid (UR W0 (.slice sa SL sc) s.ru) := hU.below HBW0.out
  have HEW : Hid (EdR W0 (.slice da DL dc) (.slice aa AL ac) x) := ⟨hD.below HBW0.out, (hA.below HBW0.out).r⟩
  have HAW : Hid (UR W0 (.slice aa AL ac) x.ad) := hA.below HBW0.out
  have HKW : Hid (KReads W0 (.slice ka KL kc) ks) := hK.keepB (fun k _ hl => HBW0.out.block k hl) HBW0.out.size
  have HTW : Hid (Tb W0) := hT.below HBW0.out
  have hzW : W0.heap.size = W.heap.size + 2 := by rw [HW0.out]; simp
  have HSW : Hid (W0.heap[W.heap.size]? = some (.cells #[.slice sa SL sc, .int .i64 s.lo, .int .i64 s.ne, .int .i64 s.ma] 33)) := by unfold Hid; rw [HW0.out]; exact (Below.heap_alloc _ _ _ (by simp)).trans (heap_alloc_new _ _)
  have HXW : Hid (W0.heap[W.heap.size + 1]? = some (.cells #[.slice da DL dc, .slice aa AL ac, .int .i64 x.lo, .int .i64 x.ne, .int .i64 x.ma] 52)) := by
    unfold Hid; rw [HW0.out]
    have e := heap_alloc_new (W.alloc (.cells #[.slice sa SL sc, .int .i64 s.lo, .int .i64 s.ne, .int .i64 s.ma] 33)) (.cells #[.slice da DL dc, .slice aa AL ac, .int .i64 x.lo, .int .i64 x.ne, .int .i64 x.ma] 52)
    rwa [World.size_alloc] at e
  have HFl : Hid (fl < 9223372036854775808) := hfl
  clear h0 h1 hU hD hA hK hT hfl
  go_enter Tryz.func6, Tryz.ntmps6
  go_wp2_with fail
  rw [← HW0.out]
  refine (fsW_new 1048576 W0 W0 (Below.refl _ _) (by decide) (by decide)).mono ?_
  rintro e w1 ⟨p, rfl, hf1⟩
  obtain ⟨g0, rfl⟩ := hf1.ptr
  have HF1 : Hid (FsW W0 w1 (.pointer (some ⟨g0, 0, none⟩)) (sfZ 1048576)) := hf1
  have HB1 : Hid (Below W.heap.size W w1) := HBW0.out.trans (hf1.b.mono (by omega))
  have HS1 : Hid (w1.heap[W.heap.size]? = some (.cells #[.slice sa SL sc, .int .i64 s.lo, .int .i64 s.ne, .int .i64 s.ma] 33)) := (hf1.b.block _ (by omega)).trans HSW.out
  have HX1 : Hid (w1.heap[W.heap.size + 1]? = some (.cells #[.slice da DL dc, .slice aa AL ac, .int .i64 x.lo, .int .i64 x.ne, .int .i64 x.ma] 52)) := (hf1.b.block _ (by omega)).trans HXW.out
  clear hf1 HW0
  obtain ⟨c0, c1, c2, c3⟩ := four13 HS1.out
  obtain ⟨e0, e1, e2, e3, e4⟩ := five HX1.out
  by_cases g1 : 100 < SL
  · have g1' : (100 : Int) < (SL : Int) := by omega
    go_wp2_with fail
    refine (alive13_any w1).mono ?_
    rintro e wz ⟨rfl, hbz⟩
    have HBz : Hid (Below W.heap.size W wz) := HB1.out.trans (hbz.mono HB1.out.size)
    clear hbz
    go_wp2_with fail
    go_ret
    exact ⟨rfl, HBz.out⟩
  · have g1' : ¬ (100 : Int) < (SL : Int) := by omega
    by_cases g2 : 100 < AL
    · have g2' : (100 : Int) < (AL : Int) := by omega
      go_wp2_with fail
      refine (alive13_any w1).mono ?_
      rintro e wz ⟨rfl, hbz⟩
      have HBz : Hid (Below W.heap.size W wz) := HB1.out.trans (hbz.mono HB1.out.size)
      clear hbz
      go_wp2_with fail
      go_ret
      exact ⟨rfl, HBz.out⟩
    · have g2' : ¬ (100 : Int) < (AL : Int) := by omega
      by_cases g3 : 100 < DL
      · have g3' : (100 : Int) < (DL : Int) := by omega
        go_wp2_with fail
        refine (alive13_any w1).mono ?_
        rintro e wz ⟨rfl, hbz⟩
        have HBz : Hid (Below W.heap.size W wz) := HB1.out.trans (hbz.mono HB1.out.size)
        clear hbz
        go_wp2_with fail
        go_ret
        exact ⟨rfl, HBz.out⟩
      · have g3' : ¬ (100 : Int) < (DL : Int) := by omega
        by_cases g4 : 100 < KL
        · have g4' : (100 : Int) < (KL : Int) := by omega
          go_wp2_with fail
          refine (alive13_any w1).mono ?_
          rintro e wz ⟨rfl, hbz⟩
          have HBz : Hid (Below W.heap.size W wz) := HB1.out.trans (hbz.mono HB1.out.size)
          clear hbz
          go_wp2_with fail
          go_ret
          exact ⟨rfl, HBz.out⟩
        · have g4' : ¬ (100 : Int) < (KL : Int) := by omega
          have d4 : decide ((100 : Int) < (KL : Int)) = false := decide_eq_false g4'
          have HSm : Hid (smI x) := HSmI.out (by rw [HDL.out]; omega) (by rw [HAL.out]; omega)
          have HSl : Hid (s.ru.length ≤ 100) := by unfold Hid; rw [HSL.out]; omega
          have HBW1 : Hid (Below W0.heap.size W0 w1) := HF1.out.b
          have hAp := apply13f_any _ _ _ s x w1 (HUW.out.below HBW1.out) (HEW.out.below HBW1.out).d (HAW.out.below HBW1.out) (by rw [HAL.out]; omega)
          have HAp : Hid (Calls Tryz.prog 28 #[.agg #[.slice sa SL sc, .int .i64 s.lo, .int .i64 s.ne, .int .i64 s.ma], .agg #[.slice da DL dc, .slice aa AL ac, .int .i64 x.lo, .int .i64 x.ne, .int .i64 x.ma]] w1 _) := hAp
          clear hAp
          go_wp2_with fail
          refine HAp.out.mono ?_
          clear HAp c0 c1 c2 c3 e0 e1 e2 e3 e4 g1 g1' g2 g2' g3 g3' g4 g4' d4 hm0 hm1 hm2 hm3
          rintro e w2 ⟨tv, rfl, hu2, hb2, hn2⟩
          obtain ⟨ta, tc, htv, _⟩ := hu2.r.form
          subst htv
          obtain ⟨T, HTe⟩ := hid_ex ((apS s x).1.getD stZ)
          obtain ⟨E, HE⟩ := hid_ex (apS s x).2
          rw [← HTe.out] at hu2 hn2 ⊢
          rw [← HE.out]
          obtain ⟨TL, HTL⟩ : ∃ k, Hid (T.ru.length = k) := ⟨_, rfl⟩
          rw [HTL.out] at hu2 hn2 ⊢
          have HU2 : Hid (UR w2 (.slice ta TL tc) T.ru) := hu2
          have HOn : Hid (([.slice ta TL tc, .int .i64 T.lo, .int .i64 T.ne, .int .i64 T.ma] : List Value).toArray.all (·.oneCell') = true) := by unfold Hid; kernel_rfl
          obtain ⟨O, hFT, hO⟩ := HF1.out.t
          have HO : Hid (∀ k, O k → W0.heap.size ≤ k ∧ k < w1.heap.size) := hO
          have HNt : Hid (∀ Q, O Q → notP Q (.slice ta TL tc) T.ru) := fun Q hQ => hn2 Q (hO Q hQ).2 (notP_old HUW.out.r (hO Q hQ).1)
          have hz2 := hb2.size
          have HF2 : Hid (FsT W0 w1 O w1 (.pointer (some ⟨g0, 0, none⟩)) (sfZ 1048576)) := hFT
          have HBd2 : Hid (Below w1.heap.size w1 w2) := hb2
          clear hu2 hn2 hb2 hFT hO HF1
          go_wp2_with (refine stop_store 33 _ _ rfl ?_)
          refine Stop.of ?_
          refine wpList_storeN rfl _ _ _ rfl w2.heap.size 0 [.slice ta TL tc, .int .i64 T.lo, .int .i64 T.ne, .int .i64 T.ma] rfl rfl _ _ (heap_alloc_new _ _) (by simp) (by kernel_rfl) HOn.out ?_
          intro w3 hw3
          obtain ⟨hb3, hx3, hz3⟩ := stW_nw hw3 (by simp)
          obtain ⟨P1, HP1⟩ := hid_ex w2.heap.size
          have HPO : Hid (¬ O P1) := fun z => by have := (HO.out P1 z).2; rw [HP1.out] at this; omega
          rw [← HP1.out] at hx3 hz3 ⊢
          have hb13 : Below w1.heap.size w1 w3 := HBd2.out.trans (hb3.mono hz2)
          have HF3 : Hid (FsT W0 w3 O w3 (.pointer (some ⟨g0, 0, none⟩)) (sfZ 1048576)) := HF2.out.since hb13
          have HB3 : Hid (Below W.heap.size W w3) := HB1.out.trans (hb13.mono HB1.out.size)
          have HT3 : Hid (w3.heap[P1]? = some (.cells #[.slice ta TL tc, .int .i64 T.lo, .int .i64 T.ne, .int .i64 T.ma] 33)) := hx3
          have HU3 : Hid (UR w3 (.slice ta TL tc) T.ru) := HU2.out.below hb3
          have HS3 : Hid (w3.heap[W.heap.size]? = some (.cells #[.slice sa SL sc, .int .i64 s.lo, .int .i64 s.ne, .int .i64 s.ma] 33)) := (hb13.block _ (by have := HBW1.out.size; omega)).trans HS1.out
          clear hw3 hb3 hx3 hb13 HU2 HF2 HBd2 HP1
          obtain ⟨c0, c1, c2, c3⟩ := four13 HS3.out
          have hSv := HF3.out.save 1 _ s HUW.out (by simp [sfZ]) HTW.out
          have HSv : Hid (Calls Tryz.prog 17 #[.pointer (some ⟨g0, 0, none⟩), .int .i64 1, .agg #[.slice sa SL sc, .int .i64 s.lo, .int .i64 s.ne, .int .i64 s.ma]] w3 (FtR W0 w3 O (.pointer (some ⟨g0, 0, none⟩)) (mfSave (sfZ 1048576) 1 s))) := hSv
          clear hSv
          go_wp2_with fail
          refine HSv.out.mono ?_
          clear HSv c0 c1 c2 c3
          rintro e w4 ⟨rfl, hf4⟩
          have HB4 : Hid (Below W.heap.size W w4) := HBW0.out.trans (hf4.b.mono (by omega))
          by_cases hok : okSt s
          · have HOk : Hid (okSt s) := hok
            have hc : (mfSave (sfZ 1048576) 1 s).1 = 0 := by rw [save_zero (by decide) hok no1]
            have hpn : (mfSave (sfZ 1048576) 1 s).2.pend.length < 1000000 := by rw [save_zero (by decide) hok no1]; simp [SV]
            rw [hc]
            have HPn : Hid ((mfSave (sfZ 1048576) 1 s).2.pend.length < 1000000) := hpn
            have HEp : Hid (∀ t, apS s x = (some t, 0) → _) := fun t ht => edits_pure hok ht fl ops ks
            obtain ⟨S1, HS1e⟩ := hid_ex (mfSave (sfZ 1048576) 1 s).2
            rw [← HS1e.out] at hf4 HEp
            have HF4 : Hid (FsT W0 w3 O w4 (.pointer (some ⟨g0, 0, none⟩)) S1) := hf4
            clear hf4 hok hc hpn HF3 HPn
            rcases apS_cases s x with ⟨t, ht⟩ | ⟨c, ht, hc⟩
            · have hE : E = 0 := by rw [HE.out, ht]
              have hTt : T = t := by rw [HTe.out, ht]; rfl
              subst hE
              subst hTt
              have HPu : Hid _ := HEp.out T ht
              have HTl : Hid (T.ru.length ≤ 64) := (apS_ok ht).ok.2.2.2.2.2.1
              clear HEp ht HE HTe
              have HFa : Hid (Calls Tryz.prog 26 #[.pointer (some ⟨g0, 0, none⟩), .int .i64 fl, .int .i64 81] w4 _) := HF4.out.fail fl 81 HFl.out
              go_wp2_with fail
              refine HFa.out.mono ?_
              clear HFa
              rintro e w5 ⟨rfl, hf5⟩
              obtain ⟨S2, HS2e⟩ := hid_ex (sfFail S1 fl 81).2
              rw [← HS2e.out] at hf5 HPu
              have HF5 : Hid (FsT W0 w3 O w5 (.pointer (some ⟨g0, 0, none⟩)) S2) := hf5
              have HX5 : Hid (w5.heap[W.heap.size + 1]? = some (.cells #[.slice da DL dc, .slice aa AL ac, .int .i64 x.lo, .int .i64 x.ne, .int .i64 x.ma] 52)) := (hf5.b.block _ (by omega)).trans HXW.out
              clear hf5 HF4
              obtain ⟨e0, e1, e2, e3, e4⟩ := five HX5.out
              have hAp := HF5.out.app 1 _ _ x HEW.out HSm.out HTW.out
              have HAp : Hid (Calls Tryz.prog 22 #[.pointer (some ⟨g0, 0, none⟩), .int .i64 1, .agg #[.slice da DL dc, .slice aa AL ac, .int .i64 x.lo, .int .i64 x.ne, .int .i64 x.ma]] w5 (FtR W0 w3 O (.pointer (some ⟨g0, 0, none⟩)) (mfApp S2 1 x))) := hAp
              clear hAp
              obtain ⟨FE, HFE⟩ := hid_ex (sfFail S1 fl 81).1
              rw [← HFE.out]
              go_wp2_with fail
              refine HAp.out.mono ?_
              clear HAp e0 e1 e2 e3 e4
              rintro e w6 ⟨rfl, hf6⟩
              obtain ⟨R3, HR3⟩ := hid_ex (mfApp S2 1 x)
              rw [← HR3.out] at hf6 HPu ⊢
              obtain ⟨H, S3⟩ := R3
              simp only at hf6 HPu ⊢
              have HF6 : Hid (FsT W0 w3 O w6 (.pointer (some ⟨g0, 0, none⟩)) S3) := hf6
              clear hf6 HF5
              have HCr : Hid (Calls Tryz.prog 27 #[.pointer (some ⟨g0, 0, none⟩), .int .i64 ops, .slice ka KL kc] w6 _) := HF6.out.crash ops _ ks HKW.out
              go_wp2_with fail
              refine HCr.out.mono ?_
              clear HCr
              rintro e w7 ⟨rfl, hf7⟩
              simp only at hf7 ⊢
              obtain ⟨S4, HS4e⟩ := hid_ex (sfCrash S3 ops ks)
              rw [← HS4e.out] at hf7 HPu
              have HF7 : Hid (FsT W0 w3 O w7 (.pointer (some ⟨g0, 0, none⟩)) S4) := hf7
              have HB7 : Hid (Below W.heap.size W w7) := HBW0.out.trans (hf7.b.mono (by omega))
              have HT7 : Hid (w7.heap[P1]? = some (.cells #[.slice ta TL tc, .int .i64 T.lo, .int .i64 T.ne, .int .i64 T.ma] 33)) := (hf7.o.block P1 hz3 HPO.out).trans HT3.out
              have HU7 : Hid (UR w7 (.slice ta TL tc) T.ru) := HU3.out.onl hf7.o HNt.out
              have HS7 : Hid (w7.heap[W.heap.size]? = some (.cells #[.slice sa SL sc, .int .i64 s.lo, .int .i64 s.ne, .int .i64 s.ma] 33)) := (hf7.b.block _ (by omega)).trans HSW.out
              have HUs7 : Hid (UR w7 (.slice sa SL sc) s.ru) := HUW.out.below hf7.b
              clear hf7 HF6
              have hLd := HF7.out.w.load HPu.out.2 HTW.out
              obtain ⟨R, HR⟩ := hid_ex (mfLd S4)
              rw [← HR.out] at hLd HPu
              have HLd : Hid (Calls Tryz.prog 12 #[.pointer (some ⟨g0, 0, none⟩)] w7 (LdP R w7)) := hLd
              have HRc : Hid (R = (some (s, 1), 0) ∧ H ≠ 0 ∨ R = (some (T, 1), 0)) := HPu.out.1
              clear hLd HPu
              go_wp2_with fail
              refine HLd.out.mono ?_
              clear HLd
              rintro e w8 ⟨v8, rfl, hu8, hb8⟩
              obtain ⟨ya, yc, hv8, _⟩ := hu8.r.form
              subst hv8
              have hR2 : R.2 = 0 ∧ ldN R = 1 := by rcases HRc.out with ⟨e, _⟩ | e <;> rw [e] <;> exact ⟨rfl, rfl⟩
              rw [hR2.1, hR2.2]
              obtain ⟨Y, HYe⟩ := hid_ex (ldS R)
              rw [← HYe.out] at hu8 ⊢
              have HYc : Hid (Y = s ∧ H ≠ 0 ∨ Y = T) := by
                rcases HRc.out with ⟨e, h⟩ | e
                · exact .inl ⟨by rw [HYe.out, e]; rfl, h⟩
                · exact .inr (by rw [HYe.out, e]; rfl)
              have HYl : Hid (Y.ru.length ≤ 100) := by
                rcases HYc.out with ⟨e, _⟩ | e
                · rw [e]; exact HSl.out
                · rw [e]; exact Nat.le_trans HTl.out (by decide)
              obtain ⟨YL, HYL⟩ : ∃ k, Hid (Y.ru.length = k) := ⟨_, rfl⟩
              rw [HYL.out] at hu8 ⊢
              have HU8 : Hid (UR w8 (.slice ya YL yc) Y.ru) := hu8
              have HBd8 : Hid (Below w7.heap.size w7 w8) := hb8
              have HOn8 : Hid (([.slice ya YL yc, .int .i64 Y.lo, .int .i64 Y.ne, .int .i64 Y.ma] : List Value).toArray.all (·.oneCell') = true) := by unfold Hid; kernel_rfl
              clear hu8 hb8 hR2 HYe HR HRc
              go_wp2_with (refine stop_store 33 _ _ rfl ?_)
              refine Stop.of ?_
              refine wpList_storeN rfl _ _ _ rfl w8.heap.size 0 [.slice ya YL yc, .int .i64 Y.lo, .int .i64 Y.ne, .int .i64 Y.ma] rfl rfl _ _ (heap_alloc_new _ _) (by simp) (by kernel_rfl) HOn8.out ?_
              intro w9 hw9
              obtain ⟨hb9, hx9, hz9⟩ := stW_nw hw9 (by simp)
              obtain ⟨P2, HP2⟩ := hid_ex w8.heap.size
              rw [← HP2.out] at hx9 hz9 ⊢
              obtain ⟨u0, HU0⟩ := hid_ex w9.drew
              have hbu : Below w7.heap.size w7 u0 := by rw [HU0.out]; exact (HBd8.out.trans (hb9.mono HBd8.out.size)).drew
              have hbu8 : Below w8.heap.size w8 u0 := by rw [HU0.out]; exact hb9.drew
              have HBu0 : Hid (Below W.heap.size W u0) := HB7.out.trans (hbu.mono HB7.out.size)
              have HYu0 : Hid (UR u0 (.slice ya YL yc) Y.ru) := HU8.out.below hbu8
              have HSu0 : Hid (UR u0 (.slice sa SL sc) s.ru) := HUs7.out.below hbu
              have HTtu0 : Hid (UR u0 (.slice ta TL tc) T.ru) := HU7.out.below hbu
              have HKBu0 : Hid (u0.heap[P2]? = some (.cells #[.slice ya YL yc, .int .i64 Y.lo, .int .i64 Y.ne, .int .i64 Y.ma] 33) ∧ u0.heap[W.heap.size]? = some (.cells #[.slice sa SL sc, .int .i64 s.lo, .int .i64 s.ne, .int .i64 s.ma] 33) ∧ u0.heap[P1]? = some (.cells #[.slice ta TL tc, .int .i64 T.lo, .int .i64 T.ne, .int .i64 T.ma] 33)) := ⟨by rw [HU0.out]; exact hx9, (hbu.block _ (Array.getElem?_eq_some_iff.1 HS7.out).1).trans HS7.out, (hbu.block _ (Array.getElem?_eq_some_iff.1 HT7.out).1).trans HT7.out⟩
              have HGu0 : Hid ((u0.cell? ⟨P2, 0, none⟩ = some (.slice ya YL yc) ∧ u0.cell? ⟨P2, 1, none⟩ = some (.int .i64 Y.lo) ∧ u0.cell? ⟨P2, 2, none⟩ = some (.int .i64 Y.ne) ∧ u0.cell? ⟨P2, 3, none⟩ = some (.int .i64 Y.ma)) ∧ (u0.cell? ⟨W.heap.size, 0, none⟩ = some (.slice sa SL sc) ∧ u0.cell? ⟨W.heap.size, 1, none⟩ = some (.int .i64 s.lo) ∧ u0.cell? ⟨W.heap.size, 2, none⟩ = some (.int .i64 s.ne) ∧ u0.cell? ⟨W.heap.size, 3, none⟩ = some (.int .i64 s.ma)) ∧ (u0.cell? ⟨P1, 0, none⟩ = some (.slice ta TL tc) ∧ u0.cell? ⟨P1, 1, none⟩ = some (.int .i64 T.lo) ∧ u0.cell? ⟨P1, 2, none⟩ = some (.int .i64 T.ne) ∧ u0.cell? ⟨P1, 3, none⟩ = some (.int .i64 T.ma))) := ⟨four13 HKBu0.out.1, four13 HKBu0.out.2.1, four13 HKBu0.out.2.2⟩
              clear hw9 hb9 hx9 hbu hbu8 HP2
              go_wp2_with fail
              refine wp_region_noPanic ?_
              refine wp_region_held_drew (S := fun w' => (w'.cell? ⟨P2, 0, none⟩ = some (.slice ya YL yc) ∧ w'.cell? ⟨P2, 1, none⟩ = some (.int .i64 Y.lo) ∧ w'.cell? ⟨P2, 2, none⟩ = some (.int .i64 Y.ne) ∧ w'.cell? ⟨P2, 3, none⟩ = some (.int .i64 Y.ma)) ∧ (w'.cell? ⟨W.heap.size, 0, none⟩ = some (.slice sa SL sc) ∧ w'.cell? ⟨W.heap.size, 1, none⟩ = some (.int .i64 s.lo) ∧ w'.cell? ⟨W.heap.size, 2, none⟩ = some (.int .i64 s.ne) ∧ w'.cell? ⟨W.heap.size, 3, none⟩ = some (.int .i64 s.ma)) ∧ (w'.cell? ⟨P1, 0, none⟩ = some (.slice ta TL tc) ∧ w'.cell? ⟨P1, 1, none⟩ = some (.int .i64 T.lo) ∧ w'.cell? ⟨P1, 2, none⟩ = some (.int .i64 T.ne) ∧ w'.cell? ⟨P1, 3, none⟩ = some (.int .i64 T.ma))) (by kernel_rfl) ?_ (fun hHeld => ?_)
              · (rw [← HU0.out]; exact HGu0.out)
              rw [← HU0.out]
              clear HU0
              refine wpAnyH_take (i := 0) (v := .agg #[.slice ya YL yc, .int .i64 Y.lo, .int .i64 Y.ne, .int .i64 Y.ma]) rfl (by kernel_rfl) (by kernel_rfl) (by kernel_rfl) (fun _ _ _ h => h) (Or.inl ⟨by rfl, ?_⟩) (by assumption) ?_
              · (intro w1 hSw; (try dsimp only at hSw); go_simp)
              simp only [List.getElem_toArray, List.getElem_cons_zero, Act.put, List.setIfInBounds_toArray, List.set_cons_zero, List.set_cons_succ]
              refine wpAnyH_take (i := 2) (v := .agg #[.slice sa SL sc, .int .i64 s.lo, .int .i64 s.ne, .int .i64 s.ma]) rfl (by kernel_rfl) (by kernel_rfl) (by kernel_rfl) (fun _ _ _ h => h) (Or.inl ⟨by rfl, ?_⟩) (by assumption) ?_
              · (intro w1 hSw; (try dsimp only at hSw); go_simp)
              simp only [List.getElem_toArray, List.getElem_cons_succ, List.getElem_cons_zero, Act.put, List.setIfInBounds_toArray, List.set_cons_zero, List.set_cons_succ]
              refine wpAnyH_take (i := 5) (v := .agg #[.slice ya YL yc, .int .i64 Y.lo, .int .i64 Y.ne, .int .i64 Y.ma]) rfl (by kernel_rfl) (by kernel_rfl) (by kernel_rfl) (fun _ _ _ h => h) (Or.inl ⟨by rfl, ?_⟩) (by assumption) ?_
              · (intro w1 hSw; (try dsimp only at hSw); go_simp)
              simp only [List.getElem_toArray, List.getElem_cons_succ, List.getElem_cons_zero, Act.put, List.setIfInBounds_toArray, List.set_cons_zero, List.set_cons_succ]
              refine wpAnyH_take (i := 7) (v := .agg #[.slice ta TL tc, .int .i64 T.lo, .int .i64 T.ne, .int .i64 T.ma]) rfl (by kernel_rfl) (by kernel_rfl) (by kernel_rfl) (fun _ _ _ h => h) (Or.inl ⟨by rfl, ?_⟩) (by assumption) ?_
              · (intro w1 hSw; (try dsimp only at hSw); go_simp)
              simp only [List.getElem_toArray, List.getElem_cons_succ, List.getElem_cons_zero, Act.put, List.setIfInBounds_toArray, List.set_cons_zero, List.set_cons_succ]
              refine wpAnyH_ready (rs := [1]) (by kernel_rfl) (by simp) ?_
              refine AllReadyH.cons (o := _) rfl (fun K hK => ?_) AllReadyH.nil
              go_simp
              refine (as13_any _ Y u0 HYu0.out.r (by have := HYl.out; omega)).mono ?_
              rintro e u1 ⟨q1, rfl, hq1, hb1⟩
              have HBu1 : Hid (Below W.heap.size W u1) := HBu0.out.trans (hb1.mono HBu0.out.size)
              have HKBu1 : Hid (u1.heap[P2]? = some (.cells #[.slice ya YL yc, .int .i64 Y.lo, .int .i64 Y.ne, .int .i64 Y.ma] 33) ∧ u1.heap[W.heap.size]? = some (.cells #[.slice sa SL sc, .int .i64 s.lo, .int .i64 s.ne, .int .i64 s.ma] 33) ∧ u1.heap[P1]? = some (.cells #[.slice ta TL tc, .int .i64 T.lo, .int .i64 T.ne, .int .i64 T.ma] 33)) := ⟨(hb1.block _ (Array.getElem?_eq_some_iff.1 HKBu0.out.1).1).trans HKBu0.out.1, (hb1.block _ (Array.getElem?_eq_some_iff.1 HKBu0.out.2.1).1).trans HKBu0.out.2.1, (hb1.block _ (Array.getElem?_eq_some_iff.1 HKBu0.out.2.2).1).trans HKBu0.out.2.2⟩
              have HGu1 : Hid ((u1.cell? ⟨P2, 0, none⟩ = some (.slice ya YL yc) ∧ u1.cell? ⟨P2, 1, none⟩ = some (.int .i64 Y.lo) ∧ u1.cell? ⟨P2, 2, none⟩ = some (.int .i64 Y.ne) ∧ u1.cell? ⟨P2, 3, none⟩ = some (.int .i64 Y.ma)) ∧ (u1.cell? ⟨W.heap.size, 0, none⟩ = some (.slice sa SL sc) ∧ u1.cell? ⟨W.heap.size, 1, none⟩ = some (.int .i64 s.lo) ∧ u1.cell? ⟨W.heap.size, 2, none⟩ = some (.int .i64 s.ne) ∧ u1.cell? ⟨W.heap.size, 3, none⟩ = some (.int .i64 s.ma)) ∧ (u1.cell? ⟨P1, 0, none⟩ = some (.slice ta TL tc) ∧ u1.cell? ⟨P1, 1, none⟩ = some (.int .i64 T.lo) ∧ u1.cell? ⟨P1, 2, none⟩ = some (.int .i64 T.ne) ∧ u1.cell? ⟨P1, 3, none⟩ = some (.int .i64 T.ma))) := ⟨four13 HKBu1.out.1, four13 HKBu1.out.2.1, four13 HKBu1.out.2.2⟩
              have HYu1 : Hid (UR u1 (.slice ya YL yc) Y.ru) := HYu0.out.below hb1
              have HSu1 : Hid (UR u1 (.slice sa SL sc) s.ru) := HSu0.out.below hb1
              have HTtu1 : Hid (UR u1 (.slice ta TL tc) T.ru) := HTtu0.out.below hb1
              obtain ⟨qa1, qc1, hqv1, _⟩ := hq1.form
              rw [HYL.out] at hqv1
              subst hqv1
              have HQ1u1 : Hid (RuR u1 (.slice qa1 YL qc1) Y.ru) := hq1
              clear hb1 hq1
              go_simp
              refine hK.out _ _ ?_ (fun hHeld => ?_)
              · exact HGu1.out
              clear hK K
              refine wpAnyH_ready (rs := [3]) (by kernel_rfl) (by simp) ?_
              refine AllReadyH.cons (o := _) rfl (fun K hK => ?_) AllReadyH.nil
              go_simp
              refine (as13_any _ s u1 HSu1.out.r (by have := HSl.out; omega)).mono ?_
              rintro e u2 ⟨q2, rfl, hq2, hb2⟩
              have HBu2 : Hid (Below W.heap.size W u2) := HBu1.out.trans (hb2.mono HBu1.out.size)
              have HKBu2 : Hid (u2.heap[P2]? = some (.cells #[.slice ya YL yc, .int .i64 Y.lo, .int .i64 Y.ne, .int .i64 Y.ma] 33) ∧ u2.heap[W.heap.size]? = some (.cells #[.slice sa SL sc, .int .i64 s.lo, .int .i64 s.ne, .int .i64 s.ma] 33) ∧ u2.heap[P1]? = some (.cells #[.slice ta TL tc, .int .i64 T.lo, .int .i64 T.ne, .int .i64 T.ma] 33)) := ⟨(hb2.block _ (Array.getElem?_eq_some_iff.1 HKBu1.out.1).1).trans HKBu1.out.1, (hb2.block _ (Array.getElem?_eq_some_iff.1 HKBu1.out.2.1).1).trans HKBu1.out.2.1, (hb2.block _ (Array.getElem?_eq_some_iff.1 HKBu1.out.2.2).1).trans HKBu1.out.2.2⟩
              have HGu2 : Hid ((u2.cell? ⟨P2, 0, none⟩ = some (.slice ya YL yc) ∧ u2.cell? ⟨P2, 1, none⟩ = some (.int .i64 Y.lo) ∧ u2.cell? ⟨P2, 2, none⟩ = some (.int .i64 Y.ne) ∧ u2.cell? ⟨P2, 3, none⟩ = some (.int .i64 Y.ma)) ∧ (u2.cell? ⟨W.heap.size, 0, none⟩ = some (.slice sa SL sc) ∧ u2.cell? ⟨W.heap.size, 1, none⟩ = some (.int .i64 s.lo) ∧ u2.cell? ⟨W.heap.size, 2, none⟩ = some (.int .i64 s.ne) ∧ u2.cell? ⟨W.heap.size, 3, none⟩ = some (.int .i64 s.ma)) ∧ (u2.cell? ⟨P1, 0, none⟩ = some (.slice ta TL tc) ∧ u2.cell? ⟨P1, 1, none⟩ = some (.int .i64 T.lo) ∧ u2.cell? ⟨P1, 2, none⟩ = some (.int .i64 T.ne) ∧ u2.cell? ⟨P1, 3, none⟩ = some (.int .i64 T.ma))) := ⟨four13 HKBu2.out.1, four13 HKBu2.out.2.1, four13 HKBu2.out.2.2⟩
              have HYu2 : Hid (UR u2 (.slice ya YL yc) Y.ru) := HYu1.out.below hb2
              have HSu2 : Hid (UR u2 (.slice sa SL sc) s.ru) := HSu1.out.below hb2
              have HTtu2 : Hid (UR u2 (.slice ta TL tc) T.ru) := HTtu1.out.below hb2
              have HQ1u2 : Hid (RuR u2 (.slice qa1 YL qc1) Y.ru) := HQ1u1.out.below hb2
              obtain ⟨qa2, qc2, hqv2, _⟩ := hq2.form
              rw [HSL.out] at hqv2
              subst hqv2
              have HQ2u2 : Hid (RuR u2 (.slice qa2 SL qc2) s.ru) := hq2
              clear hb2 hq2
              go_simp
              refine hK.out _ _ ?_ (fun hHeld => ?_)
              · exact HGu2.out
              clear hK K
              refine wpAnyH_ready (rs := [4]) (by kernel_rfl) (by simp) ?_
              refine AllReadyH.cons (o := _) rfl (fun K hK => ?_) AllReadyH.nil
              go_simp
              refine (same13_any _ _ Y.ru s.ru Y.lo Y.ne Y.ma s.lo s.ne s.ma u2 HQ1u2.out HQ2u2.out).mono ?_
              rintro e u3 ⟨r1, rfl, hr1, hb3⟩
              have HR1 : Hid (Y = s → r1 = true) := fun e => hr1 (by rw [e]; exact ⟨rfl, rfl, rfl, rfl⟩)
              have HBu3 : Hid (Below W.heap.size W u3) := HBu2.out.trans (hb3.mono HBu2.out.size)
              have HKBu3 : Hid (u3.heap[P2]? = some (.cells #[.slice ya YL yc, .int .i64 Y.lo, .int .i64 Y.ne, .int .i64 Y.ma] 33) ∧ u3.heap[W.heap.size]? = some (.cells #[.slice sa SL sc, .int .i64 s.lo, .int .i64 s.ne, .int .i64 s.ma] 33) ∧ u3.heap[P1]? = some (.cells #[.slice ta TL tc, .int .i64 T.lo, .int .i64 T.ne, .int .i64 T.ma] 33)) := ⟨(hb3.block _ (Array.getElem?_eq_some_iff.1 HKBu2.out.1).1).trans HKBu2.out.1, (hb3.block _ (Array.getElem?_eq_some_iff.1 HKBu2.out.2.1).1).trans HKBu2.out.2.1, (hb3.block _ (Array.getElem?_eq_some_iff.1 HKBu2.out.2.2).1).trans HKBu2.out.2.2⟩
              have HGu3 : Hid ((u3.cell? ⟨P2, 0, none⟩ = some (.slice ya YL yc) ∧ u3.cell? ⟨P2, 1, none⟩ = some (.int .i64 Y.lo) ∧ u3.cell? ⟨P2, 2, none⟩ = some (.int .i64 Y.ne) ∧ u3.cell? ⟨P2, 3, none⟩ = some (.int .i64 Y.ma)) ∧ (u3.cell? ⟨W.heap.size, 0, none⟩ = some (.slice sa SL sc) ∧ u3.cell? ⟨W.heap.size, 1, none⟩ = some (.int .i64 s.lo) ∧ u3.cell? ⟨W.heap.size, 2, none⟩ = some (.int .i64 s.ne) ∧ u3.cell? ⟨W.heap.size, 3, none⟩ = some (.int .i64 s.ma)) ∧ (u3.cell? ⟨P1, 0, none⟩ = some (.slice ta TL tc) ∧ u3.cell? ⟨P1, 1, none⟩ = some (.int .i64 T.lo) ∧ u3.cell? ⟨P1, 2, none⟩ = some (.int .i64 T.ne) ∧ u3.cell? ⟨P1, 3, none⟩ = some (.int .i64 T.ma))) := ⟨four13 HKBu3.out.1, four13 HKBu3.out.2.1, four13 HKBu3.out.2.2⟩
              have HYu3 : Hid (UR u3 (.slice ya YL yc) Y.ru) := HYu2.out.below hb3
              have HSu3 : Hid (UR u3 (.slice sa SL sc) s.ru) := HSu2.out.below hb3
              have HTtu3 : Hid (UR u3 (.slice ta TL tc) T.ru) := HTtu2.out.below hb3
              clear hb3 hr1
              go_simp
              refine hK.out _ _ ?_ (fun hHeld => ?_)
              · exact HGu3.out
              clear hK K
              refine wpAnyH_ready (rs := [6]) (by kernel_rfl) (by simp) ?_
              refine AllReadyH.cons (o := _) rfl (fun K hK => ?_) AllReadyH.nil
              go_simp
              refine (as13_any _ Y u3 HYu3.out.r (by have := HYl.out; omega)).mono ?_
              rintro e u4 ⟨q4, rfl, hq4, hb4⟩
              have HBu4 : Hid (Below W.heap.size W u4) := HBu3.out.trans (hb4.mono HBu3.out.size)
              have HKBu4 : Hid (u4.heap[P2]? = some (.cells #[.slice ya YL yc, .int .i64 Y.lo, .int .i64 Y.ne, .int .i64 Y.ma] 33) ∧ u4.heap[W.heap.size]? = some (.cells #[.slice sa SL sc, .int .i64 s.lo, .int .i64 s.ne, .int .i64 s.ma] 33) ∧ u4.heap[P1]? = some (.cells #[.slice ta TL tc, .int .i64 T.lo, .int .i64 T.ne, .int .i64 T.ma] 33)) := ⟨(hb4.block _ (Array.getElem?_eq_some_iff.1 HKBu3.out.1).1).trans HKBu3.out.1, (hb4.block _ (Array.getElem?_eq_some_iff.1 HKBu3.out.2.1).1).trans HKBu3.out.2.1, (hb4.block _ (Array.getElem?_eq_some_iff.1 HKBu3.out.2.2).1).trans HKBu3.out.2.2⟩
              have HGu4 : Hid ((u4.cell? ⟨P2, 0, none⟩ = some (.slice ya YL yc) ∧ u4.cell? ⟨P2, 1, none⟩ = some (.int .i64 Y.lo) ∧ u4.cell? ⟨P2, 2, none⟩ = some (.int .i64 Y.ne) ∧ u4.cell? ⟨P2, 3, none⟩ = some (.int .i64 Y.ma)) ∧ (u4.cell? ⟨W.heap.size, 0, none⟩ = some (.slice sa SL sc) ∧ u4.cell? ⟨W.heap.size, 1, none⟩ = some (.int .i64 s.lo) ∧ u4.cell? ⟨W.heap.size, 2, none⟩ = some (.int .i64 s.ne) ∧ u4.cell? ⟨W.heap.size, 3, none⟩ = some (.int .i64 s.ma)) ∧ (u4.cell? ⟨P1, 0, none⟩ = some (.slice ta TL tc) ∧ u4.cell? ⟨P1, 1, none⟩ = some (.int .i64 T.lo) ∧ u4.cell? ⟨P1, 2, none⟩ = some (.int .i64 T.ne) ∧ u4.cell? ⟨P1, 3, none⟩ = some (.int .i64 T.ma))) := ⟨four13 HKBu4.out.1, four13 HKBu4.out.2.1, four13 HKBu4.out.2.2⟩
              have HYu4 : Hid (UR u4 (.slice ya YL yc) Y.ru) := HYu3.out.below hb4
              have HSu4 : Hid (UR u4 (.slice sa SL sc) s.ru) := HSu3.out.below hb4
              have HTtu4 : Hid (UR u4 (.slice ta TL tc) T.ru) := HTtu3.out.below hb4
              obtain ⟨qa4, qc4, hqv4, _⟩ := hq4.form
              rw [HYL.out] at hqv4
              subst hqv4
              have HQ4u4 : Hid (RuR u4 (.slice qa4 YL qc4) Y.ru) := hq4
              clear hb4 hq4
              go_simp
              refine hK.out _ _ ?_ (fun hHeld => ?_)
              · exact HGu4.out
              clear hK K
              refine wpAnyH_ready (rs := [8]) (by kernel_rfl) (by simp) ?_
              refine AllReadyH.cons (o := _) rfl (fun K hK => ?_) AllReadyH.nil
              go_simp
              refine (as13_any _ T u4 HTtu4.out.r (by have := HTl.out; omega)).mono ?_
              rintro e u5 ⟨q5, rfl, hq5, hb5⟩
              have HBu5 : Hid (Below W.heap.size W u5) := HBu4.out.trans (hb5.mono HBu4.out.size)
              have HKBu5 : Hid (u5.heap[P2]? = some (.cells #[.slice ya YL yc, .int .i64 Y.lo, .int .i64 Y.ne, .int .i64 Y.ma] 33) ∧ u5.heap[W.heap.size]? = some (.cells #[.slice sa SL sc, .int .i64 s.lo, .int .i64 s.ne, .int .i64 s.ma] 33) ∧ u5.heap[P1]? = some (.cells #[.slice ta TL tc, .int .i64 T.lo, .int .i64 T.ne, .int .i64 T.ma] 33)) := ⟨(hb5.block _ (Array.getElem?_eq_some_iff.1 HKBu4.out.1).1).trans HKBu4.out.1, (hb5.block _ (Array.getElem?_eq_some_iff.1 HKBu4.out.2.1).1).trans HKBu4.out.2.1, (hb5.block _ (Array.getElem?_eq_some_iff.1 HKBu4.out.2.2).1).trans HKBu4.out.2.2⟩
              have HGu5 : Hid ((u5.cell? ⟨P2, 0, none⟩ = some (.slice ya YL yc) ∧ u5.cell? ⟨P2, 1, none⟩ = some (.int .i64 Y.lo) ∧ u5.cell? ⟨P2, 2, none⟩ = some (.int .i64 Y.ne) ∧ u5.cell? ⟨P2, 3, none⟩ = some (.int .i64 Y.ma)) ∧ (u5.cell? ⟨W.heap.size, 0, none⟩ = some (.slice sa SL sc) ∧ u5.cell? ⟨W.heap.size, 1, none⟩ = some (.int .i64 s.lo) ∧ u5.cell? ⟨W.heap.size, 2, none⟩ = some (.int .i64 s.ne) ∧ u5.cell? ⟨W.heap.size, 3, none⟩ = some (.int .i64 s.ma)) ∧ (u5.cell? ⟨P1, 0, none⟩ = some (.slice ta TL tc) ∧ u5.cell? ⟨P1, 1, none⟩ = some (.int .i64 T.lo) ∧ u5.cell? ⟨P1, 2, none⟩ = some (.int .i64 T.ne) ∧ u5.cell? ⟨P1, 3, none⟩ = some (.int .i64 T.ma))) := ⟨four13 HKBu5.out.1, four13 HKBu5.out.2.1, four13 HKBu5.out.2.2⟩
              have HYu5 : Hid (UR u5 (.slice ya YL yc) Y.ru) := HYu4.out.below hb5
              have HSu5 : Hid (UR u5 (.slice sa SL sc) s.ru) := HSu4.out.below hb5
              have HTtu5 : Hid (UR u5 (.slice ta TL tc) T.ru) := HTtu4.out.below hb5
              have HQ4u5 : Hid (RuR u5 (.slice qa4 YL qc4) Y.ru) := HQ4u4.out.below hb5
              obtain ⟨qa5, qc5, hqv5, _⟩ := hq5.form
              rw [HTL.out] at hqv5
              subst hqv5
              have HQ5u5 : Hid (RuR u5 (.slice qa5 TL qc5) T.ru) := hq5
              clear hb5 hq5
              go_simp
              refine hK.out _ _ ?_ (fun hHeld => ?_)
              · exact HGu5.out
              clear hK K
              refine wpAnyH_ready (rs := [9]) (by kernel_rfl) (by simp) ?_
              refine AllReadyH.cons (o := _) rfl (fun K hK => ?_) AllReadyH.nil
              go_simp
              refine (same13_any _ _ Y.ru T.ru Y.lo Y.ne Y.ma T.lo T.ne T.ma u5 HQ4u5.out HQ5u5.out).mono ?_
              rintro e u6 ⟨r2, rfl, hr2, hb6⟩
              have HR2 : Hid (Y = T → r2 = true) := fun e => hr2 (by rw [e]; exact ⟨rfl, rfl, rfl, rfl⟩)
              have HBu6 : Hid (Below W.heap.size W u6) := HBu5.out.trans (hb6.mono HBu5.out.size)
              have HKBu6 : Hid (u6.heap[P2]? = some (.cells #[.slice ya YL yc, .int .i64 Y.lo, .int .i64 Y.ne, .int .i64 Y.ma] 33) ∧ u6.heap[W.heap.size]? = some (.cells #[.slice sa SL sc, .int .i64 s.lo, .int .i64 s.ne, .int .i64 s.ma] 33) ∧ u6.heap[P1]? = some (.cells #[.slice ta TL tc, .int .i64 T.lo, .int .i64 T.ne, .int .i64 T.ma] 33)) := ⟨(hb6.block _ (Array.getElem?_eq_some_iff.1 HKBu5.out.1).1).trans HKBu5.out.1, (hb6.block _ (Array.getElem?_eq_some_iff.1 HKBu5.out.2.1).1).trans HKBu5.out.2.1, (hb6.block _ (Array.getElem?_eq_some_iff.1 HKBu5.out.2.2).1).trans HKBu5.out.2.2⟩
              have HGu6 : Hid ((u6.cell? ⟨P2, 0, none⟩ = some (.slice ya YL yc) ∧ u6.cell? ⟨P2, 1, none⟩ = some (.int .i64 Y.lo) ∧ u6.cell? ⟨P2, 2, none⟩ = some (.int .i64 Y.ne) ∧ u6.cell? ⟨P2, 3, none⟩ = some (.int .i64 Y.ma)) ∧ (u6.cell? ⟨W.heap.size, 0, none⟩ = some (.slice sa SL sc) ∧ u6.cell? ⟨W.heap.size, 1, none⟩ = some (.int .i64 s.lo) ∧ u6.cell? ⟨W.heap.size, 2, none⟩ = some (.int .i64 s.ne) ∧ u6.cell? ⟨W.heap.size, 3, none⟩ = some (.int .i64 s.ma)) ∧ (u6.cell? ⟨P1, 0, none⟩ = some (.slice ta TL tc) ∧ u6.cell? ⟨P1, 1, none⟩ = some (.int .i64 T.lo) ∧ u6.cell? ⟨P1, 2, none⟩ = some (.int .i64 T.ne) ∧ u6.cell? ⟨P1, 3, none⟩ = some (.int .i64 T.ma))) := ⟨four13 HKBu6.out.1, four13 HKBu6.out.2.1, four13 HKBu6.out.2.2⟩
              clear hb6 hr2
              go_simp
              refine hK.out _ _ ?_ (fun hHeld => ?_)
              · exact HGu6.out
              clear hK K
              refine wpAnyH_take (i := 10) (v := .bool r1) rfl (by kernel_rfl) (by kernel_rfl) (by kernel_rfl) (fun _ _ _ h => h) (Or.inl ⟨by rfl, ?_⟩) (by assumption) ?_
              · (intro w1 hSw; (try dsimp only at hSw); go_simp)
              simp only [List.getElem_toArray, List.getElem_cons_succ, List.getElem_cons_zero, Act.put, List.setIfInBounds_toArray, List.set_cons_zero, List.set_cons_succ]
              refine wpAnyH_take (i := 11) (v := .bool r2) rfl (by kernel_rfl) (by kernel_rfl) (by kernel_rfl) (fun _ _ _ h => h) (Or.inl ⟨by rfl, ?_⟩) (by assumption) ?_
              · (intro w1 hSw; (try dsimp only at hSw); go_simp)
              simp only [List.getElem_toArray, List.getElem_cons_succ, List.getElem_cons_zero, Act.put, List.setIfInBounds_toArray, List.set_cons_zero, List.set_cons_succ]
              refine wpAnyH_done (by kernel_rfl) ?_ _
              refine NoPanic.normal ?_
              clear HGu0 HGu1 HGu2 HGu3 HGu4 HGu5 HGu6
              rcases HYc.out with ⟨hy, hH⟩ | hy
              · have h1 := HR1.out hy
                subst h1
                have hH' : (H != 0) = true := by simpa using hH
                go_wp2_with fail
                refine (alive13_any u6).mono ?_
                rintro e wz ⟨rfl, hbz⟩
                have HBz : Hid (Below W.heap.size W wz) := HBu6.out.trans (hbz.mono HBu6.out.size)
                clear hbz
                go_wp2_with fail
                go_ret
                exact ⟨rfl, HBz.out⟩
              · have h2 := HR2.out hy
                subst h2
                by_cases hH : H = 0
                · subst hH
                  cases r1 with
                  | false =>
                    go_wp2_with fail
                    refine (alive13_any u6).mono ?_
                    rintro e wz ⟨rfl, hbz⟩
                    have HBz : Hid (Below W.heap.size W wz) := HBu6.out.trans (hbz.mono HBu6.out.size)
                    clear hbz
                    go_wp2_with fail
                    go_ret
                    exact ⟨rfl, HBz.out⟩
                  | true =>
                    go_wp2_with fail
                    refine (alive13_any u6).mono ?_
                    rintro e wz ⟨rfl, hbz⟩
                    have HBz : Hid (Below W.heap.size W wz) := HBu6.out.trans (hbz.mono HBu6.out.size)
                    clear hbz
                    go_wp2_with fail
                    go_ret
                    exact ⟨rfl, HBz.out⟩
                · have hH' : (H != 0) = true := by simpa using hH
                  cases r1 with
                  | false =>
                    go_wp2_with fail
                    refine (alive13_any u6).mono ?_
                    rintro e wz ⟨rfl, hbz⟩
                    have HBz : Hid (Below W.heap.size W wz) := HBu6.out.trans (hbz.mono HBu6.out.size)
                    clear hbz
                    go_wp2_with fail
                    go_ret
                    exact ⟨rfl, HBz.out⟩
                  | true =>
                    go_wp2_with fail
                    refine (alive13_any u6).mono ?_
                    rintro e wz ⟨rfl, hbz⟩
                    have HBz : Hid (Below W.heap.size W wz) := HBu6.out.trans (hbz.mono HBu6.out.size)
                    clear hbz
                    go_wp2_with fail
                    go_ret
                    exact ⟨rfl, HBz.out⟩
            · have hE : E = c := by rw [HE.out, ht]
              have hc0 : ¬ E = 0 := by omega
              have hc' : (E != 0) = true := by simpa using hc0
              clear HEp hE
              go_wp2_with fail
              refine (alive13_any w4).mono ?_
              rintro e wz ⟨rfl, hbz⟩
              have HBz : Hid (Below W.heap.size W wz) := HB4.out.trans (hbz.mono HB4.out.size)
              clear hbz
              go_wp2_with fail
              go_ret
              exact ⟨rfl, HBz.out⟩
          · have hc : (mfSave (sfZ 1048576) 1 s).1 = 1 := by unfold mfSave; rw [if_neg (fun z => hok z.1)]
            rw [hc]
            clear hf4 hok hc
            go_wp2_with fail
            refine (alive13_any w4).mono ?_
            rintro e wz ⟨rfl, hbz⟩
            have HBz : Hid (Below W.heap.size W wz) := HB4.out.trans (hbz.mono HB4.out.size)
            clear hbz
            go_wp2_with fail
            go_ret
            exact ⟨rfl, HBz.out⟩
end Go.Proofs.YtilbffgpniomcaaGreatDoor
