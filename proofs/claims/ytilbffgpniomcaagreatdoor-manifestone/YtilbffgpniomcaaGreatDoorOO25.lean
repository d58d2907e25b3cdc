/- MOw, joined. -/
import Derived.Test.YtilbffgpniomcaaGreatDoorOO9
import Derived.Test.YtilbffgpniomcaaGreatDoorOO15
import Derived.Test.YtilbffgpniomcaaGreatDoorOO21
import Derived.Test.YtilbffgpniomcaaGreatDoorOO22
import Derived.Test.YtilbffgpniomcaaGreatDoorOO23
import Derived.Test.YtilbffgpniomcaaGreatDoorOO24
/- ManifestOne's walk (written by mkmow.py). -/
namespace Go.Proofs.YtilbffgpniomcaaGreatDoor
open Go.RowKit Go.Shelf

set_option maxRecDepth 100000 in
set_option maxHeartbeats 8000000 in
theorem one13_walk (v0 : Value) (s : St) (v1 : Value) (t : St) (fl ops : Int) (kv : Value) (ks : List Int) (again : Bool) (W : World) (h0 : StI W v0 s) (h1 : StI W v1 t) (hK : KReads W kv ks) (hfl : fl < 9223372036854775808) (hT : Tb W) :
    Calls Tryz.prog 5 #[v0, v1, .int .i64 fl, .int .i64 ops, kv, .bool again] W fun e W' => e = .returned (.bool true) ∧ Below W.heap.size W W' := by
  obtain ⟨rv, rfl, hU⟩ := h0.e
  obtain ⟨qv, rfl, hQ⟩ := h1.e
  obtain ⟨sa, sc, rfl, hm0⟩ := hU.r.form
  obtain ⟨ta, tc, rfl, hm1⟩ := hQ.r.form
  obtain ⟨ka, kc, hkv, hm3⟩ : ∃ a cap, kv = .slice a ks.length cap ∧ ks.length ≤ maxLen := by obtain ⟨a, cap, e, h, _⟩ := hK; exact ⟨a, cap, e, h⟩
  subst hkv
  unfold maxLen at hm0 hm1 hm3
  obtain ⟨SL, HSL⟩ : ∃ k, Hid (s.ru.length = k) := ⟨_, rfl⟩
  obtain ⟨TL, HTL⟩ : ∃ k, Hid (t.ru.length = k) := ⟨_, rfl⟩
  obtain ⟨KL, HKL⟩ : ∃ k, Hid (ks.length = k) := ⟨_, rfl⟩
  rw [HSL.out] at hU hm0 ⊢
  rw [HTL.out] at hQ hm1 ⊢
  rw [HKL.out] at hK hm3 ⊢
  obtain ⟨W0, HW0⟩ := hid_ex ((W.alloc (.cells #[.slice sa SL sc, .int .i64 s.lo, .int .i64 s.ne, .int .i64 s.ma] 33)).alloc (.cells #[.slice ta TL tc, .int .i64 t.lo, .int .i64 t.ne, .int .i64 t.ma] 33))
  have HBW0 : Hid (Below W.heap.size W W0) := by unfold Hid; rw [HW0.out]; exact ((Below.refl _ _).alloc (Nat.le_refl _) _).alloc (by simp) _
  have HUW : Hid (UR W0 (.slice sa SL sc) s.ru) := hU.below HBW0.out
  have HTW : Hid (UR W0 (.slice ta TL tc) t.ru) := hQ.below HBW0.out
  have HKW : Hid (KReads W0 (.slice ka KL kc) ks) := hK.keepB (fun k _ hl => HBW0.out.block k hl) HBW0.out.size
  have HTb : Hid (Tb W0) := hT.below HBW0.out
  have hzW : W0.heap.size = W.heap.size + 2 := by rw [HW0.out]; simp
  have HSW : Hid (W0.heap[W.heap.size]? = some (.cells #[.slice sa SL sc, .int .i64 s.lo, .int .i64 s.ne, .int .i64 s.ma] 33)) := by unfold Hid; rw [HW0.out]; exact (Below.heap_alloc _ _ _ (by simp)).trans (heap_alloc_new _ _)
  have HXW : Hid (W0.heap[W.heap.size + 1]? = some (.cells #[.slice ta TL tc, .int .i64 t.lo, .int .i64 t.ne, .int .i64 t.ma] 33)) := by
    unfold Hid; rw [HW0.out]
    have e := heap_alloc_new (W.alloc (.cells #[.slice sa SL sc, .int .i64 s.lo, .int .i64 s.ne, .int .i64 s.ma] 33)) (.cells #[.slice ta TL tc, .int .i64 t.lo, .int .i64 t.ne, .int .i64 t.ma] 33)
    rwa [World.size_alloc] at e
  have HFl : Hid (fl < 9223372036854775808) := hfl
  clear h0 h1 hU hQ hK hT hfl
  go_enter Tryz.func5, Tryz.ntmps5
  go_wp2_with fail
  rw [← HW0.out]
  refine (fsW_new 1048576 W0 W0 (Below.refl _ _) (by decide) (by decide)).mono ?_
  rintro e w1 ⟨p, rfl, hf1⟩
  obtain ⟨g0, rfl⟩ := hf1.ptr
  have HF1 : Hid (FsW W0 w1 (.pointer (some ⟨g0, 0, none⟩)) (sfZ 1048576)) := hf1
  have HB1 : Hid (Below W.heap.size W w1) := HBW0.out.trans (hf1.b.mono (by omega))
  have HS1 : Hid (w1.heap[W.heap.size]? = some (.cells #[.slice sa SL sc, .int .i64 s.lo, .int .i64 s.ne, .int .i64 s.ma] 33)) := (hf1.b.block _ (by omega)).trans HSW.out
  have HX1 : Hid (w1.heap[W.heap.size + 1]? = some (.cells #[.slice ta TL tc, .int .i64 t.lo, .int .i64 t.ne, .int .i64 t.ma] 33)) := (hf1.b.block _ (by omega)).trans HXW.out
  clear hf1 HW0
  obtain ⟨c0, c1, c2, c3⟩ := four13 HS1.out
  obtain ⟨e0, e1, e2, e3⟩ := four13 HX1.out
  by_cases g1 : 100 < SL
  · have g1' : (100 : Int) < (SL : Int) := by omega
    go_wp2_with fail
    refine (alive13_any w1).mono ?_
    rintro e wz ⟨rfl, hbz⟩
    have HBz : Hid (Below W.heap.size W wz) := HB1.out.trans (hbz.mono HB1.out.size)
    clear hbz
    go_wp2_with fail
    go_ret
    exact ⟨rfl, HBz.out⟩
  · have g1' : ¬ (100 : Int) < (SL : Int) := by omega
    by_cases g2 : 100 < TL
    · have g2' : (100 : Int) < (TL : Int) := by omega
      go_wp2_with fail
      refine (alive13_any w1).mono ?_
      rintro e wz ⟨rfl, hbz⟩
      have HBz : Hid (Below W.heap.size W wz) := HB1.out.trans (hbz.mono HB1.out.size)
      clear hbz
      go_wp2_with fail
      go_ret
      exact ⟨rfl, HBz.out⟩
    · have g2' : ¬ (100 : Int) < (TL : Int) := by omega
      by_cases g4 : 100 < KL
      · have g4' : (100 : Int) < (KL : Int) := by omega
        go_wp2_with fail
        refine (alive13_any w1).mono ?_
        rintro e wz ⟨rfl, hbz⟩
        have HBz : Hid (Below W.heap.size W wz) := HB1.out.trans (hbz.mono HB1.out.size)
        clear hbz
        go_wp2_with fail
        go_ret
        exact ⟨rfl, HBz.out⟩
      · have g4' : ¬ (100 : Int) < (KL : Int) := by omega
        have d4 : decide ((100 : Int) < (KL : Int)) = false := decide_eq_false g4'
        have HSl : Hid (s.ru.length ≤ 100) := by unfold Hid; rw [HSL.out]; omega
        have HTl : Hid (t.ru.length ≤ 100) := by unfold Hid; rw [HTL.out]; omega
        have hSv := HF1.out.save 1 _ s HUW.out (by simp [sfZ]) HTb.out
        have HSv : Hid (Calls Tryz.prog 17 #[.pointer (some ⟨g0, 0, none⟩), .int .i64 1, .agg #[.slice sa SL sc, .int .i64 s.lo, .int .i64 s.ne, .int .i64 s.ma]] w1 (FwR W0 (.pointer (some ⟨g0, 0, none⟩)) (mfSave (sfZ 1048576) 1 s))) := hSv
        clear hSv
        go_wp2_with fail
        refine HSv.out.mono ?_
        clear HSv c0 c1 c2 c3 e0 e1 e2 e3 g1 g1' g2 g2' g4 g4' d4 hm0 hm1 hm3
        rintro e w2 ⟨rfl, hf2⟩
        have HB2 : Hid (Below W.heap.size W w2) := HBW0.out.trans (hf2.b.mono (by omega))
        by_cases hok : okSt s
        · have HOk : Hid (okSt s) := hok
          have hc : (mfSave (sfZ 1048576) 1 s).1 = 0 := by rw [save_zero (by decide) hok no1]
          have HPn : Hid ((mfSave (sfZ 1048576) 1 s).2.pend = []) := by unfold Hid; rw [save_zero (by decide) hok no1]; rfl
          rw [hc]
          have HEp : Hid (okSt t → _) := fun ht => one_pure hok ht fl ops HFl.out ks
          obtain ⟨S1, HS1e⟩ := hid_ex (mfSave (sfZ 1048576) 1 s).2
          rw [← HS1e.out] at hf2 HEp HPn
          have HF2 : Hid (FsW W0 w2 (.pointer (some ⟨g0, 0, none⟩)) S1) := hf2
          have HX2 : Hid (w2.heap[W.heap.size + 1]? = some (.cells #[.slice ta TL tc, .int .i64 t.lo, .int .i64 t.ne, .int .i64 t.ma] 33)) := (hf2.b.block _ (by omega)).trans HXW.out
          have hRt := right13_any _ t w2 (HTW.out.below hf2.b)
          have HRt : Hid (Calls Tryz.prog 25 #[.agg #[.slice ta TL tc, .int .i64 t.lo, .int .i64 t.ne, .int .i64 t.ma]] w2 _) := hRt
          clear hf2 hok hc HF1 hRt
          obtain ⟨e0, e1, e2, e3⟩ := four13 HX2.out
          go_wp2_with fail
          refine HRt.out.mono ?_
          clear HRt e0 e1 e2 e3
          rintro e w3 ⟨rfl, hb3⟩
          have HB3 : Hid (Below W.heap.size W w3) := HB2.out.trans (hb3.mono HB2.out.size)
          have HF3 : Hid (FsW W0 w3 (.pointer (some ⟨g0, 0, none⟩)) S1) := HF2.out.below hb3
          clear hb3 HF2
          by_cases hot : okSt t
          · rw [show decide (okSt t) = true from decide_eq_true hot]
            have HPu0 : Hid _ := HEp.out hot
            clear HEp hot
            have HFa : Hid (Calls Tryz.prog 26 #[.pointer (some ⟨g0, 0, none⟩), .int .i64 fl, .int .i64 82] w3 _) := HF3.out.fail fl 82 HFl.out
            go_wp2_with fail
            refine HFa.out.mono ?_
            clear HFa
            rintro e w4 ⟨rfl, hf4⟩
            have HPn2 : Hid ((sfFail S1 fl 82).2.pend = []) := by unfold Hid sfFail; rw [if_neg (by decide)]; split <;> exact HPn.out
            obtain ⟨S2, HS2e⟩ := hid_ex (sfFail S1 fl 82).2
            rw [← HS2e.out] at hf4 HPu0 HPn2
            have HF4 : Hid (FsW W0 w4 (.pointer (some ⟨g0, 0, none⟩)) S2) := hf4
            have HX4 : Hid (w4.heap[W.heap.size + 1]? = some (.cells #[.slice ta TL tc, .int .i64 t.lo, .int .i64 t.ne, .int .i64 t.ma] 33)) := (hf4.b.block _ (by omega)).trans HXW.out
            clear hf4 HF3
            obtain ⟨FE, HFE⟩ := hid_ex (sfFail S1 fl 82).1
            rw [← HFE.out]
            obtain ⟨e0, e1, e2, e3⟩ := four13 HX4.out
            have hSv := HF4.out.save 2 _ t HTW.out (by rw [HPn2.out]; simp) HTb.out
            have HSv : Hid (Calls Tryz.prog 17 #[.pointer (some ⟨g0, 0, none⟩), .int .i64 2, .agg #[.slice ta TL tc, .int .i64 t.lo, .int .i64 t.ne, .int .i64 t.ma]] w4 (FwR W0 (.pointer (some ⟨g0, 0, none⟩)) (mfSave S2 2 t))) := hSv
            clear hSv
            go_wp2_with fail
            refine HSv.out.mono ?_
            clear HSv e0 e1 e2 e3
            rintro e w6 ⟨rfl, hf6⟩
            obtain ⟨H, S3, p1, p2, p3, p4, p5, p6, p7, p8⟩ := HPu0.out
            rw [p2]
            have HP1 : Hid (sfCrash (mfSave S2 2 t).2 ops ks = S3) := p1
            have HRc : Hid ((mfLd S3 = (some (s, 1), 0) ∧ H ≠ 0) ∨ mfLd S3 = (some (t, 2), 0)) := p3
            have HLn : Hid (∀ nm, (sfRead S3 nm).length ≤ 1000000) := p4
            have HP3 : Hid (S3.pend = []) := p5
            have HSv3 : Hid ((mfSave S3 3 t).1 = 0) := p6
            have HLd3 : Hid (mfLd (sfCrash (mfSave S3 3 t).2 ops ks) = (some (t, 3), 0) ∧ ∀ nm, (sfRead (sfCrash (mfSave S3 3 t).2 ops ks) nm).length ≤ 1000000) := ⟨p7, p8⟩
            obtain ⟨S6, HS6e⟩ := hid_ex (mfSave S2 2 t).2
            rw [← HS6e.out] at hf6 HP1
            have HF6 : Hid (FsW W0 w6 (.pointer (some ⟨g0, 0, none⟩)) S6) := hf6
            clear hf6 HF4 p1 p2 p3 p4 p5 p6 p7 p8 HPu0
            have HCr : Hid (Calls Tryz.prog 27 #[.pointer (some ⟨g0, 0, none⟩), .int .i64 ops, .slice ka KL kc] w6 _) := HF6.out.crash ops _ ks HKW.out
            go_wp2_with fail
            refine HCr.out.mono ?_
            clear HCr
            rintro e w7 ⟨rfl, hf7⟩
            simp only at hf7 ⊢
            rw [HP1.out] at hf7
            have HF7 : Hid (FsW W0 w7 (.pointer (some ⟨g0, 0, none⟩)) S3) := hf7
            clear hf7 HF6
            have hLd := HF7.out.load HLn.out HTb.out
            obtain ⟨R, HR⟩ := hid_ex (mfLd S3)
            rw [← HR.out] at hLd HRc
            have HLd : Hid (Calls Tryz.prog 12 #[.pointer (some ⟨g0, 0, none⟩)] w7 (LdP R w7)) := hLd
            clear hLd
            go_wp2_with fail
            refine HLd.out.mono ?_
            clear HLd
            rintro e w8 ⟨v8, rfl, hu8, hb8⟩
            obtain ⟨ya, yc, hv8, _⟩ := hu8.r.form
            subst hv8
            rcases HRc.out with ⟨hRe, hH⟩ | hRe
            · clear HRc HR
              obtain ⟨Y, HYe⟩ := hid_ex (ldS R)
              have hR2 : R.2 = 0 ∧ ldN R = 1 := by rw [hRe]; exact ⟨rfl, rfl⟩
              have HYy : Hid (Y = s) := by unfold Hid; rw [HYe.out, hRe]; rfl
              rw [hR2.1, hR2.2]
              rw [← HYe.out] at hu8 ⊢
              have HYl : Hid (Y.ru.length ≤ 100) := by unfold Hid; rw [HYy.out]; exact HSl.out
              obtain ⟨YL, HYL⟩ : ∃ k, Hid (Y.ru.length = k) := ⟨_, rfl⟩
              rw [HYL.out] at hu8 ⊢
              have HU8 : Hid (UR w8 (.slice ya YL yc) Y.ru) := hu8
              have HBd8 : Hid (Below w7.heap.size w7 w8) := hb8
              have HOn8 : Hid (([.slice ya YL yc, .int .i64 Y.lo, .int .i64 Y.ne, .int .i64 Y.ma] : List Value).toArray.all (·.oneCell') = true) := by unfold Hid; kernel_rfl
              clear hu8 hb8 hR2 HYe hRe
              go_wp2_with (refine stop_store 33 _ _ rfl ?_)
              refine Stop.of ?_
              refine wpList_storeN rfl _ _ _ rfl w8.heap.size 0 [.slice ya YL yc, .int .i64 Y.lo, .int .i64 Y.ne, .int .i64 Y.ma] rfl rfl _ _ (heap_alloc_new _ _) (by simp) (by kernel_rfl) HOn8.out ?_
              intro w9 hw9
              obtain ⟨hb9, hx9, hz9⟩ := stW_nw hw9 (by simp)
              obtain ⟨P2, HP2⟩ := hid_ex w8.heap.size
              rw [← HP2.out] at hx9 hz9 ⊢
              obtain ⟨u0, HU0⟩ := hid_ex w9.drew
              have hbu : Below w7.heap.size w7 u0 := by rw [HU0.out]; exact (HBd8.out.trans (hb9.mono HBd8.out.size)).drew
              have hbu8 : Below w8.heap.size w8 u0 := by rw [HU0.out]; exact hb9.drew
              have HFu0 : Hid (FsW W0 u0 (.pointer (some ⟨g0, 0, none⟩)) S3) := HF7.out.below hbu
              have HYu0 : Hid (UR u0 (.slice ya YL yc) Y.ru) := HU8.out.below hbu8
              have HSu0 : Hid (UR u0 (.slice sa SL sc) s.ru) := HUW.out.below HFu0.out.b
              have HTtu0 : Hid (UR u0 (.slice ta TL tc) t.ru) := HTW.out.below HFu0.out.b
              have HKBu0 : Hid (u0.heap[P2]? = some (.cells #[.slice ya YL yc, .int .i64 Y.lo, .int .i64 Y.ne, .int .i64 Y.ma] 33) ∧ u0.heap[W.heap.size]? = some (.cells #[.slice sa SL sc, .int .i64 s.lo, .int .i64 s.ne, .int .i64 s.ma] 33) ∧ u0.heap[W.heap.size + 1]? = some (.cells #[.slice ta TL tc, .int .i64 t.lo, .int .i64 t.ne, .int .i64 t.ma] 33)) := ⟨by rw [HU0.out]; exact hx9, (HFu0.out.b.block _ (by omega)).trans HSW.out, (HFu0.out.b.block _ (by omega)).trans HXW.out⟩
              have HGu0 : Hid ((u0.cell? ⟨P2, 0, none⟩ = some (.slice ya YL yc) ∧ u0.cell? ⟨P2, 1, none⟩ = some (.int .i64 Y.lo) ∧ u0.cell? ⟨P2, 2, none⟩ = some (.int .i64 Y.ne) ∧ u0.cell? ⟨P2, 3, none⟩ = some (.int .i64 Y.ma)) ∧ (u0.cell? ⟨W.heap.size, 0, none⟩ = some (.slice sa SL sc) ∧ u0.cell? ⟨W.heap.size, 1, none⟩ = some (.int .i64 s.lo) ∧ u0.cell? ⟨W.heap.size, 2, none⟩ = some (.int .i64 s.ne) ∧ u0.cell? ⟨W.heap.size, 3, none⟩ = some (.int .i64 s.ma)) ∧ (u0.cell? ⟨W.heap.size + 1, 0, none⟩ = some (.slice ta TL tc) ∧ u0.cell? ⟨W.heap.size + 1, 1, none⟩ = some (.int .i64 t.lo) ∧ u0.cell? ⟨W.heap.size + 1, 2, none⟩ = some (.int .i64 t.ne) ∧ u0.cell? ⟨W.heap.size + 1, 3, none⟩ = some (.int .i64 t.ma))) := ⟨four13 HKBu0.out.1, four13 HKBu0.out.2.1, four13 HKBu0.out.2.2⟩
              clear hw9 hb9 hx9 hbu hbu8 HP2
              go_wp2_with fail
              refine wp_region_noPanic ?_
              refine wp_region_held_drew (S := fun w' => (w'.cell? ⟨P2, 0, none⟩ = some (.slice ya YL yc) ∧ w'.cell? ⟨P2, 1, none⟩ = some (.int .i64 Y.lo) ∧ w'.cell? ⟨P2, 2, none⟩ = some (.int .i64 Y.ne) ∧ w'.cell? ⟨P2, 3, none⟩ = some (.int .i64 Y.ma)) ∧ (w'.cell? ⟨W.heap.size, 0, none⟩ = some (.slice sa SL sc) ∧ w'.cell? ⟨W.heap.size, 1, none⟩ = some (.int .i64 s.lo) ∧ w'.cell? ⟨W.heap.size, 2, none⟩ = some (.int .i64 s.ne) ∧ w'.cell? ⟨W.heap.size, 3, none⟩ = some (.int .i64 s.ma)) ∧ (w'.cell? ⟨W.heap.size + 1, 0, none⟩ = some (.slice ta TL tc) ∧ w'.cell? ⟨W.heap.size + 1, 1, none⟩ = some (.int .i64 t.lo) ∧ w'.cell? ⟨W.heap.size + 1, 2, none⟩ = some (.int .i64 t.ne) ∧ w'.cell? ⟨W.heap.size + 1, 3, none⟩ = some (.int .i64 t.ma))) (by kernel_rfl) ?_ (fun hHeld => ?_)
              · (rw [← HU0.out]; exact HGu0.out)
              rw [← HU0.out]
              clear HU0
              refine wpAnyH_take (i := 0) (v := .int .i64 1) rfl (by kernel_rfl) (by kernel_rfl) (by kernel_rfl) (fun _ _ _ h => h) (Or.inl ⟨by rfl, ?_⟩) (by assumption) ?_
              · (intro w1 hSw; (try dsimp only at hSw); go_simp)
              simp only [List.getElem_toArray, List.getElem_cons_zero, Act.put, List.setIfInBounds_toArray, List.set_cons_zero, List.set_cons_succ]
              refine wpAnyH_take (i := 1) (v := .bool true) rfl (by kernel_rfl) (by kernel_rfl) (by kernel_rfl) (fun _ _ _ h => h) (Or.inl ⟨by rfl, ?_⟩) (by assumption) ?_
              · (intro w1 hSw; (try dsimp only at hSw); go_simp)
              simp only [List.getElem_toArray, List.getElem_cons_succ, List.getElem_cons_zero, Act.put, List.setIfInBounds_toArray, List.set_cons_zero, List.set_cons_succ]
              refine wpAnyH_take (i := 2) (v := .bool true) rfl (by kernel_rfl) (by kernel_rfl) (by kernel_rfl) (fun _ _ _ h => h) (Or.inl ⟨by rfl, ?_⟩) (by assumption) ?_
              · (intro w1 hSw; (try dsimp only at hSw); go_simp)
              simp only [List.getElem_toArray, List.getElem_cons_succ, List.getElem_cons_zero, Act.put, List.setIfInBounds_toArray, List.set_cons_zero, List.set_cons_succ]
              refine wpAnyH_take (i := 3) (v := .agg #[.slice ya YL yc, .int .i64 Y.lo, .int .i64 Y.ne, .int .i64 Y.ma]) rfl (by kernel_rfl) (by kernel_rfl) (by kernel_rfl) (fun _ _ _ h => h) (Or.inl ⟨by rfl, ?_⟩) (by assumption) ?_
              · (intro w1 hSw; (try dsimp only at hSw); go_simp)
              simp only [List.getElem_toArray, List.getElem_cons_succ, List.getElem_cons_zero, Act.put, List.setIfInBounds_toArray, List.set_cons_zero, List.set_cons_succ]
              refine wpAnyH_take (i := 5) (v := .agg #[.slice sa SL sc, .int .i64 s.lo, .int .i64 s.ne, .int .i64 s.ma]) rfl (by kernel_rfl) (by kernel_rfl) (by kernel_rfl) (fun _ _ _ h => h) (Or.inl ⟨by rfl, ?_⟩) (by assumption) ?_
              · (intro w1 hSw; (try dsimp only at hSw); go_simp)
              simp only [List.getElem_toArray, List.getElem_cons_succ, List.getElem_cons_zero, Act.put, List.setIfInBounds_toArray, List.set_cons_zero, List.set_cons_succ]
              refine wpAnyH_take (i := 9) (v := .int .i64 1) rfl (by kernel_rfl) (by kernel_rfl) (by kernel_rfl) (fun _ _ _ h => h) (Or.inl ⟨by rfl, ?_⟩) (by assumption) ?_
              · (intro w1 hSw; (try dsimp only at hSw); go_simp)
              simp only [List.getElem_toArray, List.getElem_cons_succ, List.getElem_cons_zero, Act.put, List.setIfInBounds_toArray, List.set_cons_zero, List.set_cons_succ]
              refine wpAnyH_take (i := 10) (v := .bool false) rfl (by kernel_rfl) (by kernel_rfl) (by kernel_rfl) (fun _ _ _ h => h) (Or.inl ⟨by rfl, ?_⟩) (by assumption) ?_
              · (intro w1 hSw; (try dsimp only at hSw); go_simp)
              simp only [List.getElem_toArray, List.getElem_cons_succ, List.getElem_cons_zero, Act.put, List.setIfInBounds_toArray, List.set_cons_zero, List.set_cons_succ]
              refine wpAnyH_ready (rs := [4]) (by kernel_rfl) (by simp) ?_
              refine AllReadyH.cons (o := _) rfl (fun K hK => ?_) AllReadyH.nil
              go_simp
              refine (as13_any _ Y u0 HYu0.out.r (by have := HYl.out; omega)).mono ?_
              rintro e u1 ⟨q1, rfl, hq1, hb1⟩
              have HFu1 : Hid (FsW W0 u1 (.pointer (some ⟨g0, 0, none⟩)) S3) := HFu0.out.below hb1
              have HKBu1 : Hid (u1.heap[P2]? = some (.cells #[.slice ya YL yc, .int .i64 Y.lo, .int .i64 Y.ne, .int .i64 Y.ma] 33) ∧ u1.heap[W.heap.size]? = some (.cells #[.slice sa SL sc, .int .i64 s.lo, .int .i64 s.ne, .int .i64 s.ma] 33) ∧ u1.heap[W.heap.size + 1]? = some (.cells #[.slice ta TL tc, .int .i64 t.lo, .int .i64 t.ne, .int .i64 t.ma] 33)) := ⟨(hb1.block _ (Array.getElem?_eq_some_iff.1 HKBu0.out.1).1).trans HKBu0.out.1, (hb1.block _ (Array.getElem?_eq_some_iff.1 HKBu0.out.2.1).1).trans HKBu0.out.2.1, (hb1.block _ (Array.getElem?_eq_some_iff.1 HKBu0.out.2.2).1).trans HKBu0.out.2.2⟩
              have HGu1 : Hid ((u1.cell? ⟨P2, 0, none⟩ = some (.slice ya YL yc) ∧ u1.cell? ⟨P2, 1, none⟩ = some (.int .i64 Y.lo) ∧ u1.cell? ⟨P2, 2, none⟩ = some (.int .i64 Y.ne) ∧ u1.cell? ⟨P2, 3, none⟩ = some (.int .i64 Y.ma)) ∧ (u1.cell? ⟨W.heap.size, 0, none⟩ = some (.slice sa SL sc) ∧ u1.cell? ⟨W.heap.size, 1, none⟩ = some (.int .i64 s.lo) ∧ u1.cell? ⟨W.heap.size, 2, none⟩ = some (.int .i64 s.ne) ∧ u1.cell? ⟨W.heap.size, 3, none⟩ = some (.int .i64 s.ma)) ∧ (u1.cell? ⟨W.heap.size + 1, 0, none⟩ = some (.slice ta TL tc) ∧ u1.cell? ⟨W.heap.size + 1, 1, none⟩ = some (.int .i64 t.lo) ∧ u1.cell? ⟨W.heap.size + 1, 2, none⟩ = some (.int .i64 t.ne) ∧ u1.cell? ⟨W.heap.size + 1, 3, none⟩ = some (.int .i64 t.ma))) := ⟨four13 HKBu1.out.1, four13 HKBu1.out.2.1, four13 HKBu1.out.2.2⟩
              have HYu1 : Hid (UR u1 (.slice ya YL yc) Y.ru) := HYu0.out.below hb1
              have HSu1 : Hid (UR u1 (.slice sa SL sc) s.ru) := HSu0.out.below hb1
              have HTtu1 : Hid (UR u1 (.slice ta TL tc) t.ru) := HTtu0.out.below hb1
              obtain ⟨qa1, qc1, hqv1, _⟩ := hq1.form
              rw [HYL.out] at hqv1
              subst hqv1
              have HQ1u1 : Hid (RuR u1 (.slice qa1 YL qc1) Y.ru) := hq1
              clear hb1 hq1
              go_simp
              refine hK.out _ _ ?_ (fun hHeld => ?_)
              · exact HGu1.out
              clear hK K
              refine wpAnyH_ready (rs := [6]) (by kernel_rfl) (by simp) ?_
              refine AllReadyH.cons (o := _) rfl (fun K hK => ?_) AllReadyH.nil
              go_simp
              refine (as13_any _ s u1 HSu1.out.r (by have := HSl.out; omega)).mono ?_
              rintro e u2 ⟨q2, rfl, hq2, hb2⟩
              have HFu2 : Hid (FsW W0 u2 (.pointer (some ⟨g0, 0, none⟩)) S3) := HFu1.out.below hb2
              have HKBu2 : Hid (u2.heap[P2]? = some (.cells #[.slice ya YL yc, .int .i64 Y.lo, .int .i64 Y.ne, .int .i64 Y.ma] 33) ∧ u2.heap[W.heap.size]? = some (.cells #[.slice sa SL sc, .int .i64 s.lo, .int .i64 s.ne, .int .i64 s.ma] 33) ∧ u2.heap[W.heap.size + 1]? = some (.cells #[.slice ta TL tc, .int .i64 t.lo, .int .i64 t.ne, .int .i64 t.ma] 33)) := ⟨(hb2.block _ (Array.getElem?_eq_some_iff.1 HKBu1.out.1).1).trans HKBu1.out.1, (hb2.block _ (Array.getElem?_eq_some_iff.1 HKBu1.out.2.1).1).trans HKBu1.out.2.1, (hb2.block _ (Array.getElem?_eq_some_iff.1 HKBu1.out.2.2).1).trans HKBu1.out.2.2⟩
              have HGu2 : Hid ((u2.cell? ⟨P2, 0, none⟩ = some (.slice ya YL yc) ∧ u2.cell? ⟨P2, 1, none⟩ = some (.int .i64 Y.lo) ∧ u2.cell? ⟨P2, 2, none⟩ = some (.int .i64 Y.ne) ∧ u2.cell? ⟨P2, 3, none⟩ = some (.int .i64 Y.ma)) ∧ (u2.cell? ⟨W.heap.size, 0, none⟩ = some (.slice sa SL sc) ∧ u2.cell? ⟨W.heap.size, 1, none⟩ = some (.int .i64 s.lo) ∧ u2.cell? ⟨W.heap.size, 2, none⟩ = some (.int .i64 s.ne) ∧ u2.cell? ⟨W.heap.size, 3, none⟩ = some (.int .i64 s.ma)) ∧ (u2.cell? ⟨W.heap.size + 1, 0, none⟩ = some (.slice ta TL tc) ∧ u2.cell? ⟨W.heap.size + 1, 1, none⟩ = some (.int .i64 t.lo) ∧ u2.cell? ⟨W.heap.size + 1, 2, none⟩ = some (.int .i64 t.ne) ∧ u2.cell? ⟨W.heap.size + 1, 3, none⟩ = some (.int .i64 t.ma))) := ⟨four13 HKBu2.out.1, four13 HKBu2.out.2.1, four13 HKBu2.out.2.2⟩
              have HYu2 : Hid (UR u2 (.slice ya YL yc) Y.ru) := HYu1.out.below hb2
              have HSu2 : Hid (UR u2 (.slice sa SL sc) s.ru) := HSu1.out.below hb2
              have HTtu2 : Hid (UR u2 (.slice ta TL tc) t.ru) := HTtu1.out.below hb2
              have HQ1u2 : Hid (RuR u2 (.slice qa1 YL qc1) Y.ru) := HQ1u1.out.below hb2
              obtain ⟨qa2, qc2, hqv2, _⟩ := hq2.form
              rw [HSL.out] at hqv2
              subst hqv2
              have HQ2u2 : Hid (RuR u2 (.slice qa2 SL qc2) s.ru) := hq2
              clear hb2 hq2
              go_simp
              refine hK.out _ _ ?_ (fun hHeld => ?_)
              · exact HGu2.out
              clear hK K
              refine wpAnyH_ready (rs := [7]) (by kernel_rfl) (by simp) ?_
              refine AllReadyH.cons (o := _) rfl (fun K hK => ?_) AllReadyH.nil
              go_simp
              refine (same13_any _ _ Y.ru s.ru Y.lo Y.ne Y.ma s.lo s.ne s.ma u2 HQ1u2.out HQ2u2.out).mono ?_
              rintro e u3 ⟨r1, rfl, hr1, hb3⟩
              have h1 : r1 = true := hr1 (by rw [HYy.out]; exact ⟨rfl, rfl, rfl, rfl⟩)
              subst h1
              have HFu3 : Hid (FsW W0 u3 (.pointer (some ⟨g0, 0, none⟩)) S3) := HFu2.out.below hb3
              have HKBu3 : Hid (u3.heap[P2]? = some (.cells #[.slice ya YL yc, .int .i64 Y.lo, .int .i64 Y.ne, .int .i64 Y.ma] 33) ∧ u3.heap[W.heap.size]? = some (.cells #[.slice sa SL sc, .int .i64 s.lo, .int .i64 s.ne, .int .i64 s.ma] 33) ∧ u3.heap[W.heap.size + 1]? = some (.cells #[.slice ta TL tc, .int .i64 t.lo, .int .i64 t.ne, .int .i64 t.ma] 33)) := ⟨(hb3.block _ (Array.getElem?_eq_some_iff.1 HKBu2.out.1).1).trans HKBu2.out.1, (hb3.block _ (Array.getElem?_eq_some_iff.1 HKBu2.out.2.1).1).trans HKBu2.out.2.1, (hb3.block _ (Array.getElem?_eq_some_iff.1 HKBu2.out.2.2).1).trans HKBu2.out.2.2⟩
              have HGu3 : Hid ((u3.cell? ⟨P2, 0, none⟩ = some (.slice ya YL yc) ∧ u3.cell? ⟨P2, 1, none⟩ = some (.int .i64 Y.lo) ∧ u3.cell? ⟨P2, 2, none⟩ = some (.int .i64 Y.ne) ∧ u3.cell? ⟨P2, 3, none⟩ = some (.int .i64 Y.ma)) ∧ (u3.cell? ⟨W.heap.size, 0, none⟩ = some (.slice sa SL sc) ∧ u3.cell? ⟨W.heap.size, 1, none⟩ = some (.int .i64 s.lo) ∧ u3.cell? ⟨W.heap.size, 2, none⟩ = some (.int .i64 s.ne) ∧ u3.cell? ⟨W.heap.size, 3, none⟩ = some (.int .i64 s.ma)) ∧ (u3.cell? ⟨W.heap.size + 1, 0, none⟩ = some (.slice ta TL tc) ∧ u3.cell? ⟨W.heap.size + 1, 1, none⟩ = some (.int .i64 t.lo) ∧ u3.cell? ⟨W.heap.size + 1, 2, none⟩ = some (.int .i64 t.ne) ∧ u3.cell? ⟨W.heap.size + 1, 3, none⟩ = some (.int .i64 t.ma))) := ⟨four13 HKBu3.out.1, four13 HKBu3.out.2.1, four13 HKBu3.out.2.2⟩
              have HYu3 : Hid (UR u3 (.slice ya YL yc) Y.ru) := HYu2.out.below hb3
              have HSu3 : Hid (UR u3 (.slice sa SL sc) s.ru) := HSu2.out.below hb3
              have HTtu3 : Hid (UR u3 (.slice ta TL tc) t.ru) := HTtu2.out.below hb3
              clear hb3 hr1
              go_simp
              refine hK.out _ _ ?_ (fun hHeld => ?_)
              · exact HGu3.out
              clear hK K
              refine wpAnyH_take (i := 8) (v := .bool true) rfl (by kernel_rfl) (by kernel_rfl) (by kernel_rfl) (fun _ _ _ h => h) (Or.inl ⟨by rfl, ?_⟩) (by assumption) ?_
              · (intro w1 hSw; (try dsimp only at hSw); go_simp)
              simp only [List.getElem_toArray, List.getElem_cons_succ, List.getElem_cons_zero, Act.put, List.setIfInBounds_toArray, List.set_cons_zero, List.set_cons_succ]
              refine wpAnyH_take (i := 11) (v := .bool false) rfl (by kernel_rfl) (by kernel_rfl) (by kernel_rfl) (fun _ _ _ h => h) (Or.inl ⟨by rfl, ?_⟩) (by assumption) ?_
              · (intro w1 hSw; (try dsimp only at hSw); go_simp)
              simp only [List.getElem_toArray, List.getElem_cons_succ, List.getElem_cons_zero, Act.put, List.setIfInBounds_toArray, List.set_cons_zero, List.set_cons_succ]
              refine wpAnyH_take (i := 12) (v := undef) rfl (by kernel_rfl) (by kernel_rfl) (by kernel_rfl) (fun _ _ _ h => h) (Or.inr ⟨by rfl, rfl⟩) (by assumption) ?_
              simp only [List.getElem_toArray, List.getElem_cons_succ, List.getElem_cons_zero, Act.put, List.setIfInBounds_toArray, List.set_cons_zero, List.set_cons_succ]
              refine wpAnyH_take (i := 13) (v := undef) rfl (by kernel_rfl) (by kernel_rfl) (by kernel_rfl) (fun _ _ _ h => h) (Or.inr ⟨by rfl, rfl⟩) (by assumption) ?_
              simp only [List.getElem_toArray, List.getElem_cons_succ, List.getElem_cons_zero, Act.put, List.setIfInBounds_toArray, List.set_cons_zero, List.set_cons_succ]
              refine wpAnyH_take (i := 14) (v := undef) rfl (by kernel_rfl) (by kernel_rfl) (by kernel_rfl) (fun _ _ _ h => h) (Or.inr ⟨by rfl, rfl⟩) (by assumption) ?_
              simp only [List.getElem_toArray, List.getElem_cons_succ, List.getElem_cons_zero, Act.put, List.setIfInBounds_toArray, List.set_cons_zero, List.set_cons_succ]
              refine wpAnyH_take (i := 15) (v := undef) rfl (by kernel_rfl) (by kernel_rfl) (by kernel_rfl) (fun _ _ _ h => h) (Or.inr ⟨by rfl, rfl⟩) (by assumption) ?_
              simp only [List.getElem_toArray, List.getElem_cons_succ, List.getElem_cons_zero, Act.put, List.setIfInBounds_toArray, List.set_cons_zero, List.set_cons_succ]
              refine wpAnyH_take (i := 16) (v := undef) rfl (by kernel_rfl) (by kernel_rfl) (by kernel_rfl) (fun _ _ _ h => h) (Or.inr ⟨by rfl, rfl⟩) (by assumption) ?_
              simp only [List.getElem_toArray, List.getElem_cons_succ, List.getElem_cons_zero, Act.put, List.setIfInBounds_toArray, List.set_cons_zero, List.set_cons_succ]
              refine wpAnyH_take (i := 17) (v := .bool false) rfl (by kernel_rfl) (by kernel_rfl) (by kernel_rfl) (fun _ _ _ h => h) (Or.inl ⟨by rfl, ?_⟩) (by assumption) ?_
              · (intro w1 hSw; (try dsimp only at hSw); go_simp)
              simp only [List.getElem_toArray, List.getElem_cons_succ, List.getElem_cons_zero, Act.put, List.setIfInBounds_toArray, List.set_cons_zero, List.set_cons_succ]
              refine wpAnyH_take (i := 18) (v := .bool true) rfl (by kernel_rfl) (by kernel_rfl) (by kernel_rfl) (fun _ _ _ h => h) (Or.inl ⟨by rfl, ?_⟩) (by assumption) ?_
              · (intro w1 hSw; (try dsimp only at hSw); go_simp)
              simp only [List.getElem_toArray, List.getElem_cons_succ, List.getElem_cons_zero, Act.put, List.setIfInBounds_toArray, List.set_cons_zero, List.set_cons_succ]
              refine wpAnyH_take (i := 19) (v := .bool false) rfl (by kernel_rfl) (by kernel_rfl) (by kernel_rfl) (fun _ _ _ h => h) (Or.inl ⟨by rfl, ?_⟩) (by assumption) ?_
              · (intro w1 hSw; (try dsimp only at hSw); go_simp)
              simp only [List.getElem_toArray, List.getElem_cons_succ, List.getElem_cons_zero, Act.put, List.setIfInBounds_toArray, List.set_cons_zero, List.set_cons_succ]
              refine wpAnyH_done (by kernel_rfl) ?_ _
              refine NoPanic.normal ?_
              clear HGu0 HGu1 HGu2 HGu3
              have hH' : (H == 0) = false := by simpa using hH
              obtain ⟨x0, Hx0⟩ := hid_ex u3
              have HFx : Hid (FsW W0 x0 (.pointer (some ⟨g0, 0, none⟩)) S3) := by unfold Hid; rw [Hx0.out]; exact HFu3.out
              have HKBx : Hid (x0.heap[P2]? = some (.cells #[.slice ya YL yc, .int .i64 Y.lo, .int .i64 Y.ne, .int .i64 Y.ma] 33) ∧ x0.heap[W.heap.size]? = some (.cells #[.slice sa SL sc, .int .i64 s.lo, .int .i64 s.ne, .int .i64 s.ma] 33) ∧ x0.heap[W.heap.size + 1]? = some (.cells #[.slice ta TL tc, .int .i64 t.lo, .int .i64 t.ne, .int .i64 t.ma] 33)) := by unfold Hid; rw [Hx0.out]; exact HKBu3.out
              have HBx : Hid (Below W.heap.size W x0) := HBW0.out.trans (HFx.out.b.mono (by omega))
              rw [← Hx0.out]
              clear Hx0
              cases again with
              | false =>
                go_wp2_with fail
                refine (alive13_any x0).mono ?_
                rintro e wz ⟨rfl, hbz⟩
                have HBz : Hid (Below W.heap.size W wz) := HBx.out.trans (hbz.mono HBx.out.size)
                clear hbz
                go_wp2_with fail
                go_ret
                exact ⟨rfl, HBz.out⟩
              | true =>
                obtain ⟨c0, c1, c2, c3⟩ := four13 HKBx.out.2.2
                have hSv := HFx.out.save 3 _ t HTW.out (by rw [HP3.out]; simp) HTb.out
                have HSv : Hid (Calls Tryz.prog 17 #[.pointer (some ⟨g0, 0, none⟩), .int .i64 3, .agg #[.slice ta TL tc, .int .i64 t.lo, .int .i64 t.ne, .int .i64 t.ma]] x0 (FwR W0 (.pointer (some ⟨g0, 0, none⟩)) (mfSave S3 3 t))) := hSv
                clear hSv
                go_wp2_with fail
                refine HSv.out.mono ?_
                clear HSv c0 c1 c2 c3
                rintro e y1 ⟨rfl, hf1⟩
                rw [HSv3.out]
                obtain ⟨S5, HS5⟩ := hid_ex (mfSave S3 3 t).2
                rw [← HS5.out] at hf1 HLd3
                have HFy1 : Hid (FsW W0 y1 (.pointer (some ⟨g0, 0, none⟩)) S5) := hf1
                clear hf1
                have HCr : Hid (Calls Tryz.prog 27 #[.pointer (some ⟨g0, 0, none⟩), .int .i64 ops, .slice ka KL kc] y1 _) := HFy1.out.crash ops _ ks HKW.out
                go_wp2_with fail
                refine HCr.out.mono ?_
                clear HCr
                rintro e y2 ⟨rfl, hf2⟩
                simp only at hf2 ⊢
                have HFy2 : Hid (FsW W0 y2 (.pointer (some ⟨g0, 0, none⟩)) (sfCrash S5 ops ks)) := hf2
                have HBy2 : Hid (Below W.heap.size W y2) := HBW0.out.trans (hf2.b.mono (by omega))
                have HTy2 : Hid (y2.heap[W.heap.size + 1]? = some (.cells #[.slice ta TL tc, .int .i64 t.lo, .int .i64 t.ne, .int .i64 t.ma] 33)) := (hf2.b.block _ (by omega)).trans HXW.out
                have HTty2 : Hid (UR y2 (.slice ta TL tc) t.ru) := HTW.out.below hf2.b
                clear hf2 HFy1
                have hLd := HFy2.out.load HLd3.out.2 HTb.out
                rw [HLd3.out.1] at hLd
                have HLd : Hid (Calls Tryz.prog 12 #[.pointer (some ⟨g0, 0, none⟩)] y2 (LdP (some (t, 3), 0) y2)) := hLd
                clear hLd
                go_wp2_with fail
                refine HLd.out.mono ?_
                clear HLd
                rintro e y3 ⟨v3, rfl, hu3, hb3⟩
                obtain ⟨za, zc, hv3, _⟩ := hu3.r.form
                subst hv3
                rw [show (((some (t, (3 : Int)), (0 : Int)) : Option (St × Int) × Int)).2 = 0 from rfl, show ldN ((some (t, (3 : Int)), (0 : Int)) : Option (St × Int) × Int) = 3 from rfl]
                obtain ⟨Z, HZe⟩ := hid_ex (ldS ((some (t, (3 : Int)), (0 : Int)) : Option (St × Int) × Int))
                have HZt : Hid (Z = t) := by unfold Hid; rw [HZe.out]; rfl
                rw [← HZe.out] at hu3 ⊢
                obtain ⟨ZL, HZL⟩ : ∃ k, Hid (Z.ru.length = k) := ⟨_, rfl⟩
                rw [HZL.out] at hu3 ⊢
                have HU3 : Hid (UR y3 (.slice za ZL zc) Z.ru) := hu3
                have HBd3 : Hid (Below y2.heap.size y2 y3) := hb3
                have HOn3 : Hid (([.slice za ZL zc, .int .i64 Z.lo, .int .i64 Z.ne, .int .i64 Z.ma] : List Value).toArray.all (·.oneCell') = true) := by unfold Hid; kernel_rfl
                clear hu3 hb3 HZe
                go_wp2_with (refine stop_store 33 _ _ rfl ?_)
                refine Stop.of ?_
                refine wpList_storeN rfl _ _ _ rfl y3.heap.size 0 [.slice za ZL zc, .int .i64 Z.lo, .int .i64 Z.ne, .int .i64 Z.ma] rfl rfl _ _ (heap_alloc_new _ _) (by simp) (by kernel_rfl) HOn3.out ?_
                intro y4 hy4
                obtain ⟨hb4, hx4, hz4⟩ := stW_nw hy4 (by simp)
                obtain ⟨P3, HP3e⟩ := hid_ex y3.heap.size
                rw [← HP3e.out] at hx4 hz4 ⊢
                obtain ⟨t0, HT0⟩ := hid_ex y4.drew
                have hbu : Below y2.heap.size y2 t0 := by rw [HT0.out]; exact (HBd3.out.trans (hb4.mono HBd3.out.size)).drew
                have hbu3 : Below y3.heap.size y3 t0 := by rw [HT0.out]; exact hb4.drew
                have HBt0 : Hid (Below W.heap.size W t0) := HBy2.out.trans (hbu.mono HBy2.out.size)
                have HZt0 : Hid (UR t0 (.slice za ZL zc) Z.ru) := HU3.out.below hbu3
                have HTtt0 : Hid (UR t0 (.slice ta TL tc) t.ru) := HTty2.out.below hbu
                have HKCt0 : Hid (t0.heap[P3]? = some (.cells #[.slice za ZL zc, .int .i64 Z.lo, .int .i64 Z.ne, .int .i64 Z.ma] 33) ∧ t0.heap[W.heap.size + 1]? = some (.cells #[.slice ta TL tc, .int .i64 t.lo, .int .i64 t.ne, .int .i64 t.ma] 33)) := ⟨by rw [HT0.out]; exact hx4, (hbu.block _ (Array.getElem?_eq_some_iff.1 HTy2.out).1).trans HTy2.out⟩
                have HHt0 : Hid ((t0.cell? ⟨P3, 0, none⟩ = some (.slice za ZL zc) ∧ t0.cell? ⟨P3, 1, none⟩ = some (.int .i64 Z.lo) ∧ t0.cell? ⟨P3, 2, none⟩ = some (.int .i64 Z.ne) ∧ t0.cell? ⟨P3, 3, none⟩ = some (.int .i64 Z.ma)) ∧ (t0.cell? ⟨W.heap.size + 1, 0, none⟩ = some (.slice ta TL tc) ∧ t0.cell? ⟨W.heap.size + 1, 1, none⟩ = some (.int .i64 t.lo) ∧ t0.cell? ⟨W.heap.size + 1, 2, none⟩ = some (.int .i64 t.ne) ∧ t0.cell? ⟨W.heap.size + 1, 3, none⟩ = some (.int .i64 t.ma))) := ⟨four13 HKCt0.out.1, four13 HKCt0.out.2⟩
                clear hy4 hb4 hx4 hbu hbu3 HP3e
                go_wp2_with fail
                refine wp_region_noPanic ?_
                refine wp_region_held_drew (S := fun w' => (w'.cell? ⟨P3, 0, none⟩ = some (.slice za ZL zc) ∧ w'.cell? ⟨P3, 1, none⟩ = some (.int .i64 Z.lo) ∧ w'.cell? ⟨P3, 2, none⟩ = some (.int .i64 Z.ne) ∧ w'.cell? ⟨P3, 3, none⟩ = some (.int .i64 Z.ma)) ∧ (w'.cell? ⟨W.heap.size + 1, 0, none⟩ = some (.slice ta TL tc) ∧ w'.cell? ⟨W.heap.size + 1, 1, none⟩ = some (.int .i64 t.lo) ∧ w'.cell? ⟨W.heap.size + 1, 2, none⟩ = some (.int .i64 t.ne) ∧ w'.cell? ⟨W.heap.size + 1, 3, none⟩ = some (.int .i64 t.ma))) (by kernel_rfl) ?_ (fun hHeld => ?_)
                · (rw [← HT0.out]; exact HHt0.out)
                rw [← HT0.out]
                clear HT0
                refine wpAnyH_ready (rs := [0]) (by kernel_rfl) (by simp) ?_
                refine AllReadyH.cons (o := _) rfl (fun K hK => ?_) AllReadyH.nil
                go_simp
                refine (alive13_any _).mono ?_
                rintro e t1 ⟨rfl, hb1⟩
                have HBt1 : Hid (Below W.heap.size W t1) := HBt0.out.trans (hb1.mono HBt0.out.size)
                have HKCt1 : Hid (t1.heap[P3]? = some (.cells #[.slice za ZL zc, .int .i64 Z.lo, .int .i64 Z.ne, .int .i64 Z.ma] 33) ∧ t1.heap[W.heap.size + 1]? = some (.cells #[.slice ta TL tc, .int .i64 t.lo, .int .i64 t.ne, .int .i64 t.ma] 33)) := ⟨(hb1.block _ (Array.getElem?_eq_some_iff.1 HKCt0.out.1).1).trans HKCt0.out.1, (hb1.block _ (Array.getElem?_eq_some_iff.1 HKCt0.out.2).1).trans HKCt0.out.2⟩
                have HHt1 : Hid ((t1.cell? ⟨P3, 0, none⟩ = some (.slice za ZL zc) ∧ t1.cell? ⟨P3, 1, none⟩ = some (.int .i64 Z.lo) ∧ t1.cell? ⟨P3, 2, none⟩ = some (.int .i64 Z.ne) ∧ t1.cell? ⟨P3, 3, none⟩ = some (.int .i64 Z.ma)) ∧ (t1.cell? ⟨W.heap.size + 1, 0, none⟩ = some (.slice ta TL tc) ∧ t1.cell? ⟨W.heap.size + 1, 1, none⟩ = some (.int .i64 t.lo) ∧ t1.cell? ⟨W.heap.size + 1, 2, none⟩ = some (.int .i64 t.ne) ∧ t1.cell? ⟨W.heap.size + 1, 3, none⟩ = some (.int .i64 t.ma))) := ⟨four13 HKCt1.out.1, four13 HKCt1.out.2⟩
                have HZt1 : Hid (UR t1 (.slice za ZL zc) Z.ru) := HZt0.out.below hb1
                have HTtt1 : Hid (UR t1 (.slice ta TL tc) t.ru) := HTtt0.out.below hb1
                clear hb1
                go_simp
                refine hK.out _ _ ?_ (fun hHeld => ?_)
                · exact HHt1.out
                clear hK K
                refine wpAnyH_take (i := 1) (v := .bool true) rfl (by kernel_rfl) (by kernel_rfl) (by kernel_rfl) (fun _ _ _ h => h) (Or.inl ⟨by rfl, ?_⟩) (by assumption) ?_
                · (intro w1 hSw; (try dsimp only at hSw); go_simp)
                simp only [List.getElem_toArray, List.getElem_cons_succ, List.getElem_cons_zero, Act.put, List.setIfInBounds_toArray, List.set_cons_zero, List.set_cons_succ]
                refine wpAnyH_take (i := 2) (v := .int .i64 0) rfl (by kernel_rfl) (by kernel_rfl) (by kernel_rfl) (fun _ _ _ h => h) (Or.inl ⟨by rfl, ?_⟩) (by assumption) ?_
                · (intro w1 hSw; (try dsimp only at hSw); go_simp)
                simp only [List.getElem_toArray, List.getElem_cons_succ, List.getElem_cons_zero, Act.put, List.setIfInBounds_toArray, List.set_cons_zero, List.set_cons_succ]
                refine wpAnyH_take (i := 3) (v := .bool true) rfl (by kernel_rfl) (by kernel_rfl) (by kernel_rfl) (fun _ _ _ h => h) (Or.inl ⟨by rfl, ?_⟩) (by assumption) ?_
                · (intro w1 hSw; (try dsimp only at hSw); go_simp)
                simp only [List.getElem_toArray, List.getElem_cons_succ, List.getElem_cons_zero, Act.put, List.setIfInBounds_toArray, List.set_cons_zero, List.set_cons_succ]
                refine wpAnyH_take (i := 4) (v := .bool true) rfl (by kernel_rfl) (by kernel_rfl) (by kernel_rfl) (fun _ _ _ h => h) (Or.inl ⟨by rfl, ?_⟩) (by assumption) ?_
                · (intro w1 hSw; (try dsimp only at hSw); go_simp)
                simp only [List.getElem_toArray, List.getElem_cons_succ, List.getElem_cons_zero, Act.put, List.setIfInBounds_toArray, List.set_cons_zero, List.set_cons_succ]
                refine wpAnyH_take (i := 5) (v := .bool true) rfl (by kernel_rfl) (by kernel_rfl) (by kernel_rfl) (fun _ _ _ h => h) (Or.inl ⟨by rfl, ?_⟩) (by assumption) ?_
                · (intro w1 hSw; (try dsimp only at hSw); go_simp)
                simp only [List.getElem_toArray, List.getElem_cons_succ, List.getElem_cons_zero, Act.put, List.setIfInBounds_toArray, List.set_cons_zero, List.set_cons_succ]
                refine wpAnyH_take (i := 6) (v := .int .i64 3) rfl (by kernel_rfl) (by kernel_rfl) (by kernel_rfl) (fun _ _ _ h => h) (Or.inl ⟨by rfl, ?_⟩) (by assumption) ?_
                · (intro w1 hSw; (try dsimp only at hSw); go_simp)
                simp only [List.getElem_toArray, List.getElem_cons_succ, List.getElem_cons_zero, Act.put, List.setIfInBounds_toArray, List.set_cons_zero, List.set_cons_succ]
                refine wpAnyH_take (i := 7) (v := .bool true) rfl (by kernel_rfl) (by kernel_rfl) (by kernel_rfl) (fun _ _ _ h => h) (Or.inl ⟨by rfl, ?_⟩) (by assumption) ?_
                · (intro w1 hSw; (try dsimp only at hSw); go_simp)
                simp only [List.getElem_toArray, List.getElem_cons_succ, List.getElem_cons_zero, Act.put, List.setIfInBounds_toArray, List.set_cons_zero, List.set_cons_succ]
                refine wpAnyH_take (i := 8) (v := .bool true) rfl (by kernel_rfl) (by kernel_rfl) (by kernel_rfl) (fun _ _ _ h => h) (Or.inl ⟨by rfl, ?_⟩) (by assumption) ?_
                · (intro w1 hSw; (try dsimp only at hSw); go_simp)
                simp only [List.getElem_toArray, List.getElem_cons_succ, List.getElem_cons_zero, Act.put, List.setIfInBounds_toArray, List.set_cons_zero, List.set_cons_succ]
                refine wpAnyH_take (i := 9) (v := .bool true) rfl (by kernel_rfl) (by kernel_rfl) (by kernel_rfl) (fun _ _ _ h => h) (Or.inl ⟨by rfl, ?_⟩) (by assumption) ?_
                · (intro w1 hSw; (try dsimp only at hSw); go_simp)
                simp only [List.getElem_toArray, List.getElem_cons_succ, List.getElem_cons_zero, Act.put, List.setIfInBounds_toArray, List.set_cons_zero, List.set_cons_succ]
                refine wpAnyH_take (i := 10) (v := .agg #[.slice za ZL zc, .int .i64 Z.lo, .int .i64 Z.ne, .int .i64 Z.ma]) rfl (by kernel_rfl) (by kernel_rfl) (by kernel_rfl) (fun _ _ _ h => h) (Or.inl ⟨by rfl, ?_⟩) (by assumption) ?_
                · (intro w1 hSw; (try dsimp only at hSw); go_simp)
                simp only [List.getElem_toArray, List.getElem_cons_succ, List.getElem_cons_zero, Act.put, List.setIfInBounds_toArray, List.set_cons_zero, List.set_cons_succ]
                refine wpAnyH_take (i := 12) (v := .agg #[.slice ta TL tc, .int .i64 t.lo, .int .i64 t.ne, .int .i64 t.ma]) rfl (by kernel_rfl) (by kernel_rfl) (by kernel_rfl) (fun _ _ _ h => h) (Or.inl ⟨by rfl, ?_⟩) (by assumption) ?_
                · (intro w1 hSw; (try dsimp only at hSw); go_simp)
                simp only [List.getElem_toArray, List.getElem_cons_succ, List.getElem_cons_zero, Act.put, List.setIfInBounds_toArray, List.set_cons_zero, List.set_cons_succ]
                refine wpAnyH_ready (rs := [11]) (by kernel_rfl) (by simp) ?_
                refine AllReadyH.cons (o := _) rfl (fun K hK => ?_) AllReadyH.nil
                go_simp
                refine (as13_any _ Z t1 HZt1.out.r (by rw [HZt.out]; have := HTl.out; omega)).mono ?_
                rintro e t2 ⟨q1, rfl, hq1, hb2⟩
                have HBt2 : Hid (Below W.heap.size W t2) := HBt1.out.trans (hb2.mono HBt1.out.size)
                have HKCt2 : Hid (t2.heap[P3]? = some (.cells #[.slice za ZL zc, .int .i64 Z.lo, .int .i64 Z.ne, .int .i64 Z.ma] 33) ∧ t2.heap[W.heap.size + 1]? = some (.cells #[.slice ta TL tc, .int .i64 t.lo, .int .i64 t.ne, .int .i64 t.ma] 33)) := ⟨(hb2.block _ (Array.getElem?_eq_some_iff.1 HKCt1.out.1).1).trans HKCt1.out.1, (hb2.block _ (Array.getElem?_eq_some_iff.1 HKCt1.out.2).1).trans HKCt1.out.2⟩
                have HHt2 : Hid ((t2.cell? ⟨P3, 0, none⟩ = some (.slice za ZL zc) ∧ t2.cell? ⟨P3, 1, none⟩ = some (.int .i64 Z.lo) ∧ t2.cell? ⟨P3, 2, none⟩ = some (.int .i64 Z.ne) ∧ t2.cell? ⟨P3, 3, none⟩ = some (.int .i64 Z.ma)) ∧ (t2.cell? ⟨W.heap.size + 1, 0, none⟩ = some (.slice ta TL tc) ∧ t2.cell? ⟨W.heap.size + 1, 1, none⟩ = some (.int .i64 t.lo) ∧ t2.cell? ⟨W.heap.size + 1, 2, none⟩ = some (.int .i64 t.ne) ∧ t2.cell? ⟨W.heap.size + 1, 3, none⟩ = some (.int .i64 t.ma))) := ⟨four13 HKCt2.out.1, four13 HKCt2.out.2⟩
                have HZt2 : Hid (UR t2 (.slice za ZL zc) Z.ru) := HZt1.out.below hb2
                have HTtt2 : Hid (UR t2 (.slice ta TL tc) t.ru) := HTtt1.out.below hb2
                obtain ⟨qa1, qc1, hqv1, _⟩ := hq1.form
                rw [HZL.out] at hqv1
                subst hqv1
                have HQ1t2 : Hid (RuR t2 (.slice qa1 ZL qc1) Z.ru) := hq1
                clear hb2 hq1
                go_simp
                refine hK.out _ _ ?_ (fun hHeld => ?_)
                · exact HHt2.out
                clear hK K
                refine wpAnyH_ready (rs := [13]) (by kernel_rfl) (by simp) ?_
                refine AllReadyH.cons (o := _) rfl (fun K hK => ?_) AllReadyH.nil
                go_simp
                refine (as13_any _ t t2 HTtt2.out.r (by have := HTl.out; omega)).mono ?_
                rintro e t3 ⟨q2, rfl, hq2, hb3⟩
                have HBt3 : Hid (Below W.heap.size W t3) := HBt2.out.trans (hb3.mono HBt2.out.size)
                have HKCt3 : Hid (t3.heap[P3]? = some (.cells #[.slice za ZL zc, .int .i64 Z.lo, .int .i64 Z.ne, .int .i64 Z.ma] 33) ∧ t3.heap[W.heap.size + 1]? = some (.cells #[.slice ta TL tc, .int .i64 t.lo, .int .i64 t.ne, .int .i64 t.ma] 33)) := ⟨(hb3.block _ (Array.getElem?_eq_some_iff.1 HKCt2.out.1).1).trans HKCt2.out.1, (hb3.block _ (Array.getElem?_eq_some_iff.1 HKCt2.out.2).1).trans HKCt2.out.2⟩
                have HHt3 : Hid ((t3.cell? ⟨P3, 0, none⟩ = some (.slice za ZL zc) ∧ t3.cell? ⟨P3, 1, none⟩ = some (.int .i64 Z.lo) ∧ t3.cell? ⟨P3, 2, none⟩ = some (.int .i64 Z.ne) ∧ t3.cell? ⟨P3, 3, none⟩ = some (.int .i64 Z.ma)) ∧ (t3.cell? ⟨W.heap.size + 1, 0, none⟩ = some (.slice ta TL tc) ∧ t3.cell? ⟨W.heap.size + 1, 1, none⟩ = some (.int .i64 t.lo) ∧ t3.cell? ⟨W.heap.size + 1, 2, none⟩ = some (.int .i64 t.ne) ∧ t3.cell? ⟨W.heap.size + 1, 3, none⟩ = some (.int .i64 t.ma))) := ⟨four13 HKCt3.out.1, four13 HKCt3.out.2⟩
                have HZt3 : Hid (UR t3 (.slice za ZL zc) Z.ru) := HZt2.out.below hb3
                have HTtt3 : Hid (UR t3 (.slice ta TL tc) t.ru) := HTtt2.out.below hb3
                have HQ1t3 : Hid (RuR t3 (.slice qa1 ZL qc1) Z.ru) := HQ1t2.out.below hb3
                obtain ⟨qa2, qc2, hqv2, _⟩ := hq2.form
                rw [HTL.out] at hqv2
                subst hqv2
                have HQ2t3 : Hid (RuR t3 (.slice qa2 TL qc2) t.ru) := hq2
                clear hb3 hq2
                go_simp
                refine hK.out _ _ ?_ (fun hHeld => ?_)
                · exact HHt3.out
                clear hK K
                refine wpAnyH_ready (rs := [14]) (by kernel_rfl) (by simp) ?_
                refine AllReadyH.cons (o := _) rfl (fun K hK => ?_) AllReadyH.nil
                go_simp
                refine (same13_any _ _ Z.ru t.ru Z.lo Z.ne Z.ma t.lo t.ne t.ma t3 HQ1t3.out HQ2t3.out).mono ?_
                rintro e t4 ⟨r, rfl, hr, hb4⟩
                have hr' : r = true := hr (by rw [HZt.out]; exact ⟨rfl, rfl, rfl, rfl⟩)
                subst hr'
                have HBt4 : Hid (Below W.heap.size W t4) := HBt3.out.trans (hb4.mono HBt3.out.size)
                have HKCt4 : Hid (t4.heap[P3]? = some (.cells #[.slice za ZL zc, .int .i64 Z.lo, .int .i64 Z.ne, .int .i64 Z.ma] 33) ∧ t4.heap[W.heap.size + 1]? = some (.cells #[.slice ta TL tc, .int .i64 t.lo, .int .i64 t.ne, .int .i64 t.ma] 33)) := ⟨(hb4.block _ (Array.getElem?_eq_some_iff.1 HKCt3.out.1).1).trans HKCt3.out.1, (hb4.block _ (Array.getElem?_eq_some_iff.1 HKCt3.out.2).1).trans HKCt3.out.2⟩
                have HHt4 : Hid ((t4.cell? ⟨P3, 0, none⟩ = some (.slice za ZL zc) ∧ t4.cell? ⟨P3, 1, none⟩ = some (.int .i64 Z.lo) ∧ t4.cell? ⟨P3, 2, none⟩ = some (.int .i64 Z.ne) ∧ t4.cell? ⟨P3, 3, none⟩ = some (.int .i64 Z.ma)) ∧ (t4.cell? ⟨W.heap.size + 1, 0, none⟩ = some (.slice ta TL tc) ∧ t4.cell? ⟨W.heap.size + 1, 1, none⟩ = some (.int .i64 t.lo) ∧ t4.cell? ⟨W.heap.size + 1, 2, none⟩ = some (.int .i64 t.ne) ∧ t4.cell? ⟨W.heap.size + 1, 3, none⟩ = some (.int .i64 t.ma))) := ⟨four13 HKCt4.out.1, four13 HKCt4.out.2⟩
                have HZt4 : Hid (UR t4 (.slice za ZL zc) Z.ru) := HZt3.out.below hb4
                have HTtt4 : Hid (UR t4 (.slice ta TL tc) t.ru) := HTtt3.out.below hb4
                clear hb4 hr
                go_simp
                refine hK.out _ _ ?_ (fun hHeld => ?_)
                · exact HHt4.out
                clear hK K
                refine wpAnyH_take (i := 15) (v := .bool true) rfl (by kernel_rfl) (by kernel_rfl) (by kernel_rfl) (fun _ _ _ h => h) (Or.inl ⟨by rfl, ?_⟩) (by assumption) ?_
                · (intro w1 hSw; (try dsimp only at hSw); go_simp)
                simp only [List.getElem_toArray, List.getElem_cons_succ, List.getElem_cons_zero, Act.put, List.setIfInBounds_toArray, List.set_cons_zero, List.set_cons_succ]
                refine wpAnyH_ready (rs := [16]) (by kernel_rfl) (by simp) ?_
                refine AllReadyH.cons (o := _) rfl (fun K hK => ?_) AllReadyH.nil
                go_simp
                refine hK.out _ _ ?_ (fun hHeld => ?_)
                · exact HHt4.out
                clear hK K
                refine wpAnyH_done (by kernel_rfl) ?_ _
                refine NoPanic.normal ?_
                go_wp2_with fail
                go_ret
                exact ⟨rfl, HBt4.out⟩
            · clear HRc HR
              obtain ⟨Y, HYe⟩ := hid_ex (ldS R)
              have hR2 : R.2 = 0 ∧ ldN R = 2 := by rw [hRe]; exact ⟨rfl, rfl⟩
              have HYy : Hid (Y = t) := by unfold Hid; rw [HYe.out, hRe]; rfl
              rw [hR2.1, hR2.2]
              rw [← HYe.out] at hu8 ⊢
              have HYl : Hid (Y.ru.length ≤ 100) := by unfold Hid; rw [HYy.out]; exact HTl.out
              obtain ⟨YL, HYL⟩ : ∃ k, Hid (Y.ru.length = k) := ⟨_, rfl⟩
              rw [HYL.out] at hu8 ⊢
              have HU8 : Hid (UR w8 (.slice ya YL yc) Y.ru) := hu8
              have HBd8 : Hid (Below w7.heap.size w7 w8) := hb8
              have HOn8 : Hid (([.slice ya YL yc, .int .i64 Y.lo, .int .i64 Y.ne, .int .i64 Y.ma] : List Value).toArray.all (·.oneCell') = true) := by unfold Hid; kernel_rfl
              clear hu8 hb8 hR2 HYe hRe
              go_wp2_with (refine stop_store 33 _ _ rfl ?_)
              refine Stop.of ?_
              refine wpList_storeN rfl _ _ _ rfl w8.heap.size 0 [.slice ya YL yc, .int .i64 Y.lo, .int .i64 Y.ne, .int .i64 Y.ma] rfl rfl _ _ (heap_alloc_new _ _) (by simp) (by kernel_rfl) HOn8.out ?_
              intro w9 hw9
              obtain ⟨hb9, hx9, hz9⟩ := stW_nw hw9 (by simp)
              obtain ⟨P2, HP2⟩ := hid_ex w8.heap.size
              rw [← HP2.out] at hx9 hz9 ⊢
              obtain ⟨u0, HU0⟩ := hid_ex w9.drew
              have hbu : Below w7.heap.size w7 u0 := by rw [HU0.out]; exact (HBd8.out.trans (hb9.mono HBd8.out.size)).drew
              have hbu8 : Below w8.heap.size w8 u0 := by rw [HU0.out]; exact hb9.drew
              have HFu0 : Hid (FsW W0 u0 (.pointer (some ⟨g0, 0, none⟩)) S3) := HF7.out.below hbu
              have HYu0 : Hid (UR u0 (.slice ya YL yc) Y.ru) := HU8.out.below hbu8
              have HSu0 : Hid (UR u0 (.slice sa SL sc) s.ru) := HUW.out.below HFu0.out.b
              have HTtu0 : Hid (UR u0 (.slice ta TL tc) t.ru) := HTW.out.below HFu0.out.b
              have HKBu0 : Hid (u0.heap[P2]? = some (.cells #[.slice ya YL yc, .int .i64 Y.lo, .int .i64 Y.ne, .int .i64 Y.ma] 33) ∧ u0.heap[W.heap.size]? = some (.cells #[.slice sa SL sc, .int .i64 s.lo, .int .i64 s.ne, .int .i64 s.ma] 33) ∧ u0.heap[W.heap.size + 1]? = some (.cells #[.slice ta TL tc, .int .i64 t.lo, .int .i64 t.ne, .int .i64 t.ma] 33)) := ⟨by rw [HU0.out]; exact hx9, (HFu0.out.b.block _ (by omega)).trans HSW.out, (HFu0.out.b.block _ (by omega)).trans HXW.out⟩
              have HGu0 : Hid ((u0.cell? ⟨P2, 0, none⟩ = some (.slice ya YL yc) ∧ u0.cell? ⟨P2, 1, none⟩ = some (.int .i64 Y.lo) ∧ u0.cell? ⟨P2, 2, none⟩ = some (.int .i64 Y.ne) ∧ u0.cell? ⟨P2, 3, none⟩ = some (.int .i64 Y.ma)) ∧ (u0.cell? ⟨W.heap.size, 0, none⟩ = some (.slice sa SL sc) ∧ u0.cell? ⟨W.heap.size, 1, none⟩ = some (.int .i64 s.lo) ∧ u0.cell? ⟨W.heap.size, 2, none⟩ = some (.int .i64 s.ne) ∧ u0.cell? ⟨W.heap.size, 3, none⟩ = some (.int .i64 s.ma)) ∧ (u0.cell? ⟨W.heap.size + 1, 0, none⟩ = some (.slice ta TL tc) ∧ u0.cell? ⟨W.heap.size + 1, 1, none⟩ = some (.int .i64 t.lo) ∧ u0.cell? ⟨W.heap.size + 1, 2, none⟩ = some (.int .i64 t.ne) ∧ u0.cell? ⟨W.heap.size + 1, 3, none⟩ = some (.int .i64 t.ma))) := ⟨four13 HKBu0.out.1, four13 HKBu0.out.2.1, four13 HKBu0.out.2.2⟩
              clear hw9 hb9 hx9 hbu hbu8 HP2
              go_wp2_with fail
              refine wp_region_noPanic ?_
              refine wp_region_held_drew (S := fun w' => (w'.cell? ⟨P2, 0, none⟩ = some (.slice ya YL yc) ∧ w'.cell? ⟨P2, 1, none⟩ = some (.int .i64 Y.lo) ∧ w'.cell? ⟨P2, 2, none⟩ = some (.int .i64 Y.ne) ∧ w'.cell? ⟨P2, 3, none⟩ = some (.int .i64 Y.ma)) ∧ (w'.cell? ⟨W.heap.size, 0, none⟩ = some (.slice sa SL sc) ∧ w'.cell? ⟨W.heap.size, 1, none⟩ = some (.int .i64 s.lo) ∧ w'.cell? ⟨W.heap.size, 2, none⟩ = some (.int .i64 s.ne) ∧ w'.cell? ⟨W.heap.size, 3, none⟩ = some (.int .i64 s.ma)) ∧ (w'.cell? ⟨W.heap.size + 1, 0, none⟩ = some (.slice ta TL tc) ∧ w'.cell? ⟨W.heap.size + 1, 1, none⟩ = some (.int .i64 t.lo) ∧ w'.cell? ⟨W.heap.size + 1, 2, none⟩ = some (.int .i64 t.ne) ∧ w'.cell? ⟨W.heap.size + 1, 3, none⟩ = some (.int .i64 t.ma))) (by kernel_rfl) ?_ (fun hHeld => ?_)
              · (rw [← HU0.out]; exact HGu0.out)
              rw [← HU0.out]
              clear HU0
              refine wpAnyH_take (i := 0) (v := .int .i64 2) rfl (by kernel_rfl) (by kernel_rfl) (by kernel_rfl) (fun _ _ _ h => h) (Or.inl ⟨by rfl, ?_⟩) (by assumption) ?_
              · (intro w1 hSw; (try dsimp only at hSw); go_simp)
              simp only [List.getElem_toArray, List.getElem_cons_zero, Act.put, List.setIfInBounds_toArray, List.set_cons_zero, List.set_cons_succ]
              refine wpAnyH_take (i := 1) (v := .bool false) rfl (by kernel_rfl) (by kernel_rfl) (by kernel_rfl) (fun _ _ _ h => h) (Or.inl ⟨by rfl, ?_⟩) (by assumption) ?_
              · (intro w1 hSw; (try dsimp only at hSw); go_simp)
              simp only [List.getElem_toArray, List.getElem_cons_succ, List.getElem_cons_zero, Act.put, List.setIfInBounds_toArray, List.set_cons_zero, List.set_cons_succ]
              refine wpAnyH_take (i := 2) (v := .bool false) rfl (by kernel_rfl) (by kernel_rfl) (by kernel_rfl) (fun _ _ _ h => h) (Or.inl ⟨by rfl, ?_⟩) (by assumption) ?_
              · (intro w1 hSw; (try dsimp only at hSw); go_simp)
              simp only [List.getElem_toArray, List.getElem_cons_succ, List.getElem_cons_zero, Act.put, List.setIfInBounds_toArray, List.set_cons_zero, List.set_cons_succ]
              refine wpAnyH_take (i := 3) (v := undef) rfl (by kernel_rfl) (by kernel_rfl) (by kernel_rfl) (fun _ _ _ h => h) (Or.inr ⟨by rfl, rfl⟩) (by assumption) ?_
              simp only [List.getElem_toArray, List.getElem_cons_succ, List.getElem_cons_zero, Act.put, List.setIfInBounds_toArray, List.set_cons_zero, List.set_cons_succ]
              refine wpAnyH_take (i := 4) (v := undef) rfl (by kernel_rfl) (by kernel_rfl) (by kernel_rfl) (fun _ _ _ h => h) (Or.inr ⟨by rfl, rfl⟩) (by assumption) ?_
              simp only [List.getElem_toArray, List.getElem_cons_succ, List.getElem_cons_zero, Act.put, List.setIfInBounds_toArray, List.set_cons_zero, List.set_cons_succ]
              refine wpAnyH_take (i := 5) (v := undef) rfl (by kernel_rfl) (by kernel_rfl) (by kernel_rfl) (fun _ _ _ h => h) (Or.inr ⟨by rfl, rfl⟩) (by assumption) ?_
              simp only [List.getElem_toArray, List.getElem_cons_succ, List.getElem_cons_zero, Act.put, List.setIfInBounds_toArray, List.set_cons_zero, List.set_cons_succ]
              refine wpAnyH_take (i := 6) (v := undef) rfl (by kernel_rfl) (by kernel_rfl) (by kernel_rfl) (fun _ _ _ h => h) (Or.inr ⟨by rfl, rfl⟩) (by assumption) ?_
              simp only [List.getElem_toArray, List.getElem_cons_succ, List.getElem_cons_zero, Act.put, List.setIfInBounds_toArray, List.set_cons_zero, List.set_cons_succ]
              refine wpAnyH_take (i := 7) (v := undef) rfl (by kernel_rfl) (by kernel_rfl) (by kernel_rfl) (fun _ _ _ h => h) (Or.inr ⟨by rfl, rfl⟩) (by assumption) ?_
              simp only [List.getElem_toArray, List.getElem_cons_succ, List.getElem_cons_zero, Act.put, List.setIfInBounds_toArray, List.set_cons_zero, List.set_cons_succ]
              refine wpAnyH_take (i := 8) (v := .bool false) rfl (by kernel_rfl) (by kernel_rfl) (by kernel_rfl) (fun _ _ _ h => h) (Or.inl ⟨by rfl, ?_⟩) (by assumption) ?_
              · (intro w1 hSw; (try dsimp only at hSw); go_simp)
              simp only [List.getElem_toArray, List.getElem_cons_succ, List.getElem_cons_zero, Act.put, List.setIfInBounds_toArray, List.set_cons_zero, List.set_cons_succ]
              refine wpAnyH_take (i := 9) (v := .int .i64 2) rfl (by kernel_rfl) (by kernel_rfl) (by kernel_rfl) (fun _ _ _ h => h) (Or.inl ⟨by rfl, ?_⟩) (by assumption) ?_
              · (intro w1 hSw; (try dsimp only at hSw); go_simp)
              simp only [List.getElem_toArray, List.getElem_cons_succ, List.getElem_cons_zero, Act.put, List.setIfInBounds_toArray, List.set_cons_zero, List.set_cons_succ]
              refine wpAnyH_take (i := 10) (v := .bool true) rfl (by kernel_rfl) (by kernel_rfl) (by kernel_rfl) (fun _ _ _ h => h) (Or.inl ⟨by rfl, ?_⟩) (by assumption) ?_
              · (intro w1 hSw; (try dsimp only at hSw); go_simp)
              simp only [List.getElem_toArray, List.getElem_cons_succ, List.getElem_cons_zero, Act.put, List.setIfInBounds_toArray, List.set_cons_zero, List.set_cons_succ]
              refine wpAnyH_take (i := 11) (v := .bool true) rfl (by kernel_rfl) (by kernel_rfl) (by kernel_rfl) (fun _ _ _ h => h) (Or.inl ⟨by rfl, ?_⟩) (by assumption) ?_
              · (intro w1 hSw; (try dsimp only at hSw); go_simp)
              simp only [List.getElem_toArray, List.getElem_cons_succ, List.getElem_cons_zero, Act.put, List.setIfInBounds_toArray, List.set_cons_zero, List.set_cons_succ]
              refine wpAnyH_take (i := 12) (v := .agg #[.slice ya YL yc, .int .i64 Y.lo, .int .i64 Y.ne, .int .i64 Y.ma]) rfl (by kernel_rfl) (by kernel_rfl) (by kernel_rfl) (fun _ _ _ h => h) (Or.inl ⟨by rfl, ?_⟩) (by assumption) ?_
              · (intro w1 hSw; (try dsimp only at hSw); go_simp)
              simp only [List.getElem_toArray, List.getElem_cons_succ, List.getElem_cons_zero, Act.put, List.setIfInBounds_toArray, List.set_cons_zero, List.set_cons_succ]
              refine wpAnyH_take (i := 14) (v := .agg #[.slice ta TL tc, .int .i64 t.lo, .int .i64 t.ne, .int .i64 t.ma]) rfl (by kernel_rfl) (by kernel_rfl) (by kernel_rfl) (fun _ _ _ h => h) (Or.inl ⟨by rfl, ?_⟩) (by assumption) ?_
              · (intro w1 hSw; (try dsimp only at hSw); go_simp)
              simp only [List.getElem_toArray, List.getElem_cons_succ, List.getElem_cons_zero, Act.put, List.setIfInBounds_toArray, List.set_cons_zero, List.set_cons_succ]
              refine wpAnyH_ready (rs := [13]) (by kernel_rfl) (by simp) ?_
              refine AllReadyH.cons (o := _) rfl (fun K hK => ?_) AllReadyH.nil
              go_simp
              refine (as13_any _ Y u0 HYu0.out.r (by have := HYl.out; omega)).mono ?_
              rintro e u1 ⟨q1, rfl, hq1, hb1⟩
              have HFu1 : Hid (FsW W0 u1 (.pointer (some ⟨g0, 0, none⟩)) S3) := HFu0.out.below hb1
              have HKBu1 : Hid (u1.heap[P2]? = some (.cells #[.slice ya YL yc, .int .i64 Y.lo, .int .i64 Y.ne, .int .i64 Y.ma] 33) ∧ u1.heap[W.heap.size]? = some (.cells #[.slice sa SL sc, .int .i64 s.lo, .int .i64 s.ne, .int .i64 s.ma] 33) ∧ u1.heap[W.heap.size + 1]? = some (.cells #[.slice ta TL tc, .int .i64 t.lo, .int .i64 t.ne, .int .i64 t.ma] 33)) := ⟨(hb1.block _ (Array.getElem?_eq_some_iff.1 HKBu0.out.1).1).trans HKBu0.out.1, (hb1.block _ (Array.getElem?_eq_some_iff.1 HKBu0.out.2.1).1).trans HKBu0.out.2.1, (hb1.block _ (Array.getElem?_eq_some_iff.1 HKBu0.out.2.2).1).trans HKBu0.out.2.2⟩
              have HGu1 : Hid ((u1.cell? ⟨P2, 0, none⟩ = some (.slice ya YL yc) ∧ u1.cell? ⟨P2, 1, none⟩ = some (.int .i64 Y.lo) ∧ u1.cell? ⟨P2, 2, none⟩ = some (.int .i64 Y.ne) ∧ u1.cell? ⟨P2, 3, none⟩ = some (.int .i64 Y.ma)) ∧ (u1.cell? ⟨W.heap.size, 0, none⟩ = some (.slice sa SL sc) ∧ u1.cell? ⟨W.heap.size, 1, none⟩ = some (.int .i64 s.lo) ∧ u1.cell? ⟨W.heap.size, 2, none⟩ = some (.int .i64 s.ne) ∧ u1.cell? ⟨W.heap.size, 3, none⟩ = some (.int .i64 s.ma)) ∧ (u1.cell? ⟨W.heap.size + 1, 0, none⟩ = some (.slice ta TL tc) ∧ u1.cell? ⟨W.heap.size + 1, 1, none⟩ = some (.int .i64 t.lo) ∧ u1.cell? ⟨W.heap.size + 1, 2, none⟩ = some (.int .i64 t.ne) ∧ u1.cell? ⟨W.heap.size + 1, 3, none⟩ = some (.int .i64 t.ma))) := ⟨four13 HKBu1.out.1, four13 HKBu1.out.2.1, four13 HKBu1.out.2.2⟩
              have HYu1 : Hid (UR u1 (.slice ya YL yc) Y.ru) := HYu0.out.below hb1
              have HSu1 : Hid (UR u1 (.slice sa SL sc) s.ru) := HSu0.out.below hb1
              have HTtu1 : Hid (UR u1 (.slice ta TL tc) t.ru) := HTtu0.out.below hb1
              obtain ⟨qa1, qc1, hqv1, _⟩ := hq1.form
              rw [HYL.out] at hqv1
              subst hqv1
              have HQ1u1 : Hid (RuR u1 (.slice qa1 YL qc1) Y.ru) := hq1
              clear hb1 hq1
              go_simp
              refine hK.out _ _ ?_ (fun hHeld => ?_)
              · exact HGu1.out
              clear hK K
              refine wpAnyH_ready (rs := [15]) (by kernel_rfl) (by simp) ?_
              refine AllReadyH.cons (o := _) rfl (fun K hK => ?_) AllReadyH.nil
              go_simp
              refine (as13_any _ t u1 HTtu1.out.r (by have := HTl.out; omega)).mono ?_
              rintro e u2 ⟨q2, rfl, hq2, hb2⟩
              have HFu2 : Hid (FsW W0 u2 (.pointer (some ⟨g0, 0, none⟩)) S3) := HFu1.out.below hb2
              have HKBu2 : Hid (u2.heap[P2]? = some (.cells #[.slice ya YL yc, .int .i64 Y.lo, .int .i64 Y.ne, .int .i64 Y.ma] 33) ∧ u2.heap[W.heap.size]? = some (.cells #[.slice sa SL sc, .int .i64 s.lo, .int .i64 s.ne, .int .i64 s.ma] 33) ∧ u2.heap[W.heap.size + 1]? = some (.cells #[.slice ta TL tc, .int .i64 t.lo, .int .i64 t.ne, .int .i64 t.ma] 33)) := ⟨(hb2.block _ (Array.getElem?_eq_some_iff.1 HKBu1.out.1).1).trans HKBu1.out.1, (hb2.block _ (Array.getElem?_eq_some_iff.1 HKBu1.out.2.1).1).trans HKBu1.out.2.1, (hb2.block _ (Array.getElem?_eq_some_iff.1 HKBu1.out.2.2).1).trans HKBu1.out.2.2⟩
              have HGu2 : Hid ((u2.cell? ⟨P2, 0, none⟩ = some (.slice ya YL yc) ∧ u2.cell? ⟨P2, 1, none⟩ = some (.int .i64 Y.lo) ∧ u2.cell? ⟨P2, 2, none⟩ = some (.int .i64 Y.ne) ∧ u2.cell? ⟨P2, 3, none⟩ = some (.int .i64 Y.ma)) ∧ (u2.cell? ⟨W.heap.size, 0, none⟩ = some (.slice sa SL sc) ∧ u2.cell? ⟨W.heap.size, 1, none⟩ = some (.int .i64 s.lo) ∧ u2.cell? ⟨W.heap.size, 2, none⟩ = some (.int .i64 s.ne) ∧ u2.cell? ⟨W.heap.size, 3, none⟩ = some (.int .i64 s.ma)) ∧ (u2.cell? ⟨W.heap.size + 1, 0, none⟩ = some (.slice ta TL tc) ∧ u2.cell? ⟨W.heap.size + 1, 1, none⟩ = some (.int .i64 t.lo) ∧ u2.cell? ⟨W.heap.size + 1, 2, none⟩ = some (.int .i64 t.ne) ∧ u2.cell? ⟨W.heap.size + 1, 3, none⟩ = some (.int .i64 t.ma))) := ⟨four13 HKBu2.out.1, four13 HKBu2.out.2.1, four13 HKBu2.out.2.2⟩
              have HYu2 : Hid (UR u2 (.slice ya YL yc) Y.ru) := HYu1.out.below hb2
              have HSu2 : Hid (UR u2 (.slice sa SL sc) s.ru) := HSu1.out.below hb2
              have HTtu2 : Hid (UR u2 (.slice ta TL tc) t.ru) := HTtu1.out.below hb2
              have HQ1u2 : Hid (RuR u2 (.slice qa1 YL qc1) Y.ru) := HQ1u1.out.below hb2
              obtain ⟨qa2, qc2, hqv2, _⟩ := hq2.form
              rw [HTL.out] at hqv2
              subst hqv2
              have HQ2u2 : Hid (RuR u2 (.slice qa2 TL qc2) t.ru) := hq2
              clear hb2 hq2
              go_simp
              refine hK.out _ _ ?_ (fun hHeld => ?_)
              · exact HGu2.out
              clear hK K
              refine wpAnyH_ready (rs := [16]) (by kernel_rfl) (by simp) ?_
              refine AllReadyH.cons (o := _) rfl (fun K hK => ?_) AllReadyH.nil
              go_simp
              refine (same13_any _ _ Y.ru t.ru Y.lo Y.ne Y.ma t.lo t.ne t.ma u2 HQ1u2.out HQ2u2.out).mono ?_
              rintro e u3 ⟨r1, rfl, hr1, hb3⟩
              have h1 : r1 = true := hr1 (by rw [HYy.out]; exact ⟨rfl, rfl, rfl, rfl⟩)
              subst h1
              have HFu3 : Hid (FsW W0 u3 (.pointer (some ⟨g0, 0, none⟩)) S3) := HFu2.out.below hb3
              have HKBu3 : Hid (u3.heap[P2]? = some (.cells #[.slice ya YL yc, .int .i64 Y.lo, .int .i64 Y.ne, .int .i64 Y.ma] 33) ∧ u3.heap[W.heap.size]? = some (.cells #[.slice sa SL sc, .int .i64 s.lo, .int .i64 s.ne, .int .i64 s.ma] 33) ∧ u3.heap[W.heap.size + 1]? = some (.cells #[.slice ta TL tc, .int .i64 t.lo, .int .i64 t.ne, .int .i64 t.ma] 33)) := ⟨(hb3.block _ (Array.getElem?_eq_some_iff.1 HKBu2.out.1).1).trans HKBu2.out.1, (hb3.block _ (Array.getElem?_eq_some_iff.1 HKBu2.out.2.1).1).trans HKBu2.out.2.1, (hb3.block _ (Array.getElem?_eq_some_iff.1 HKBu2.out.2.2).1).trans HKBu2.out.2.2⟩
              have HGu3 : Hid ((u3.cell? ⟨P2, 0, none⟩ = some (.slice ya YL yc) ∧ u3.cell? ⟨P2, 1, none⟩ = some (.int .i64 Y.lo) ∧ u3.cell? ⟨P2, 2, none⟩ = some (.int .i64 Y.ne) ∧ u3.cell? ⟨P2, 3, none⟩ = some (.int .i64 Y.ma)) ∧ (u3.cell? ⟨W.heap.size, 0, none⟩ = some (.slice sa SL sc) ∧ u3.cell? ⟨W.heap.size, 1, none⟩ = some (.int .i64 s.lo) ∧ u3.cell? ⟨W.heap.size, 2, none⟩ = some (.int .i64 s.ne) ∧ u3.cell? ⟨W.heap.size, 3, none⟩ = some (.int .i64 s.ma)) ∧ (u3.cell? ⟨W.heap.size + 1, 0, none⟩ = some (.slice ta TL tc) ∧ u3.cell? ⟨W.heap.size + 1, 1, none⟩ = some (.int .i64 t.lo) ∧ u3.cell? ⟨W.heap.size + 1, 2, none⟩ = some (.int .i64 t.ne) ∧ u3.cell? ⟨W.heap.size + 1, 3, none⟩ = some (.int .i64 t.ma))) := ⟨four13 HKBu3.out.1, four13 HKBu3.out.2.1, four13 HKBu3.out.2.2⟩
              have HYu3 : Hid (UR u3 (.slice ya YL yc) Y.ru) := HYu2.out.below hb3
              have HSu3 : Hid (UR u3 (.slice sa SL sc) s.ru) := HSu2.out.below hb3
              have HTtu3 : Hid (UR u3 (.slice ta TL tc) t.ru) := HTtu2.out.below hb3
              clear hb3 hr1
              go_simp
              refine hK.out _ _ ?_ (fun hHeld => ?_)
              · exact HGu3.out
              clear hK K
              refine wpAnyH_take (i := 17) (v := .bool true) rfl (by kernel_rfl) (by kernel_rfl) (by kernel_rfl) (fun _ _ _ h => h) (Or.inl ⟨by rfl, ?_⟩) (by assumption) ?_
              · (intro w1 hSw; (try dsimp only at hSw); go_simp)
              simp only [List.getElem_toArray, List.getElem_cons_succ, List.getElem_cons_zero, Act.put, List.setIfInBounds_toArray, List.set_cons_zero, List.set_cons_succ]
              refine wpAnyH_take (i := 18) (v := .bool false) rfl (by kernel_rfl) (by kernel_rfl) (by kernel_rfl) (fun _ _ _ h => h) (Or.inl ⟨by rfl, ?_⟩) (by assumption) ?_
              · (intro w1 hSw; (try dsimp only at hSw); go_simp)
              simp only [List.getElem_toArray, List.getElem_cons_succ, List.getElem_cons_zero, Act.put, List.setIfInBounds_toArray, List.set_cons_zero, List.set_cons_succ]
              refine wpAnyH_take (i := 19) (v := .bool true) rfl (by kernel_rfl) (by kernel_rfl) (by kernel_rfl) (fun _ _ _ h => h) (Or.inl ⟨by rfl, ?_⟩) (by assumption) ?_
              · (intro w1 hSw; (try dsimp only at hSw); go_simp)
              simp only [List.getElem_toArray, List.getElem_cons_succ, List.getElem_cons_zero, Act.put, List.setIfInBounds_toArray, List.set_cons_zero, List.set_cons_succ]
              refine wpAnyH_done (by kernel_rfl) ?_ _
              refine NoPanic.normal ?_
              clear HGu0 HGu1 HGu2 HGu3
              by_cases hH : H = 0
              · subst hH
                obtain ⟨x0, Hx0⟩ := hid_ex u3
                have HFx : Hid (FsW W0 x0 (.pointer (some ⟨g0, 0, none⟩)) S3) := by unfold Hid; rw [Hx0.out]; exact HFu3.out
                have HKBx : Hid (x0.heap[P2]? = some (.cells #[.slice ya YL yc, .int .i64 Y.lo, .int .i64 Y.ne, .int .i64 Y.ma] 33) ∧ x0.heap[W.heap.size]? = some (.cells #[.slice sa SL sc, .int .i64 s.lo, .int .i64 s.ne, .int .i64 s.ma] 33) ∧ x0.heap[W.heap.size + 1]? = some (.cells #[.slice ta TL tc, .int .i64 t.lo, .int .i64 t.ne, .int .i64 t.ma] 33)) := by unfold Hid; rw [Hx0.out]; exact HKBu3.out
                have HBx : Hid (Below W.heap.size W x0) := HBW0.out.trans (HFx.out.b.mono (by omega))
                rw [← Hx0.out]
                clear Hx0
                cases again with
                | false =>
                  go_wp2_with fail
                  refine (alive13_any x0).mono ?_
                  rintro e wz ⟨rfl, hbz⟩
                  have HBz : Hid (Below W.heap.size W wz) := HBx.out.trans (hbz.mono HBx.out.size)
                  clear hbz
                  go_wp2_with fail
                  go_ret
                  exact ⟨rfl, HBz.out⟩
                | true =>
                  obtain ⟨c0, c1, c2, c3⟩ := four13 HKBx.out.2.2
                  have hSv := HFx.out.save 3 _ t HTW.out (by rw [HP3.out]; simp) HTb.out
                  have HSv : Hid (Calls Tryz.prog 17 #[.pointer (some ⟨g0, 0, none⟩), .int .i64 3, .agg #[.slice ta TL tc, .int .i64 t.lo, .int .i64 t.ne, .int .i64 t.ma]] x0 (FwR W0 (.pointer (some ⟨g0, 0, none⟩)) (mfSave S3 3 t))) := hSv
                  clear hSv
                  go_wp2_with fail
                  refine HSv.out.mono ?_
                  clear HSv c0 c1 c2 c3
                  rintro e y1 ⟨rfl, hf1⟩
                  rw [HSv3.out]
                  obtain ⟨S5, HS5⟩ := hid_ex (mfSave S3 3 t).2
                  rw [← HS5.out] at hf1 HLd3
                  have HFy1 : Hid (FsW W0 y1 (.pointer (some ⟨g0, 0, none⟩)) S5) := hf1
                  clear hf1
                  have HCr : Hid (Calls Tryz.prog 27 #[.pointer (some ⟨g0, 0, none⟩), .int .i64 ops, .slice ka KL kc] y1 _) := HFy1.out.crash ops _ ks HKW.out
                  go_wp2_with fail
                  refine HCr.out.mono ?_
                  clear HCr
                  rintro e y2 ⟨rfl, hf2⟩
                  simp only at hf2 ⊢
                  have HFy2 : Hid (FsW W0 y2 (.pointer (some ⟨g0, 0, none⟩)) (sfCrash S5 ops ks)) := hf2
                  have HBy2 : Hid (Below W.heap.size W y2) := HBW0.out.trans (hf2.b.mono (by omega))
                  have HTy2 : Hid (y2.heap[W.heap.size + 1]? = some (.cells #[.slice ta TL tc, .int .i64 t.lo, .int .i64 t.ne, .int .i64 t.ma] 33)) := (hf2.b.block _ (by omega)).trans HXW.out
                  have HTty2 : Hid (UR y2 (.slice ta TL tc) t.ru) := HTW.out.below hf2.b
                  clear hf2 HFy1
                  have hLd := HFy2.out.load HLd3.out.2 HTb.out
                  rw [HLd3.out.1] at hLd
                  have HLd : Hid (Calls Tryz.prog 12 #[.pointer (some ⟨g0, 0, none⟩)] y2 (LdP (some (t, 3), 0) y2)) := hLd
                  clear hLd
                  go_wp2_with fail
                  refine HLd.out.mono ?_
                  clear HLd
                  rintro e y3 ⟨v3, rfl, hu3, hb3⟩
                  obtain ⟨za, zc, hv3, _⟩ := hu3.r.form
                  subst hv3
                  rw [show (((some (t, (3 : Int)), (0 : Int)) : Option (St × Int) × Int)).2 = 0 from rfl, show ldN ((some (t, (3 : Int)), (0 : Int)) : Option (St × Int) × Int) = 3 from rfl]
                  obtain ⟨Z, HZe⟩ := hid_ex (ldS ((some (t, (3 : Int)), (0 : Int)) : Option (St × Int) × Int))
                  have HZt : Hid (Z = t) := by unfold Hid; rw [HZe.out]; rfl
                  rw [← HZe.out] at hu3 ⊢
                  obtain ⟨ZL, HZL⟩ : ∃ k, Hid (Z.ru.length = k) := ⟨_, rfl⟩
                  rw [HZL.out] at hu3 ⊢
                  have HU3 : Hid (UR y3 (.slice za ZL zc) Z.ru) := hu3
                  have HBd3 : Hid (Below y2.heap.size y2 y3) := hb3
                  have HOn3 : Hid (([.slice za ZL zc, .int .i64 Z.lo, .int .i64 Z.ne, .int .i64 Z.ma] : List Value).toArray.all (·.oneCell') = true) := by unfold Hid; kernel_rfl
                  clear hu3 hb3 HZe
                  go_wp2_with (refine stop_store 33 _ _ rfl ?_)
                  refine Stop.of ?_
                  refine wpList_storeN rfl _ _ _ rfl y3.heap.size 0 [.slice za ZL zc, .int .i64 Z.lo, .int .i64 Z.ne, .int .i64 Z.ma] rfl rfl _ _ (heap_alloc_new _ _) (by simp) (by kernel_rfl) HOn3.out ?_
                  intro y4 hy4
                  obtain ⟨hb4, hx4, hz4⟩ := stW_nw hy4 (by simp)
                  obtain ⟨P3, HP3e⟩ := hid_ex y3.heap.size
                  rw [← HP3e.out] at hx4 hz4 ⊢
                  obtain ⟨t0, HT0⟩ := hid_ex y4.drew
                  have hbu : Below y2.heap.size y2 t0 := by rw [HT0.out]; exact (HBd3.out.trans (hb4.mono HBd3.out.size)).drew
                  have hbu3 : Below y3.heap.size y3 t0 := by rw [HT0.out]; exact hb4.drew
                  have HBt0 : Hid (Below W.heap.size W t0) := HBy2.out.trans (hbu.mono HBy2.out.size)
                  have HZt0 : Hid (UR t0 (.slice za ZL zc) Z.ru) := HU3.out.below hbu3
                  have HTtt0 : Hid (UR t0 (.slice ta TL tc) t.ru) := HTty2.out.below hbu
                  have HKCt0 : Hid (t0.heap[P3]? = some (.cells #[.slice za ZL zc, .int .i64 Z.lo, .int .i64 Z.ne, .int .i64 Z.ma] 33) ∧ t0.heap[W.heap.size + 1]? = some (.cells #[.slice ta TL tc, .int .i64 t.lo, .int .i64 t.ne, .int .i64 t.ma] 33)) := ⟨by rw [HT0.out]; exact hx4, (hbu.block _ (Array.getElem?_eq_some_iff.1 HTy2.out).1).trans HTy2.out⟩
                  have HHt0 : Hid ((t0.cell? ⟨P3, 0, none⟩ = some (.slice za ZL zc) ∧ t0.cell? ⟨P3, 1, none⟩ = some (.int .i64 Z.lo) ∧ t0.cell? ⟨P3, 2, none⟩ = some (.int .i64 Z.ne) ∧ t0.cell? ⟨P3, 3, none⟩ = some (.int .i64 Z.ma)) ∧ (t0.cell? ⟨W.heap.size + 1, 0, none⟩ = some (.slice ta TL tc) ∧ t0.cell? ⟨W.heap.size + 1, 1, none⟩ = some (.int .i64 t.lo) ∧ t0.cell? ⟨W.heap.size + 1, 2, none⟩ = some (.int .i64 t.ne) ∧ t0.cell? ⟨W.heap.size + 1, 3, none⟩ = some (.int .i64 t.ma))) := ⟨four13 HKCt0.out.1, four13 HKCt0.out.2⟩
                  clear hy4 hb4 hx4 hbu hbu3 HP3e
                  go_wp2_with fail
                  refine wp_region_noPanic ?_
                  refine wp_region_held_drew (S := fun w' => (w'.cell? ⟨P3, 0, none⟩ = some (.slice za ZL zc) ∧ w'.cell? ⟨P3, 1, none⟩ = some (.int .i64 Z.lo) ∧ w'.cell? ⟨P3, 2, none⟩ = some (.int .i64 Z.ne) ∧ w'.cell? ⟨P3, 3, none⟩ = some (.int .i64 Z.ma)) ∧ (w'.cell? ⟨W.heap.size + 1, 0, none⟩ = some (.slice ta TL tc) ∧ w'.cell? ⟨W.heap.size + 1, 1, none⟩ = some (.int .i64 t.lo) ∧ w'.cell? ⟨W.heap.size + 1, 2, none⟩ = some (.int .i64 t.ne) ∧ w'.cell? ⟨W.heap.size + 1, 3, none⟩ = some (.int .i64 t.ma))) (by kernel_rfl) ?_ (fun hHeld => ?_)
                  · (rw [← HT0.out]; exact HHt0.out)
                  rw [← HT0.out]
                  clear HT0
                  refine wpAnyH_ready (rs := [0]) (by kernel_rfl) (by simp) ?_
                  refine AllReadyH.cons (o := _) rfl (fun K hK => ?_) AllReadyH.nil
                  go_simp
                  refine (alive13_any _).mono ?_
                  rintro e t1 ⟨rfl, hb1⟩
                  have HBt1 : Hid (Below W.heap.size W t1) := HBt0.out.trans (hb1.mono HBt0.out.size)
                  have HKCt1 : Hid (t1.heap[P3]? = some (.cells #[.slice za ZL zc, .int .i64 Z.lo, .int .i64 Z.ne, .int .i64 Z.ma] 33) ∧ t1.heap[W.heap.size + 1]? = some (.cells #[.slice ta TL tc, .int .i64 t.lo, .int .i64 t.ne, .int .i64 t.ma] 33)) := ⟨(hb1.block _ (Array.getElem?_eq_some_iff.1 HKCt0.out.1).1).trans HKCt0.out.1, (hb1.block _ (Array.getElem?_eq_some_iff.1 HKCt0.out.2).1).trans HKCt0.out.2⟩
                  have HHt1 : Hid ((t1.cell? ⟨P3, 0, none⟩ = some (.slice za ZL zc) ∧ t1.cell? ⟨P3, 1, none⟩ = some (.int .i64 Z.lo) ∧ t1.cell? ⟨P3, 2, none⟩ = some (.int .i64 Z.ne) ∧ t1.cell? ⟨P3, 3, none⟩ = some (.int .i64 Z.ma)) ∧ (t1.cell? ⟨W.heap.size + 1, 0, none⟩ = some (.slice ta TL tc) ∧ t1.cell? ⟨W.heap.size + 1, 1, none⟩ = some (.int .i64 t.lo) ∧ t1.cell? ⟨W.heap.size + 1, 2, none⟩ = some (.int .i64 t.ne) ∧ t1.cell? ⟨W.heap.size + 1, 3, none⟩ = some (.int .i64 t.ma))) := ⟨four13 HKCt1.out.1, four13 HKCt1.out.2⟩
                  have HZt1 : Hid (UR t1 (.slice za ZL zc) Z.ru) := HZt0.out.below hb1
                  have HTtt1 : Hid (UR t1 (.slice ta TL tc) t.ru) := HTtt0.out.below hb1
                  clear hb1
                  go_simp
                  refine hK.out _ _ ?_ (fun hHeld => ?_)
                  · exact HHt1.out
                  clear hK K
                  refine wpAnyH_take (i := 1) (v := .bool true) rfl (by kernel_rfl) (by kernel_rfl) (by kernel_rfl) (fun _ _ _ h => h) (Or.inl ⟨by rfl, ?_⟩) (by assumption) ?_
                  · (intro w1 hSw; (try dsimp only at hSw); go_simp)
                  simp only [List.getElem_toArray, List.getElem_cons_succ, List.getElem_cons_zero, Act.put, List.setIfInBounds_toArray, List.set_cons_zero, List.set_cons_succ]
                  refine wpAnyH_take (i := 2) (v := .int .i64 0) rfl (by kernel_rfl) (by kernel_rfl) (by kernel_rfl) (fun _ _ _ h => h) (Or.inl ⟨by rfl, ?_⟩) (by assumption) ?_
                  · (intro w1 hSw; (try dsimp only at hSw); go_simp)
                  simp only [List.getElem_toArray, List.getElem_cons_succ, List.getElem_cons_zero, Act.put, List.setIfInBounds_toArray, List.set_cons_zero, List.set_cons_succ]
                  refine wpAnyH_take (i := 3) (v := .bool true) rfl (by kernel_rfl) (by kernel_rfl) (by kernel_rfl) (fun _ _ _ h => h) (Or.inl ⟨by rfl, ?_⟩) (by assumption) ?_
                  · (intro w1 hSw; (try dsimp only at hSw); go_simp)
                  simp only [List.getElem_toArray, List.getElem_cons_succ, List.getElem_cons_zero, Act.put, List.setIfInBounds_toArray, List.set_cons_zero, List.set_cons_succ]
                  refine wpAnyH_take (i := 4) (v := .bool true) rfl (by kernel_rfl) (by kernel_rfl) (by kernel_rfl) (fun _ _ _ h => h) (Or.inl ⟨by rfl, ?_⟩) (by assumption) ?_
                  · (intro w1 hSw; (try dsimp only at hSw); go_simp)
                  simp only [List.getElem_toArray, List.getElem_cons_succ, List.getElem_cons_zero, Act.put, List.setIfInBounds_toArray, List.set_cons_zero, List.set_cons_succ]
                  refine wpAnyH_take (i := 5) (v := .bool true) rfl (by kernel_rfl) (by kernel_rfl) (by kernel_rfl) (fun _ _ _ h => h) (Or.inl ⟨by rfl, ?_⟩) (by assumption) ?_
                  · (intro w1 hSw; (try dsimp only at hSw); go_simp)
                  simp only [List.getElem_toArray, List.getElem_cons_succ, List.getElem_cons_zero, Act.put, List.setIfInBounds_toArray, List.set_cons_zero, List.set_cons_succ]
                  refine wpAnyH_take (i := 6) (v := .int .i64 3) rfl (by kernel_rfl) (by kernel_rfl) (by kernel_rfl) (fun _ _ _ h => h) (Or.inl ⟨by rfl, ?_⟩) (by assumption) ?_
                  · (intro w1 hSw; (try dsimp only at hSw); go_simp)
                  simp only [List.getElem_toArray, List.getElem_cons_succ, List.getElem_cons_zero, Act.put, List.setIfInBounds_toArray, List.set_cons_zero, List.set_cons_succ]
                  refine wpAnyH_take (i := 7) (v := .bool true) rfl (by kernel_rfl) (by kernel_rfl) (by kernel_rfl) (fun _ _ _ h => h) (Or.inl ⟨by rfl, ?_⟩) (by assumption) ?_
                  · (intro w1 hSw; (try dsimp only at hSw); go_simp)
                  simp only [List.getElem_toArray, List.getElem_cons_succ, List.getElem_cons_zero, Act.put, List.setIfInBounds_toArray, List.set_cons_zero, List.set_cons_succ]
                  refine wpAnyH_take (i := 8) (v := .bool true) rfl (by kernel_rfl) (by kernel_rfl) (by kernel_rfl) (fun _ _ _ h => h) (Or.inl ⟨by rfl, ?_⟩) (by assumption) ?_
                  · (intro w1 hSw; (try dsimp only at hSw); go_simp)
                  simp only [List.getElem_toArray, List.getElem_cons_succ, List.getElem_cons_zero, Act.put, List.setIfInBounds_toArray, List.set_cons_zero, List.set_cons_succ]
                  refine wpAnyH_take (i := 9) (v := .bool true) rfl (by kernel_rfl) (by kernel_rfl) (by kernel_rfl) (fun _ _ _ h => h) (Or.inl ⟨by rfl, ?_⟩) (by assumption) ?_
                  · (intro w1 hSw; (try dsimp only at hSw); go_simp)
                  simp only [List.getElem_toArray, List.getElem_cons_succ, List.getElem_cons_zero, Act.put, List.setIfInBounds_toArray, List.set_cons_zero, List.set_cons_succ]
                  refine wpAnyH_take (i := 10) (v := .agg #[.slice za ZL zc, .int .i64 Z.lo, .int .i64 Z.ne, .int .i64 Z.ma]) rfl (by kernel_rfl) (by kernel_rfl) (by kernel_rfl) (fun _ _ _ h => h) (Or.inl ⟨by rfl, ?_⟩) (by assumption) ?_
                  · (intro w1 hSw; (try dsimp only at hSw); go_simp)
                  simp only [List.getElem_toArray, List.getElem_cons_succ, List.getElem_cons_zero, Act.put, List.setIfInBounds_toArray, List.set_cons_zero, List.set_cons_succ]
                  refine wpAnyH_take (i := 12) (v := .agg #[.slice ta TL tc, .int .i64 t.lo, .int .i64 t.ne, .int .i64 t.ma]) rfl (by kernel_rfl) (by kernel_rfl) (by kernel_rfl) (fun _ _ _ h => h) (Or.inl ⟨by rfl, ?_⟩) (by assumption) ?_
                  · (intro w1 hSw; (try dsimp only at hSw); go_simp)
                  simp only [List.getElem_toArray, List.getElem_cons_succ, List.getElem_cons_zero, Act.put, List.setIfInBounds_toArray, List.set_cons_zero, List.set_cons_succ]
                  refine wpAnyH_ready (rs := [11]) (by kernel_rfl) (by simp) ?_
                  refine AllReadyH.cons (o := _) rfl (fun K hK => ?_) AllReadyH.nil
                  go_simp
                  refine (as13_any _ Z t1 HZt1.out.r (by rw [HZt.out]; have := HTl.out; omega)).mono ?_
                  rintro e t2 ⟨q1, rfl, hq1, hb2⟩
                  have HBt2 : Hid (Below W.heap.size W t2) := HBt1.out.trans (hb2.mono HBt1.out.size)
                  have HKCt2 : Hid (t2.heap[P3]? = some (.cells #[.slice za ZL zc, .int .i64 Z.lo, .int .i64 Z.ne, .int .i64 Z.ma] 33) ∧ t2.heap[W.heap.size + 1]? = some (.cells #[.slice ta TL tc, .int .i64 t.lo, .int .i64 t.ne, .int .i64 t.ma] 33)) := ⟨(hb2.block _ (Array.getElem?_eq_some_iff.1 HKCt1.out.1).1).trans HKCt1.out.1, (hb2.block _ (Array.getElem?_eq_some_iff.1 HKCt1.out.2).1).trans HKCt1.out.2⟩
                  have HHt2 : Hid ((t2.cell? ⟨P3, 0, none⟩ = some (.slice za ZL zc) ∧ t2.cell? ⟨P3, 1, none⟩ = some (.int .i64 Z.lo) ∧ t2.cell? ⟨P3, 2, none⟩ = some (.int .i64 Z.ne) ∧ t2.cell? ⟨P3, 3, none⟩ = some (.int .i64 Z.ma)) ∧ (t2.cell? ⟨W.heap.size + 1, 0, none⟩ = some (.slice ta TL tc) ∧ t2.cell? ⟨W.heap.size + 1, 1, none⟩ = some (.int .i64 t.lo) ∧ t2.cell? ⟨W.heap.size + 1, 2, none⟩ = some (.int .i64 t.ne) ∧ t2.cell? ⟨W.heap.size + 1, 3, none⟩ = some (.int .i64 t.ma))) := ⟨four13 HKCt2.out.1, four13 HKCt2.out.2⟩
                  have HZt2 : Hid (UR t2 (.slice za ZL zc) Z.ru) := HZt1.out.below hb2
                  have HTtt2 : Hid (UR t2 (.slice ta TL tc) t.ru) := HTtt1.out.below hb2
                  obtain ⟨qa1, qc1, hqv1, _⟩ := hq1.form
                  rw [HZL.out] at hqv1
                  subst hqv1
                  have HQ1t2 : Hid (RuR t2 (.slice qa1 ZL qc1) Z.ru) := hq1
                  clear hb2 hq1
                  go_simp
                  refine hK.out _ _ ?_ (fun hHeld => ?_)
                  · exact HHt2.out
                  clear hK K
                  refine wpAnyH_ready (rs := [13]) (by kernel_rfl) (by simp) ?_
                  refine AllReadyH.cons (o := _) rfl (fun K hK => ?_) AllReadyH.nil
                  go_simp
                  refine (as13_any _ t t2 HTtt2.out.r (by have := HTl.out; omega)).mono ?_
                  rintro e t3 ⟨q2, rfl, hq2, hb3⟩
                  have HBt3 : Hid (Below W.heap.size W t3) := HBt2.out.trans (hb3.mono HBt2.out.size)
                  have HKCt3 : Hid (t3.heap[P3]? = some (.cells #[.slice za ZL zc, .int .i64 Z.lo, .int .i64 Z.ne, .int .i64 Z.ma] 33) ∧ t3.heap[W.heap.size + 1]? = some (.cells #[.slice ta TL tc, .int .i64 t.lo, .int .i64 t.ne, .int .i64 t.ma] 33)) := ⟨(hb3.block _ (Array.getElem?_eq_some_iff.1 HKCt2.out.1).1).trans HKCt2.out.1, (hb3.block _ (Array.getElem?_eq_some_iff.1 HKCt2.out.2).1).trans HKCt2.out.2⟩
                  have HHt3 : Hid ((t3.cell? ⟨P3, 0, none⟩ = some (.slice za ZL zc) ∧ t3.cell? ⟨P3, 1, none⟩ = some (.int .i64 Z.lo) ∧ t3.cell? ⟨P3, 2, none⟩ = some (.int .i64 Z.ne) ∧ t3.cell? ⟨P3, 3, none⟩ = some (.int .i64 Z.ma)) ∧ (t3.cell? ⟨W.heap.size + 1, 0, none⟩ = some (.slice ta TL tc) ∧ t3.cell? ⟨W.heap.size + 1, 1, none⟩ = some (.int .i64 t.lo) ∧ t3.cell? ⟨W.heap.size + 1, 2, none⟩ = some (.int .i64 t.ne) ∧ t3.cell? ⟨W.heap.size + 1, 3, none⟩ = some (.int .i64 t.ma))) := ⟨four13 HKCt3.out.1, four13 HKCt3.out.2⟩
                  have HZt3 : Hid (UR t3 (.slice za ZL zc) Z.ru) := HZt2.out.below hb3
                  have HTtt3 : Hid (UR t3 (.slice ta TL tc) t.ru) := HTtt2.out.below hb3
                  have HQ1t3 : Hid (RuR t3 (.slice qa1 ZL qc1) Z.ru) := HQ1t2.out.below hb3
                  obtain ⟨qa2, qc2, hqv2, _⟩ := hq2.form
                  rw [HTL.out] at hqv2
                  subst hqv2
                  have HQ2t3 : Hid (RuR t3 (.slice qa2 TL qc2) t.ru) := hq2
                  clear hb3 hq2
                  go_simp
                  refine hK.out _ _ ?_ (fun hHeld => ?_)
                  · exact HHt3.out
                  clear hK K
                  refine wpAnyH_ready (rs := [14]) (by kernel_rfl) (by simp) ?_
                  refine AllReadyH.cons (o := _) rfl (fun K hK => ?_) AllReadyH.nil
                  go_simp
                  refine (same13_any _ _ Z.ru t.ru Z.lo Z.ne Z.ma t.lo t.ne t.ma t3 HQ1t3.out HQ2t3.out).mono ?_
                  rintro e t4 ⟨r, rfl, hr, hb4⟩
                  have hr' : r = true := hr (by rw [HZt.out]; exact ⟨rfl, rfl, rfl, rfl⟩)
                  subst hr'
                  have HBt4 : Hid (Below W.heap.size W t4) := HBt3.out.trans (hb4.mono HBt3.out.size)
                  have HKCt4 : Hid (t4.heap[P3]? = some (.cells #[.slice za ZL zc, .int .i64 Z.lo, .int .i64 Z.ne, .int .i64 Z.ma] 33) ∧ t4.heap[W.heap.size + 1]? = some (.cells #[.slice ta TL tc, .int .i64 t.lo, .int .i64 t.ne, .int .i64 t.ma] 33)) := ⟨(hb4.block _ (Array.getElem?_eq_some_iff.1 HKCt3.out.1).1).trans HKCt3.out.1, (hb4.block _ (Array.getElem?_eq_some_iff.1 HKCt3.out.2).1).trans HKCt3.out.2⟩
                  have HHt4 : Hid ((t4.cell? ⟨P3, 0, none⟩ = some (.slice za ZL zc) ∧ t4.cell? ⟨P3, 1, none⟩ = some (.int .i64 Z.lo) ∧ t4.cell? ⟨P3, 2, none⟩ = some (.int .i64 Z.ne) ∧ t4.cell? ⟨P3, 3, none⟩ = some (.int .i64 Z.ma)) ∧ (t4.cell? ⟨W.heap.size + 1, 0, none⟩ = some (.slice ta TL tc) ∧ t4.cell? ⟨W.heap.size + 1, 1, none⟩ = some (.int .i64 t.lo) ∧ t4.cell? ⟨W.heap.size + 1, 2, none⟩ = some (.int .i64 t.ne) ∧ t4.cell? ⟨W.heap.size + 1, 3, none⟩ = some (.int .i64 t.ma))) := ⟨four13 HKCt4.out.1, four13 HKCt4.out.2⟩
                  have HZt4 : Hid (UR t4 (.slice za ZL zc) Z.ru) := HZt3.out.below hb4
                  have HTtt4 : Hid (UR t4 (.slice ta TL tc) t.ru) := HTtt3.out.below hb4
                  clear hb4 hr
                  go_simp
                  refine hK.out _ _ ?_ (fun hHeld => ?_)
                  · exact HHt4.out
                  clear hK K
                  refine wpAnyH_take (i := 15) (v := .bool true) rfl (by kernel_rfl) (by kernel_rfl) (by kernel_rfl) (fun _ _ _ h => h) (Or.inl ⟨by rfl, ?_⟩) (by assumption) ?_
                  · (intro w1 hSw; (try dsimp only at hSw); go_simp)
                  simp only [List.getElem_toArray, List.getElem_cons_succ, List.getElem_cons_zero, Act.put, List.setIfInBounds_toArray, List.set_cons_zero, List.set_cons_succ]
                  refine wpAnyH_ready (rs := [16]) (by kernel_rfl) (by simp) ?_
                  refine AllReadyH.cons (o := _) rfl (fun K hK => ?_) AllReadyH.nil
                  go_simp
                  refine hK.out _ _ ?_ (fun hHeld => ?_)
                  · exact HHt4.out
                  clear hK K
                  refine wpAnyH_done (by kernel_rfl) ?_ _
                  refine NoPanic.normal ?_
                  go_wp2_with fail
                  go_ret
                  exact ⟨rfl, HBt4.out⟩
              · have hH' : (H == 0) = false := by simpa using hH
                obtain ⟨x0, Hx0⟩ := hid_ex u3
                have HFx : Hid (FsW W0 x0 (.pointer (some ⟨g0, 0, none⟩)) S3) := by unfold Hid; rw [Hx0.out]; exact HFu3.out
                have HKBx : Hid (x0.heap[P2]? = some (.cells #[.slice ya YL yc, .int .i64 Y.lo, .int .i64 Y.ne, .int .i64 Y.ma] 33) ∧ x0.heap[W.heap.size]? = some (.cells #[.slice sa SL sc, .int .i64 s.lo, .int .i64 s.ne, .int .i64 s.ma] 33) ∧ x0.heap[W.heap.size + 1]? = some (.cells #[.slice ta TL tc, .int .i64 t.lo, .int .i64 t.ne, .int .i64 t.ma] 33)) := by unfold Hid; rw [Hx0.out]; exact HKBu3.out
                have HBx : Hid (Below W.heap.size W x0) := HBW0.out.trans (HFx.out.b.mono (by omega))
                rw [← Hx0.out]
                clear Hx0
                cases again with
                | false =>
                  go_wp2_with fail
                  refine (alive13_any x0).mono ?_
                  rintro e wz ⟨rfl, hbz⟩
                  have HBz : Hid (Below W.heap.size W wz) := HBx.out.trans (hbz.mono HBx.out.size)
                  clear hbz
                  go_wp2_with fail
                  go_ret
                  exact ⟨rfl, HBz.out⟩
                | true =>
                  obtain ⟨c0, c1, c2, c3⟩ := four13 HKBx.out.2.2
                  have hSv := HFx.out.save 3 _ t HTW.out (by rw [HP3.out]; simp) HTb.out
                  have HSv : Hid (Calls Tryz.prog 17 #[.pointer (some ⟨g0, 0, none⟩), .int .i64 3, .agg #[.slice ta TL tc, .int .i64 t.lo, .int .i64 t.ne, .int .i64 t.ma]] x0 (FwR W0 (.pointer (some ⟨g0, 0, none⟩)) (mfSave S3 3 t))) := hSv
                  clear hSv
                  go_wp2_with fail
                  refine HSv.out.mono ?_
                  clear HSv c0 c1 c2 c3
                  rintro e y1 ⟨rfl, hf1⟩
                  rw [HSv3.out]
                  obtain ⟨S5, HS5⟩ := hid_ex (mfSave S3 3 t).2
                  rw [← HS5.out] at hf1 HLd3
                  have HFy1 : Hid (FsW W0 y1 (.pointer (some ⟨g0, 0, none⟩)) S5) := hf1
                  clear hf1
                  have HCr : Hid (Calls Tryz.prog 27 #[.pointer (some ⟨g0, 0, none⟩), .int .i64 ops, .slice ka KL kc] y1 _) := HFy1.out.crash ops _ ks HKW.out
                  go_wp2_with fail
                  refine HCr.out.mono ?_
                  clear HCr
                  rintro e y2 ⟨rfl, hf2⟩
                  simp only at hf2 ⊢
                  have HFy2 : Hid (FsW W0 y2 (.pointer (some ⟨g0, 0, none⟩)) (sfCrash S5 ops ks)) := hf2
                  have HBy2 : Hid (Below W.heap.size W y2) := HBW0.out.trans (hf2.b.mono (by omega))
                  have HTy2 : Hid (y2.heap[W.heap.size + 1]? = some (.cells #[.slice ta TL tc, .int .i64 t.lo, .int .i64 t.ne, .int .i64 t.ma] 33)) := (hf2.b.block _ (by omega)).trans HXW.out
                  have HTty2 : Hid (UR y2 (.slice ta TL tc) t.ru) := HTW.out.below hf2.b
                  clear hf2 HFy1
                  have hLd := HFy2.out.load HLd3.out.2 HTb.out
                  rw [HLd3.out.1] at hLd
                  have HLd : Hid (Calls Tryz.prog 12 #[.pointer (some ⟨g0, 0, none⟩)] y2 (LdP (some (t, 3), 0) y2)) := hLd
                  clear hLd
                  go_wp2_with fail
                  refine HLd.out.mono ?_
                  clear HLd
                  rintro e y3 ⟨v3, rfl, hu3, hb3⟩
                  obtain ⟨za, zc, hv3, _⟩ := hu3.r.form
                  subst hv3
                  rw [show (((some (t, (3 : Int)), (0 : Int)) : Option (St × Int) × Int)).2 = 0 from rfl, show ldN ((some (t, (3 : Int)), (0 : Int)) : Option (St × Int) × Int) = 3 from rfl]
                  obtain ⟨Z, HZe⟩ := hid_ex (ldS ((some (t, (3 : Int)), (0 : Int)) : Option (St × Int) × Int))
                  have HZt : Hid (Z = t) := by unfold Hid; rw [HZe.out]; rfl
                  rw [← HZe.out] at hu3 ⊢
                  obtain ⟨ZL, HZL⟩ : ∃ k, Hid (Z.ru.length = k) := ⟨_, rfl⟩
                  rw [HZL.out] at hu3 ⊢
                  have HU3 : Hid (UR y3 (.slice za ZL zc) Z.ru) := hu3
                  have HBd3 : Hid (Below y2.heap.size y2 y3) := hb3
                  have HOn3 : Hid (([.slice za ZL zc, .int .i64 Z.lo, .int .i64 Z.ne, .int .i64 Z.ma] : List Value).toArray.all (·.oneCell') = true) := by unfold Hid; kernel_rfl
                  clear hu3 hb3 HZe
                  go_wp2_with (refine stop_store 33 _ _ rfl ?_)
                  refine Stop.of ?_
                  refine wpList_storeN rfl _ _ _ rfl y3.heap.size 0 [.slice za ZL zc, .int .i64 Z.lo, .int .i64 Z.ne, .int .i64 Z.ma] rfl rfl _ _ (heap_alloc_new _ _) (by simp) (by kernel_rfl) HOn3.out ?_
                  intro y4 hy4
                  obtain ⟨hb4, hx4, hz4⟩ := stW_nw hy4 (by simp)
                  obtain ⟨P3, HP3e⟩ := hid_ex y3.heap.size
                  rw [← HP3e.out] at hx4 hz4 ⊢
                  obtain ⟨t0, HT0⟩ := hid_ex y4.drew
                  have hbu : Below y2.heap.size y2 t0 := by rw [HT0.out]; exact (HBd3.out.trans (hb4.mono HBd3.out.size)).drew
                  have hbu3 : Below y3.heap.size y3 t0 := by rw [HT0.out]; exact hb4.drew
                  have HBt0 : Hid (Below W.heap.size W t0) := HBy2.out.trans (hbu.mono HBy2.out.size)
                  have HZt0 : Hid (UR t0 (.slice za ZL zc) Z.ru) := HU3.out.below hbu3
                  have HTtt0 : Hid (UR t0 (.slice ta TL tc) t.ru) := HTty2.out.below hbu
                  have HKCt0 : Hid (t0.heap[P3]? = some (.cells #[.slice za ZL zc, .int .i64 Z.lo, .int .i64 Z.ne, .int .i64 Z.ma] 33) ∧ t0.heap[W.heap.size + 1]? = some (.cells #[.slice ta TL tc, .int .i64 t.lo, .int .i64 t.ne, .int .i64 t.ma] 33)) := ⟨by rw [HT0.out]; exact hx4, (hbu.block _ (Array.getElem?_eq_some_iff.1 HTy2.out).1).trans HTy2.out⟩
                  have HHt0 : Hid ((t0.cell? ⟨P3, 0, none⟩ = some (.slice za ZL zc) ∧ t0.cell? ⟨P3, 1, none⟩ = some (.int .i64 Z.lo) ∧ t0.cell? ⟨P3, 2, none⟩ = some (.int .i64 Z.ne) ∧ t0.cell? ⟨P3, 3, none⟩ = some (.int .i64 Z.ma)) ∧ (t0.cell? ⟨W.heap.size + 1, 0, none⟩ = some (.slice ta TL tc) ∧ t0.cell? ⟨W.heap.size + 1, 1, none⟩ = some (.int .i64 t.lo) ∧ t0.cell? ⟨W.heap.size + 1, 2, none⟩ = some (.int .i64 t.ne) ∧ t0.cell? ⟨W.heap.size + 1, 3, none⟩ = some (.int .i64 t.ma))) := ⟨four13 HKCt0.out.1, four13 HKCt0.out.2⟩
                  clear hy4 hb4 hx4 hbu hbu3 HP3e
                  go_wp2_with fail
                  refine wp_region_noPanic ?_
                  refine wp_region_held_drew (S := fun w' => (w'.cell? ⟨P3, 0, none⟩ = some (.slice za ZL zc) ∧ w'.cell? ⟨P3, 1, none⟩ = some (.int .i64 Z.lo) ∧ w'.cell? ⟨P3, 2, none⟩ = some (.int .i64 Z.ne) ∧ w'.cell? ⟨P3, 3, none⟩ = some (.int .i64 Z.ma)) ∧ (w'.cell? ⟨W.heap.size + 1, 0, none⟩ = some (.slice ta TL tc) ∧ w'.cell? ⟨W.heap.size + 1, 1, none⟩ = some (.int .i64 t.lo) ∧ w'.cell? ⟨W.heap.size + 1, 2, none⟩ = some (.int .i64 t.ne) ∧ w'.cell? ⟨W.heap.size + 1, 3, none⟩ = some (.int .i64 t.ma))) (by kernel_rfl) ?_ (fun hHeld => ?_)
                  · (rw [← HT0.out]; exact HHt0.out)
                  rw [← HT0.out]
                  clear HT0
                  refine wpAnyH_ready (rs := [0]) (by kernel_rfl) (by simp) ?_
                  refine AllReadyH.cons (o := _) rfl (fun K hK => ?_) AllReadyH.nil
                  go_simp
                  refine (alive13_any _).mono ?_
                  rintro e t1 ⟨rfl, hb1⟩
                  have HBt1 : Hid (Below W.heap.size W t1) := HBt0.out.trans (hb1.mono HBt0.out.size)
                  have HKCt1 : Hid (t1.heap[P3]? = some (.cells #[.slice za ZL zc, .int .i64 Z.lo, .int .i64 Z.ne, .int .i64 Z.ma] 33) ∧ t1.heap[W.heap.size + 1]? = some (.cells #[.slice ta TL tc, .int .i64 t.lo, .int .i64 t.ne, .int .i64 t.ma] 33)) := ⟨(hb1.block _ (Array.getElem?_eq_some_iff.1 HKCt0.out.1).1).trans HKCt0.out.1, (hb1.block _ (Array.getElem?_eq_some_iff.1 HKCt0.out.2).1).trans HKCt0.out.2⟩
                  have HHt1 : Hid ((t1.cell? ⟨P3, 0, none⟩ = some (.slice za ZL zc) ∧ t1.cell? ⟨P3, 1, none⟩ = some (.int .i64 Z.lo) ∧ t1.cell? ⟨P3, 2, none⟩ = some (.int .i64 Z.ne) ∧ t1.cell? ⟨P3, 3, none⟩ = some (.int .i64 Z.ma)) ∧ (t1.cell? ⟨W.heap.size + 1, 0, none⟩ = some (.slice ta TL tc) ∧ t1.cell? ⟨W.heap.size + 1, 1, none⟩ = some (.int .i64 t.lo) ∧ t1.cell? ⟨W.heap.size + 1, 2, none⟩ = some (.int .i64 t.ne) ∧ t1.cell? ⟨W.heap.size + 1, 3, none⟩ = some (.int .i64 t.ma))) := ⟨four13 HKCt1.out.1, four13 HKCt1.out.2⟩
                  have HZt1 : Hid (UR t1 (.slice za ZL zc) Z.ru) := HZt0.out.below hb1
                  have HTtt1 : Hid (UR t1 (.slice ta TL tc) t.ru) := HTtt0.out.below hb1
                  clear hb1
                  go_simp
                  refine hK.out _ _ ?_ (fun hHeld => ?_)
                  · exact HHt1.out
                  clear hK K
                  refine wpAnyH_take (i := 1) (v := .bool true) rfl (by kernel_rfl) (by kernel_rfl) (by kernel_rfl) (fun _ _ _ h => h) (Or.inl ⟨by rfl, ?_⟩) (by assumption) ?_
                  · (intro w1 hSw; (try dsimp only at hSw); go_simp)
                  simp only [List.getElem_toArray, List.getElem_cons_succ, List.getElem_cons_zero, Act.put, List.setIfInBounds_toArray, List.set_cons_zero, List.set_cons_succ]
                  refine wpAnyH_take (i := 2) (v := .int .i64 0) rfl (by kernel_rfl) (by kernel_rfl) (by kernel_rfl) (fun _ _ _ h => h) (Or.inl ⟨by rfl, ?_⟩) (by assumption) ?_
                  · (intro w1 hSw; (try dsimp only at hSw); go_simp)
                  simp only [List.getElem_toArray, List.getElem_cons_succ, List.getElem_cons_zero, Act.put, List.setIfInBounds_toArray, List.set_cons_zero, List.set_cons_succ]
                  refine wpAnyH_take (i := 3) (v := .bool true) rfl (by kernel_rfl) (by kernel_rfl) (by kernel_rfl) (fun _ _ _ h => h) (Or.inl ⟨by rfl, ?_⟩) (by assumption) ?_
                  · (intro w1 hSw; (try dsimp only at hSw); go_simp)
                  simp only [List.getElem_toArray, List.getElem_cons_succ, List.getElem_cons_zero, Act.put, List.setIfInBounds_toArray, List.set_cons_zero, List.set_cons_succ]
                  refine wpAnyH_take (i := 4) (v := .bool true) rfl (by kernel_rfl) (by kernel_rfl) (by kernel_rfl) (fun _ _ _ h => h) (Or.inl ⟨by rfl, ?_⟩) (by assumption) ?_
                  · (intro w1 hSw; (try dsimp only at hSw); go_simp)
                  simp only [List.getElem_toArray, List.getElem_cons_succ, List.getElem_cons_zero, Act.put, List.setIfInBounds_toArray, List.set_cons_zero, List.set_cons_succ]
                  refine wpAnyH_take (i := 5) (v := .bool true) rfl (by kernel_rfl) (by kernel_rfl) (by kernel_rfl) (fun _ _ _ h => h) (Or.inl ⟨by rfl, ?_⟩) (by assumption) ?_
                  · (intro w1 hSw; (try dsimp only at hSw); go_simp)
                  simp only [List.getElem_toArray, List.getElem_cons_succ, List.getElem_cons_zero, Act.put, List.setIfInBounds_toArray, List.set_cons_zero, List.set_cons_succ]
                  refine wpAnyH_take (i := 6) (v := .int .i64 3) rfl (by kernel_rfl) (by kernel_rfl) (by kernel_rfl) (fun _ _ _ h => h) (Or.inl ⟨by rfl, ?_⟩) (by assumption) ?_
                  · (intro w1 hSw; (try dsimp only at hSw); go_simp)
                  simp only [List.getElem_toArray, List.getElem_cons_succ, List.getElem_cons_zero, Act.put, List.setIfInBounds_toArray, List.set_cons_zero, List.set_cons_succ]
                  refine wpAnyH_take (i := 7) (v := .bool true) rfl (by kernel_rfl) (by kernel_rfl) (by kernel_rfl) (fun _ _ _ h => h) (Or.inl ⟨by rfl, ?_⟩) (by assumption) ?_
                  · (intro w1 hSw; (try dsimp only at hSw); go_simp)
                  simp only [List.getElem_toArray, List.getElem_cons_succ, List.getElem_cons_zero, Act.put, List.setIfInBounds_toArray, List.set_cons_zero, List.set_cons_succ]
                  refine wpAnyH_take (i := 8) (v := .bool true) rfl (by kernel_rfl) (by kernel_rfl) (by kernel_rfl) (fun _ _ _ h => h) (Or.inl ⟨by rfl, ?_⟩) (by assumption) ?_
                  · (intro w1 hSw; (try dsimp only at hSw); go_simp)
                  simp only [List.getElem_toArray, List.getElem_cons_succ, List.getElem_cons_zero, Act.put, List.setIfInBounds_toArray, List.set_cons_zero, List.set_cons_succ]
                  refine wpAnyH_take (i := 9) (v := .bool true) rfl (by kernel_rfl) (by kernel_rfl) (by kernel_rfl) (fun _ _ _ h => h) (Or.inl ⟨by rfl, ?_⟩) (by assumption) ?_
                  · (intro w1 hSw; (try dsimp only at hSw); go_simp)
                  simp only [List.getElem_toArray, List.getElem_cons_succ, List.getElem_cons_zero, Act.put, List.setIfInBounds_toArray, List.set_cons_zero, List.set_cons_succ]
                  refine wpAnyH_take (i := 10) (v := .agg #[.slice za ZL zc, .int .i64 Z.lo, .int .i64 Z.ne, .int .i64 Z.ma]) rfl (by kernel_rfl) (by kernel_rfl) (by kernel_rfl) (fun _ _ _ h => h) (Or.inl ⟨by rfl, ?_⟩) (by assumption) ?_
                  · (intro w1 hSw; (try dsimp only at hSw); go_simp)
                  simp only [List.getElem_toArray, List.getElem_cons_succ, List.getElem_cons_zero, Act.put, List.setIfInBounds_toArray, List.set_cons_zero, List.set_cons_succ]
                  refine wpAnyH_take (i := 12) (v := .agg #[.slice ta TL tc, .int .i64 t.lo, .int .i64 t.ne, .int .i64 t.ma]) rfl (by kernel_rfl) (by kernel_rfl) (by kernel_rfl) (fun _ _ _ h => h) (Or.inl ⟨by rfl, ?_⟩) (by assumption) ?_
                  · (intro w1 hSw; (try dsimp only at hSw); go_simp)
                  simp only [List.getElem_toArray, List.getElem_cons_succ, List.getElem_cons_zero, Act.put, List.setIfInBounds_toArray, List.set_cons_zero, List.set_cons_succ]
                  refine wpAnyH_ready (rs := [11]) (by kernel_rfl) (by simp) ?_
                  refine AllReadyH.cons (o := _) rfl (fun K hK => ?_) AllReadyH.nil
                  go_simp
                  refine (as13_any _ Z t1 HZt1.out.r (by rw [HZt.out]; have := HTl.out; omega)).mono ?_
                  rintro e t2 ⟨q1, rfl, hq1, hb2⟩
                  have HBt2 : Hid (Below W.heap.size W t2) := HBt1.out.trans (hb2.mono HBt1.out.size)
                  have HKCt2 : Hid (t2.heap[P3]? = some (.cells #[.slice za ZL zc, .int .i64 Z.lo, .int .i64 Z.ne, .int .i64 Z.ma] 33) ∧ t2.heap[W.heap.size + 1]? = some (.cells #[.slice ta TL tc, .int .i64 t.lo, .int .i64 t.ne, .int .i64 t.ma] 33)) := ⟨(hb2.block _ (Array.getElem?_eq_some_iff.1 HKCt1.out.1).1).trans HKCt1.out.1, (hb2.block _ (Array.getElem?_eq_some_iff.1 HKCt1.out.2).1).trans HKCt1.out.2⟩
                  have HHt2 : Hid ((t2.cell? ⟨P3, 0, none⟩ = some (.slice za ZL zc) ∧ t2.cell? ⟨P3, 1, none⟩ = some (.int .i64 Z.lo) ∧ t2.cell? ⟨P3, 2, none⟩ = some (.int .i64 Z.ne) ∧ t2.cell? ⟨P3, 3, none⟩ = some (.int .i64 Z.ma)) ∧ (t2.cell? ⟨W.heap.size + 1, 0, none⟩ = some (.slice ta TL tc) ∧ t2.cell? ⟨W.heap.size + 1, 1, none⟩ = some (.int .i64 t.lo) ∧ t2.cell? ⟨W.heap.size + 1, 2, none⟩ = some (.int .i64 t.ne) ∧ t2.cell? ⟨W.heap.size + 1, 3, none⟩ = some (.int .i64 t.ma))) := ⟨four13 HKCt2.out.1, four13 HKCt2.out.2⟩
                  have HZt2 : Hid (UR t2 (.slice za ZL zc) Z.ru) := HZt1.out.below hb2
                  have HTtt2 : Hid (UR t2 (.slice ta TL tc) t.ru) := HTtt1.out.below hb2
                  obtain ⟨qa1, qc1, hqv1, _⟩ := hq1.form
                  rw [HZL.out] at hqv1
                  subst hqv1
                  have HQ1t2 : Hid (RuR t2 (.slice qa1 ZL qc1) Z.ru) := hq1
                  clear hb2 hq1
                  go_simp
                  refine hK.out _ _ ?_ (fun hHeld => ?_)
                  · exact HHt2.out
                  clear hK K
                  refine wpAnyH_ready (rs := [13]) (by kernel_rfl) (by simp) ?_
                  refine AllReadyH.cons (o := _) rfl (fun K hK => ?_) AllReadyH.nil
                  go_simp
                  refine (as13_any _ t t2 HTtt2.out.r (by have := HTl.out; omega)).mono ?_
                  rintro e t3 ⟨q2, rfl, hq2, hb3⟩
                  have HBt3 : Hid (Below W.heap.size W t3) := HBt2.out.trans (hb3.mono HBt2.out.size)
                  have HKCt3 : Hid (t3.heap[P3]? = some (.cells #[.slice za ZL zc, .int .i64 Z.lo, .int .i64 Z.ne, .int .i64 Z.ma] 33) ∧ t3.heap[W.heap.size + 1]? = some (.cells #[.slice ta TL tc, .int .i64 t.lo, .int .i64 t.ne, .int .i64 t.ma] 33)) := ⟨(hb3.block _ (Array.getElem?_eq_some_iff.1 HKCt2.out.1).1).trans HKCt2.out.1, (hb3.block _ (Array.getElem?_eq_some_iff.1 HKCt2.out.2).1).trans HKCt2.out.2⟩
                  have HHt3 : Hid ((t3.cell? ⟨P3, 0, none⟩ = some (.slice za ZL zc) ∧ t3.cell? ⟨P3, 1, none⟩ = some (.int .i64 Z.lo) ∧ t3.cell? ⟨P3, 2, none⟩ = some (.int .i64 Z.ne) ∧ t3.cell? ⟨P3, 3, none⟩ = some (.int .i64 Z.ma)) ∧ (t3.cell? ⟨W.heap.size + 1, 0, none⟩ = some (.slice ta TL tc) ∧ t3.cell? ⟨W.heap.size + 1, 1, none⟩ = some (.int .i64 t.lo) ∧ t3.cell? ⟨W.heap.size + 1, 2, none⟩ = some (.int .i64 t.ne) ∧ t3.cell? ⟨W.heap.size + 1, 3, none⟩ = some (.int .i64 t.ma))) := ⟨four13 HKCt3.out.1, four13 HKCt3.out.2⟩
                  have HZt3 : Hid (UR t3 (.slice za ZL zc) Z.ru) := HZt2.out.below hb3
                  have HTtt3 : Hid (UR t3 (.slice ta TL tc) t.ru) := HTtt2.out.below hb3
                  have HQ1t3 : Hid (RuR t3 (.slice qa1 ZL qc1) Z.ru) := HQ1t2.out.below hb3
                  obtain ⟨qa2, qc2, hqv2, _⟩ := hq2.form
                  rw [HTL.out] at hqv2
                  subst hqv2
                  have HQ2t3 : Hid (RuR t3 (.slice qa2 TL qc2) t.ru) := hq2
                  clear hb3 hq2
                  go_simp
                  refine hK.out _ _ ?_ (fun hHeld => ?_)
                  · exact HHt3.out
                  clear hK K
                  refine wpAnyH_ready (rs := [14]) (by kernel_rfl) (by simp) ?_
                  refine AllReadyH.cons (o := _) rfl (fun K hK => ?_) AllReadyH.nil
                  go_simp
                  refine (same13_any _ _ Z.ru t.ru Z.lo Z.ne Z.ma t.lo t.ne t.ma t3 HQ1t3.out HQ2t3.out).mono ?_
                  rintro e t4 ⟨r, rfl, hr, hb4⟩
                  have hr' : r = true := hr (by rw [HZt.out]; exact ⟨rfl, rfl, rfl, rfl⟩)
                  subst hr'
                  have HBt4 : Hid (Below W.heap.size W t4) := HBt3.out.trans (hb4.mono HBt3.out.size)
                  have HKCt4 : Hid (t4.heap[P3]? = some (.cells #[.slice za ZL zc, .int .i64 Z.lo, .int .i64 Z.ne, .int .i64 Z.ma] 33) ∧ t4.heap[W.heap.size + 1]? = some (.cells #[.slice ta TL tc, .int .i64 t.lo, .int .i64 t.ne, .int .i64 t.ma] 33)) := ⟨(hb4.block _ (Array.getElem?_eq_some_iff.1 HKCt3.out.1).1).trans HKCt3.out.1, (hb4.block _ (Array.getElem?_eq_some_iff.1 HKCt3.out.2).1).trans HKCt3.out.2⟩
                  have HHt4 : Hid ((t4.cell? ⟨P3, 0, none⟩ = some (.slice za ZL zc) ∧ t4.cell? ⟨P3, 1, none⟩ = some (.int .i64 Z.lo) ∧ t4.cell? ⟨P3, 2, none⟩ = some (.int .i64 Z.ne) ∧ t4.cell? ⟨P3, 3, none⟩ = some (.int .i64 Z.ma)) ∧ (t4.cell? ⟨W.heap.size + 1, 0, none⟩ = some (.slice ta TL tc) ∧ t4.cell? ⟨W.heap.size + 1, 1, none⟩ = some (.int .i64 t.lo) ∧ t4.cell? ⟨W.heap.size + 1, 2, none⟩ = some (.int .i64 t.ne) ∧ t4.cell? ⟨W.heap.size + 1, 3, none⟩ = some (.int .i64 t.ma))) := ⟨four13 HKCt4.out.1, four13 HKCt4.out.2⟩
                  have HZt4 : Hid (UR t4 (.slice za ZL zc) Z.ru) := HZt3.out.below hb4
                  have HTtt4 : Hid (UR t4 (.slice ta TL tc) t.ru) := HTtt3.out.below hb4
                  clear hb4 hr
                  go_simp
                  refine hK.out _ _ ?_ (fun hHeld => ?_)
                  · exact HHt4.out
                  clear hK K
                  refine wpAnyH_take (i := 15) (v := .bool true) rfl (by kernel_rfl) (by kernel_rfl) (by kernel_rfl) (fun _ _ _ h => h) (Or.inl ⟨by rfl, ?_⟩) (by assumption) ?_
                  · (intro w1 hSw; (try dsimp only at hSw); go_simp)
                  simp only [List.getElem_toArray, List.getElem_cons_succ, List.getElem_cons_zero, Act.put, List.setIfInBounds_toArray, List.set_cons_zero, List.set_cons_succ]
                  refine wpAnyH_ready (rs := [16]) (by kernel_rfl) (by simp) ?_
                  refine AllReadyH.cons (o := _) rfl (fun K hK => ?_) AllReadyH.nil
                  go_simp
                  refine hK.out _ _ ?_ (fun hHeld => ?_)
                  · exact HHt4.out
                  clear hK K
                  refine wpAnyH_done (by kernel_rfl) ?_ _
                  refine NoPanic.normal ?_
                  go_wp2_with fail
                  go_ret
                  exact ⟨rfl, HBt4.out⟩
          · rw [show decide (okSt t) = false from decide_eq_false hot]
            clear HEp
            go_wp2_with fail
            refine (alive13_any w3).mono ?_
            rintro e wz ⟨rfl, hbz⟩
            have HBz : Hid (Below W.heap.size W wz) := HB3.out.trans (hbz.mono HB3.out.size)
            clear hbz
            go_wp2_with fail
            go_ret
            exact ⟨rfl, HBz.out⟩
        · have hc : (mfSave (sfZ 1048576) 1 s).1 = 1 := by unfold mfSave; rw [if_neg (fun z => hok z.1)]
          rw [hc]
          clear hf2 hok hc
          go_wp2_with fail
          refine (alive13_any w2).mono ?_
          rintro e wz ⟨rfl, hbz⟩
          have HBz : Hid (Below W.heap.size W wz) := HB2.out.trans (hbz.mono HB2.out.size)
          clear hbz
          go_wp2_with fail
          go_ret
          exact ⟨rfl, HBz.out⟩
end Go.Proofs.YtilbffgpniomcaaGreatDoor
