/- MG3x, joined. -/
import Derived.Test.YtapbojjmfakonaaDoorMH16
/- ManifestGrows: the walk (written by mkmg3.py). -/
namespace Go.Proofs.YtapbojjmfakonaaDoor
open Go.RowKit Go.Shelf

def eqRu (q r : Ru) : Bool := decide (q.f = r.f ∧ q.l = r.l ∧ q.c = r.c)
theorem any_snoc {L : List Ru} {k : Nat} (hk : k < L.length) {q : Ru} (hq : q = L[k]) (r : Ru) : (L.take (k + 1)).any (fun y => eqRu y r) = ((L.take k).any (fun y => eqRu y r) || eqRu q r) := by
  rw [snocU hk hq, List.any_append]; simp
theorem any_mem {L : List Ru} {r : Ru} (h : r ∈ L) : L.any (fun y => eqRu y r) = true := by
  rw [List.any_eq_true]; exact ⟨r, h, by simp [eqRu]⟩
set_option maxRecDepth 100000 in
set_option maxHeartbeats 8000000 in
theorem grows13_walk (sv : Value) (s : St) (xv : Value) (x : Ed) (w : World) (hs : StI w sv s) (hx : EdI w xv x) :
    Calls Tryd.prog 3 #[sv, xv] w fun e w' => e = .returned (.bool true) ∧ Below w.heap.size w w' := by
  obtain ⟨rv, rfl, hr⟩ := hs.e
  obtain ⟨dv, av, rfl, hd, ha⟩ := hx.e
  obtain ⟨sa, sc, rfl, hm0⟩ := hr.r.form
  obtain ⟨da, dc, rfl, hm1⟩ := hd.form
  obtain ⟨aa, ac, rfl, hm2⟩ := ha.r.form
  unfold maxLen at hm0 hm1 hm2
  obtain ⟨SL, HSL⟩ : ∃ n, Hid (s.ru.length = n) := ⟨_, rfl⟩
  obtain ⟨DL, HDL⟩ : ∃ n, Hid (x.dr.length = n) := ⟨_, rfl⟩
  obtain ⟨AL, HAL⟩ : ∃ n, Hid (x.ad.length = n) := ⟨_, rfl⟩
  rw [HSL.out] at hr hm0
  rw [HDL.out] at hd hm1
  rw [HAL.out] at ha hm2
  rw [HSL.out, HDL.out, HAL.out]
  have HU : Hid (UR w (.slice sa SL sc) s.ru) := hr
  have HD : Hid (JR w (.slice da DL dc) x.dr) := hd
  have HA : Hid (UR w (.slice aa AL ac) x.ad) := ha
  clear hs hx hr hd ha
  obtain ⟨W0, HW0⟩ := hid_ex ((w.alloc (.cells #[.slice sa SL sc, .int .i64 s.lo, .int .i64 s.ne, .int .i64 s.ma] 24)).alloc (.cells #[.slice da DL dc, .slice aa AL ac, .int .i64 x.lo, .int .i64 x.ne, .int .i64 x.ma] 27))
  have HB0w : Hid (Below w.heap.size w W0) := by rw [HW0.out]; exact ((Below.refl _ _).alloc (Nat.le_refl _) _).alloc (by simp) _
  have HZ0 : Hid (W0.heap.size = w.heap.size + 2) := by unfold Hid; rw [HW0.out]; simp
  have HS0 : Hid (W0.heap[w.heap.size]? = some (.cells #[.slice sa SL sc, .int .i64 s.lo, .int .i64 s.ne, .int .i64 s.ma] 24)) := by
    unfold Hid; rw [HW0.out]; exact (Below.heap_alloc _ _ _ (by simp)).trans (heap_alloc_new _ _)
  have HX0 : Hid (W0.heap[w.heap.size + 1]? = some (.cells #[.slice da DL dc, .slice aa AL ac, .int .i64 x.lo, .int .i64 x.ne, .int .i64 x.ma] 27)) := by
    unfold Hid; rw [HW0.out]
    have e := heap_alloc_new (w.alloc (.cells #[.slice sa SL sc, .int .i64 s.lo, .int .i64 s.ne, .int .i64 s.ma] 24)) (.cells #[.slice da DL dc, .slice aa AL ac, .int .i64 x.lo, .int .i64 x.ne, .int .i64 x.ma] 27)
    rw [World.size_alloc] at e
    exact e
  have HB0 := HB0w
  rw [HW0.out] at HB0
  obtain ⟨c0, c1, c2, c3⟩ := four13 HS0.out
  obtain ⟨d0, d1, d2, d3, d4⟩ := five HX0.out
  rw [HW0.out] at c0 c1 c2 c3 d0 d1 d2 d3 d4
  by_cases h1 : 100 < SL
  · have h1' : (100 : Int) < (SL : Int) := by omega
    go_enter Tryd.func3, Tryd.ntmps3
    go_wp2_with fail
    refine (alive13_any _).mono ?_
    rintro e w9 ⟨rfl, hb9⟩
    have HB9 : Hid (Below w.heap.size w w9) := HB0.out.trans (hb9.mono HB0.out.size)
    clear hb9
    go_wp2_with fail
    go_ret
    exact ⟨rfl, HB9.out⟩
  · have h1' : ¬ (100 : Int) < (SL : Int) := by omega
    by_cases h2 : 100 < AL
    · have h2' : (100 : Int) < (AL : Int) := by omega
      go_enter Tryd.func3, Tryd.ntmps3
      go_wp2_with fail
      refine (alive13_any _).mono ?_
      rintro e w9 ⟨rfl, hb9⟩
      have HB9 : Hid (Below w.heap.size w w9) := HB0.out.trans (hb9.mono HB0.out.size)
      clear hb9
      go_wp2_with fail
      go_ret
      exact ⟨rfl, HB9.out⟩
    · have h2' : ¬ (100 : Int) < (AL : Int) := by omega
      by_cases h3 : 100 < DL
      · have h3' : (100 : Int) < (DL : Int) := by omega
        go_enter Tryd.func3, Tryd.ntmps3
        go_wp2_with fail
        refine (alive13_any _).mono ?_
        rintro e w9 ⟨rfl, hb9⟩
        have HB9 : Hid (Below w.heap.size w w9) := HB0.out.trans (hb9.mono HB0.out.size)
        clear hb9
        go_wp2_with fail
        go_ret
        exact ⟨rfl, HB9.out⟩
      · have h3' : ¬ (100 : Int) < (DL : Int) := by omega
        have HC : Hid (Calls Tryd.prog 5 #[.agg #[.slice sa SL sc, .int .i64 s.lo, .int .i64 s.ne, .int .i64 s.ma], .agg #[.slice da DL dc, .slice aa AL ac, .int .i64 x.lo, .int .i64 x.ne, .int .i64 x.ma]] W0 (ApP s x W0)) := apply13_any _ _ _ s x W0 (HU.out.below HB0w.out) (HD.out.below HB0w.out) (HA.out.below HB0w.out) (by rw [HAL.out]; omega)
        rw [HW0.out] at HC
        go_enter Tryd.func3, Tryd.ntmps3
        go_wp2_with fail
        refine HC.out.mono ?_
        rw [← HW0.out]
        clear HC c0 c1 c2 c3 d0 d1 d2 d3 d4 HW0 HB0
        rintro e w1 ⟨v1, hv1, hu1, hb1⟩
        have hz0 := HZ0.out
        have HB1 : Hid (Below w.heap.size w w1) := HB0w.out.trans (hb1.mono HB0w.out.size)
        have hz1 : w.heap.size + 2 ≤ w1.heap.size := by have := hb1.size; omega
        have HS1 : Hid (w1.heap[w.heap.size]? = some (.cells #[.slice sa SL sc, .int .i64 s.lo, .int .i64 s.ne, .int .i64 s.ma] 24)) := (hb1.block _ (by omega)).trans HS0.out
        have HX1 : Hid (w1.heap[w.heap.size + 1]? = some (.cells #[.slice da DL dc, .slice aa AL ac, .int .i64 x.lo, .int .i64 x.ne, .int .i64 x.ma] 27)) := (hb1.block _ (by omega)).trans HX0.out
        clear hb1
        rcases apS_cases s x with ⟨t, ht⟩ | ⟨c, hc, hcc⟩
        · have HOk : Hid (ApOk s t x) := apS_ok ht
          rw [ht] at hv1 hu1
          simp only [Option.getD_some] at hv1 hu1
          obtain ⟨va, vc, rfl, _⟩ := hu1.r.form
          obtain ⟨TL, HTL⟩ : ∃ n, Hid (t.ru.length = n) := ⟨_, rfl⟩
          rw [HTL.out] at hu1 hv1
          subst hv1
          have HT : Hid (UR w1 (.slice va TL vc) t.ru) := hu1
          clear hu1 ht
          have HOne : Hid (([.slice va TL vc, .int .i64 t.lo, .int .i64 t.ne, .int .i64 t.ma] : List Value).toArray.all (·.oneCell') = true) := by unfold Hid; kernel_rfl
          go_wp2_with (refine stop_store 24 _ _ rfl ?_)
          refine Stop.of ?_
          refine wpList_storeN rfl _ _ _ rfl w1.heap.size 0 [.slice va TL vc, .int .i64 t.lo, .int .i64 t.ne, .int .i64 t.ma] rfl rfl _ _ (heap_alloc_new _ _) (by simp) (by kernel_rfl) HOne.out ?_
          intro w2 hw2
          obtain ⟨hb2, hx2, hl2⟩ := stW_nw hw2 (by simp)
          have HB2 : Hid (Below w.heap.size w w2) := HB1.out.trans (hb2.mono HB1.out.size)
          have HT2 : Hid (w2.heap[w1.heap.size]? = some (.cells #[.slice va TL vc, .int .i64 t.lo, .int .i64 t.ne, .int .i64 t.ma] 24)) := hx2
          have HU2 : Hid (UR w2 (.slice va TL vc) t.ru) := HT.out.below hb2
          have HS2 : Hid (w2.heap[w.heap.size]? = some (.cells #[.slice sa SL sc, .int .i64 s.lo, .int .i64 s.ne, .int .i64 s.ma] 24)) := (hb2.block _ (by omega)).trans HS1.out
          have HX2 : Hid (w2.heap[w.heap.size + 1]? = some (.cells #[.slice da DL dc, .slice aa AL ac, .int .i64 x.lo, .int .i64 x.ne, .int .i64 x.ma] 27)) := (hb2.block _ (by omega)).trans HX1.out
          clear hw2 hb2 hx2
          obtain ⟨e0, e1, e2, e3⟩ := four13 HT2.out
          go_wp2_with fail
          refine (right13_any _ t w2 HU2.out).mono ?_
          rw [show decide (okSt t) = true from decide_eq_true HOk.out.ok]
          rintro e w3 ⟨rfl, hb3⟩
          have HB3 : Hid (Below w.heap.size w w3) := HB2.out.trans (hb3.mono HB2.out.size)
          have HU3 : Hid (UR w3 (.slice va TL vc) t.ru) := HU2.out.below hb3
          have HS3 : Hid (w3.heap[w.heap.size]? = some (.cells #[.slice sa SL sc, .int .i64 s.lo, .int .i64 s.ne, .int .i64 s.ma] 24)) := (hb3.block _ (by omega)).trans HS2.out
          have HX3 : Hid (w3.heap[w.heap.size + 1]? = some (.cells #[.slice da DL dc, .slice aa AL ac, .int .i64 x.lo, .int .i64 x.ne, .int .i64 x.ma] 27)) := (hb3.block _ (by omega)).trans HX2.out
          have HT3 : Hid (w3.heap[w1.heap.size]? = some (.cells #[.slice va TL vc, .int .i64 t.lo, .int .i64 t.ne, .int .i64 t.ma] 24)) := (hb3.block _ (by omega)).trans HT2.out
          have hz3 : w1.heap.size < w3.heap.size := by have := hb3.size; omega
          clear hb3 e0 e1 e2 e3
          obtain ⟨c0, c1, c2, c3⟩ := four13 HS3.out
          obtain ⟨d0, d1, d2, d3, d4⟩ := five HX3.out
          obtain ⟨e0, e1, e2, e3⟩ := four13 HT3.out
          have hlen : (TL : Int) = (SL : Int) - (DL : Int) + (AL : Int) := by have := HOk.out.len; rw [HTL.out, HSL.out, HDL.out, HAL.out] at this; omega
          have hw1 : IntKind.i64.wrap ((SL : Int) - (DL : Int)) = (SL : Int) - (DL : Int) := by simp [IntKind.wrap, IntKind.bits, IntKind.signed]; omega
          have hw2 : IntKind.i64.wrap ((SL : Int) - (DL : Int) + (AL : Int)) = (SL : Int) - (DL : Int) + (AL : Int) := by simp [IntKind.wrap, IntKind.bits, IntKind.signed]; omega
          have hne : ((TL : Int) != (SL : Int) - (DL : Int) + (AL : Int)) = false := by rw [← hlen]; simp
          have g1 : ¬ t.lo < s.lo := by have := HOk.out.lo; omega
          have g2 : ¬ t.ne < s.ne := by have := HOk.out.ne; omega
          have g3 : ¬ t.ma < s.ma := by have := HOk.out.ma; omega
          have htl : TL ≤ 300 := by omega
          clear hlen
          go_wp2_with fail
          clear g1 g2 g3 hne hw1 hw2 c0 c1 c2 c3 d0 d1 d2 d3 d4 e0 e1 e2 e3
          go_loopw [7] (fun i wr => ∃ j : Nat, i = .int .i64 (j : Int) ∧ j ≤ AL ∧ Hid (Below w3.heap.size w3 wr)) (fun i _ => AL - (intOf i).toNat)
          case atStart => exact ⟨0, rfl, by omega, Below.refl _ _⟩
          case round =>
            obtain ⟨i, rfl, hi, HBr⟩ := hrel
            have HBw : Hid (Below w.heap.size w wr) := HB3.out.trans (HBr.out.mono HB3.out.size)
            obtain ⟨d0, d1, d2, d3, d4⟩ := five ((HBr.out.block (w.heap.size + 1) (by omega)).trans HX3.out)
            by_cases hlt : i < AL
            · have hlt' : (i : Int) < (AL : Int) := by omega
              go_wp2_with fail
              clear d0 d1 d2 d3 d4
              obtain ⟨r, Hr⟩ := hid_ex (x.ad[i]'(by rw [HAL.out]; exact hlt))
              have HMem : Hid (r ∈ t.ru) := HOk.out.mem r (by rw [Hr.out]; exact List.getElem_mem _)
              go_loopw [8, 9] (fun fb kv wq => ∃ (k : Nat), kv = .int .i64 (k : Int) ∧ k ≤ TL ∧ fb = .bool ((t.ru.take k).any fun y => eqRu y r) ∧ Hid (Below w3.heap.size w3 wq)) (fun _ kv _ => TL - (intOf kv).toNat)
              case atStart => exact ⟨0, rfl, by omega, by simp, HBr.out⟩
              case round =>
                obtain ⟨k, rfl, hk, rfl, HBq⟩ := hrel
                have HBv : Hid (Below w.heap.size w wr) := HB3.out.trans (HBq.out.mono HB3.out.size)
                obtain ⟨e0, e1, e2, e3⟩ := four13 ((HBq.out.block w1.heap.size (by omega)).trans HT3.out)
                by_cases hkl : k < TL
                · have hkl' : (k : Int) < (TL : Int) := by omega
                  obtain ⟨q, Hq⟩ := hid_ex (t.ru[k]'(by rw [HTL.out]; exact hkl))
                  have HAn : Hid ((t.ru.take (k + 1)).any (fun y => eqRu y r) = ((t.ru.take k).any (fun y => eqRu y r) || eqRu q r)) := any_snoc _ Hq.out r
                  obtain ⟨tb, toff, rfl, htb, f0, f1, f2⟩ := (HU3.out.below HBq.out).r.at (by rw [HTL.out]; exact hkl) Hq.out
                  obtain ⟨ab, aoff, rfl, hab, g0, g1, g2⟩ := (HA.out.below HBv.out).r.at (by rw [HAL.out]; exact hlt) Hr.out
                  obtain ⟨_, d1, _, _, _⟩ := five ((HBq.out.block (w.heap.size + 1) (by omega)).trans HX3.out)
                  have HC : Hid ((wr.drew.cell? ⟨w1.heap.size, 0, none⟩ = some (.slice (some ⟨tb, toff, none⟩) TL vc) ∧ wr.drew.cell? ⟨w.heap.size + 1, 1, none⟩ = some (.slice (some ⟨ab, aoff, none⟩) AL ac)) ∧ (wr.drew.cell? ⟨tb, toff + k * 3, none⟩ = some (.int .i64 q.f) ∧ wr.drew.cell? ⟨tb, toff + k * 3 + 1, none⟩ = some (.int .i64 q.l) ∧ wr.drew.cell? ⟨tb, toff + k * 3 + 2, none⟩ = some (.int .i64 q.c)) ∧ (wr.drew.cell? ⟨ab, aoff + i * 3, none⟩ = some (.int .i64 r.f) ∧ wr.drew.cell? ⟨ab, aoff + i * 3 + 1, none⟩ = some (.int .i64 r.l) ∧ wr.drew.cell? ⟨ab, aoff + i * 3 + 2, none⟩ = some (.int .i64 r.c))) := ⟨⟨e0, d1⟩, ⟨f0, f1, f2⟩, ⟨g0, g1, g2⟩⟩
                  have HBd : Hid (Below w3.heap.size w3 wr.drew) := HBq.out.drew
                  obtain ⟨fb, Hfb⟩ := hid_ex ((t.ru.take k).any fun y => eqRu y r)
                  rw [← Hfb.out] at HAn ⊢
                  clear f0 f1 f2 g0 g1 g2 d1 e1 e2 e3
                  go_wp2_with fail
                  clear e0
                  cases fb with
                  | true =>
                    refine wp_region_noPanic ?_
                    refine wp_region_held_drew (S := fun _ => True) (by kernel_rfl) ?_ (fun hHeld => ?_)
                    · trivial
                    refine wpAnyH_take (i := 0) (v := .bool true) rfl (by kernel_rfl) (by kernel_rfl) (by kernel_rfl) (fun _ _ _ h => h) (Or.inl ⟨by rfl, ?_⟩) (by assumption) ?_
                    · (intro w1 hSw; (try dsimp only at hSw); go_simp)
                    simp only [List.getElem_toArray, List.getElem_cons_zero, Act.put, List.setIfInBounds_toArray, List.set_cons_zero, List.set_cons_succ]
                    refine wpAnyH_take (i := 1) (v := .bool true) rfl (by kernel_rfl) (by kernel_rfl) (by kernel_rfl) (fun _ _ _ h => h) (Or.inl ⟨by rfl, ?_⟩) (by assumption) ?_
                    · (intro w1 hSw; (try dsimp only at hSw); go_simp)
                    simp only [List.getElem_toArray, List.getElem_cons_succ, List.getElem_cons_zero, Act.put, List.setIfInBounds_toArray, List.set_cons_zero, List.set_cons_succ]
                    refine wpAnyH_take (i := 2) (v := undef) rfl (by kernel_rfl) (by kernel_rfl) (by kernel_rfl) (fun _ _ _ h => h) (Or.inr ⟨by rfl, rfl⟩) (by assumption) ?_
                    simp only [List.getElem_toArray, List.getElem_cons_succ, List.getElem_cons_zero, Act.put, List.setIfInBounds_toArray, List.set_cons_zero, List.set_cons_succ]
                    refine wpAnyH_take (i := 3) (v := undef) rfl (by kernel_rfl) (by kernel_rfl) (by kernel_rfl) (fun _ _ _ h => h) (Or.inr ⟨by rfl, rfl⟩) (by assumption) ?_
                    simp only [List.getElem_toArray, List.getElem_cons_succ, List.getElem_cons_zero, Act.put, List.setIfInBounds_toArray, List.set_cons_zero, List.set_cons_succ]
                    refine wpAnyH_take (i := 4) (v := undef) rfl (by kernel_rfl) (by kernel_rfl) (by kernel_rfl) (fun _ _ _ h => h) (Or.inr ⟨by rfl, rfl⟩) (by assumption) ?_
                    simp only [List.getElem_toArray, List.getElem_cons_succ, List.getElem_cons_zero, Act.put, List.setIfInBounds_toArray, List.set_cons_zero, List.set_cons_succ]
                    refine wpAnyH_take (i := 5) (v := undef) rfl (by kernel_rfl) (by kernel_rfl) (by kernel_rfl) (fun _ _ _ h => h) (Or.inr ⟨by rfl, rfl⟩) (by assumption) ?_
                    simp only [List.getElem_toArray, List.getElem_cons_succ, List.getElem_cons_zero, Act.put, List.setIfInBounds_toArray, List.set_cons_zero, List.set_cons_succ]
                    refine wpAnyH_take (i := 6) (v := undef) rfl (by kernel_rfl) (by kernel_rfl) (by kernel_rfl) (fun _ _ _ h => h) (Or.inr ⟨by rfl, rfl⟩) (by assumption) ?_
                    simp only [List.getElem_toArray, List.getElem_cons_succ, List.getElem_cons_zero, Act.put, List.setIfInBounds_toArray, List.set_cons_zero, List.set_cons_succ]
                    refine wpAnyH_take (i := 7) (v := undef) rfl (by kernel_rfl) (by kernel_rfl) (by kernel_rfl) (fun _ _ _ h => h) (Or.inr ⟨by rfl, rfl⟩) (by assumption) ?_
                    simp only [List.getElem_toArray, List.getElem_cons_succ, List.getElem_cons_zero, Act.put, List.setIfInBounds_toArray, List.set_cons_zero, List.set_cons_succ]
                    refine wpAnyH_take (i := 8) (v := undef) rfl (by kernel_rfl) (by kernel_rfl) (by kernel_rfl) (fun _ _ _ h => h) (Or.inr ⟨by rfl, rfl⟩) (by assumption) ?_
                    simp only [List.getElem_toArray, List.getElem_cons_succ, List.getElem_cons_zero, Act.put, List.setIfInBounds_toArray, List.set_cons_zero, List.set_cons_succ]
                    refine wpAnyH_take (i := 9) (v := undef) rfl (by kernel_rfl) (by kernel_rfl) (by kernel_rfl) (fun _ _ _ h => h) (Or.inr ⟨by rfl, rfl⟩) (by assumption) ?_
                    simp only [List.getElem_toArray, List.getElem_cons_succ, List.getElem_cons_zero, Act.put, List.setIfInBounds_toArray, List.set_cons_zero, List.set_cons_succ]
                    refine wpAnyH_take (i := 10) (v := undef) rfl (by kernel_rfl) (by kernel_rfl) (by kernel_rfl) (fun _ _ _ h => h) (Or.inr ⟨by rfl, rfl⟩) (by assumption) ?_
                    simp only [List.getElem_toArray, List.getElem_cons_succ, List.getElem_cons_zero, Act.put, List.setIfInBounds_toArray, List.set_cons_zero, List.set_cons_succ]
                    refine wpAnyH_take (i := 11) (v := undef) rfl (by kernel_rfl) (by kernel_rfl) (by kernel_rfl) (fun _ _ _ h => h) (Or.inr ⟨by rfl, rfl⟩) (by assumption) ?_
                    simp only [List.getElem_toArray, List.getElem_cons_succ, List.getElem_cons_zero, Act.put, List.setIfInBounds_toArray, List.set_cons_zero, List.set_cons_succ]
                    refine wpAnyH_take (i := 12) (v := undef) rfl (by kernel_rfl) (by kernel_rfl) (by kernel_rfl) (fun _ _ _ h => h) (Or.inr ⟨by rfl, rfl⟩) (by assumption) ?_
                    simp only [List.getElem_toArray, List.getElem_cons_succ, List.getElem_cons_zero, Act.put, List.setIfInBounds_toArray, List.set_cons_zero, List.set_cons_succ]
                    refine wpAnyH_take (i := 13) (v := .bool true) rfl (by kernel_rfl) (by kernel_rfl) (by kernel_rfl) (fun _ _ _ h => h) (Or.inl ⟨by rfl, ?_⟩) (by assumption) ?_
                    · (intro w1 hSw; (try dsimp only at hSw); go_simp)
                    simp only [List.getElem_toArray, List.getElem_cons_succ, List.getElem_cons_zero, Act.put, List.setIfInBounds_toArray, List.set_cons_zero, List.set_cons_succ]
                    refine wpAnyH_ready (rs := [14]) (by kernel_rfl) (by simp) ?_
                    refine AllReadyH.cons (o := _) rfl (fun K hK => ?_) AllReadyH.nil
                    go_simp
                    refine hK.out _ _ ?_ (fun hHeld => ?_)
                    · trivial
                    clear hK K
                    refine wpAnyH_done (by kernel_rfl) ?_ _
                    refine NoPanic.normal ?_
                    clear HC
                    go_wp2_with fail
                    go_roundw
                    case rel => exact ⟨k + 1, by go_num, by omega, by rw [HAn.out]; rfl, HBd⟩
                    case measure => simp [intOf]; omega
                  | false =>
                    refine wp_region_noPanic ?_
                    refine wp_region_held_drew (S := fun w' => (w'.cell? ⟨w1.heap.size, 0, none⟩ = some (.slice (some ⟨tb, toff, none⟩) TL vc) ∧ w'.cell? ⟨w.heap.size + 1, 1, none⟩ = some (.slice (some ⟨ab, aoff, none⟩) AL ac)) ∧ (w'.cell? ⟨tb, toff + k * 3, none⟩ = some (.int .i64 q.f) ∧ w'.cell? ⟨tb, toff + k * 3 + 1, none⟩ = some (.int .i64 q.l) ∧ w'.cell? ⟨tb, toff + k * 3 + 2, none⟩ = some (.int .i64 q.c)) ∧ (w'.cell? ⟨ab, aoff + i * 3, none⟩ = some (.int .i64 r.f) ∧ w'.cell? ⟨ab, aoff + i * 3 + 1, none⟩ = some (.int .i64 r.l) ∧ w'.cell? ⟨ab, aoff + i * 3 + 2, none⟩ = some (.int .i64 r.c))) (by kernel_rfl) ?_ (fun hHeld => ?_)
                    · exact HC.out
                    refine wpAnyH_take (i := 0) (v := .bool false) rfl (by kernel_rfl) (by kernel_rfl) (by kernel_rfl) (fun _ _ _ h => h) (Or.inl ⟨by rfl, ?_⟩) (by assumption) ?_
                    · (intro w1 hSw; (try dsimp only at hSw); go_simp)
                    simp only [List.getElem_toArray, List.getElem_cons_zero, Act.put, List.setIfInBounds_toArray, List.set_cons_zero, List.set_cons_succ]
                    refine wpAnyH_take (i := 1) (v := .bool false) rfl (by kernel_rfl) (by kernel_rfl) (by kernel_rfl) (fun _ _ _ h => h) (Or.inl ⟨by rfl, ?_⟩) (by assumption) ?_
                    · (intro w1 hSw; (try dsimp only at hSw); go_simp)
                    simp only [List.getElem_toArray, List.getElem_cons_succ, List.getElem_cons_zero, Act.put, List.setIfInBounds_toArray, List.set_cons_zero, List.set_cons_succ]
                    refine wpAnyH_take (i := 2) (v := .pointer (some ⟨w1.heap.size, 0, none⟩)) rfl (by kernel_rfl) (by kernel_rfl) (by kernel_rfl) (fun _ _ _ h => h) (Or.inl ⟨by rfl, ?_⟩) (by assumption) ?_
                    · (intro w1 hSw; (try dsimp only at hSw); go_simp)
                    simp only [List.getElem_toArray, List.getElem_cons_succ, List.getElem_cons_zero, Act.put, List.setIfInBounds_toArray, List.set_cons_zero, List.set_cons_succ]
                    refine wpAnyH_take (i := 3) (v := .slice (some ⟨tb, toff, none⟩) TL vc) rfl (by kernel_rfl) (by kernel_rfl) (by kernel_rfl) (fun _ _ _ h => h) (Or.inl ⟨by rfl, ?_⟩) (by assumption) ?_
                    · (intro w1 hSw; (try dsimp only at hSw); go_simp)
                    simp only [List.getElem_toArray, List.getElem_cons_succ, List.getElem_cons_zero, Act.put, List.setIfInBounds_toArray, List.set_cons_zero, List.set_cons_succ]
                    refine wpAnyH_take (i := 4) (v := .int .i64 (k : Int)) rfl (by kernel_rfl) (by kernel_rfl) (by kernel_rfl) (fun _ _ _ h => h) (Or.inl ⟨by rfl, ?_⟩) (by assumption) ?_
                    · (intro w1 hSw; (try dsimp only at hSw); go_simp)
                    simp only [List.getElem_toArray, List.getElem_cons_succ, List.getElem_cons_zero, Act.put, List.setIfInBounds_toArray, List.set_cons_zero, List.set_cons_succ]
                    refine wpAnyH_take (i := 5) (v := .pointer (some ⟨tb, toff + k * 3, none⟩)) rfl (by kernel_rfl) (by kernel_rfl) (by kernel_rfl) (fun _ _ _ h => h) (Or.inl ⟨by rfl, ?_⟩) (by assumption) ?_
                    · (intro w1 hSw; (try dsimp only at hSw); go_simp)
                    simp only [List.getElem_toArray, List.getElem_cons_succ, List.getElem_cons_zero, Act.put, List.setIfInBounds_toArray, List.set_cons_zero, List.set_cons_succ]
                    refine wpAnyH_take (i := 6) (v := .agg #[.int .i64 q.f, .int .i64 q.l, .int .i64 q.c]) rfl (by kernel_rfl) (by kernel_rfl) (by kernel_rfl) (fun _ _ _ h => h) (Or.inl ⟨by rfl, ?_⟩) (by assumption) ?_
                    · (intro w1 hSw; (try dsimp only at hSw); go_simp)
                    simp only [List.getElem_toArray, List.getElem_cons_succ, List.getElem_cons_zero, Act.put, List.setIfInBounds_toArray, List.set_cons_zero, List.set_cons_succ]
                    refine wpAnyH_take (i := 7) (v := .pointer (some ⟨w.heap.size + 1, 1, none⟩)) rfl (by kernel_rfl) (by kernel_rfl) (by kernel_rfl) (fun _ _ _ h => h) (Or.inl ⟨by rfl, ?_⟩) (by assumption) ?_
                    · (intro w1 hSw; (try dsimp only at hSw); go_simp)
                    simp only [List.getElem_toArray, List.getElem_cons_succ, List.getElem_cons_zero, Act.put, List.setIfInBounds_toArray, List.set_cons_zero, List.set_cons_succ]
                    refine wpAnyH_take (i := 8) (v := .slice (some ⟨ab, aoff, none⟩) AL ac) rfl (by kernel_rfl) (by kernel_rfl) (by kernel_rfl) (fun _ _ _ h => h) (Or.inl ⟨by rfl, ?_⟩) (by assumption) ?_
                    · (intro w1 hSw; (try dsimp only at hSw); go_simp)
                    simp only [List.getElem_toArray, List.getElem_cons_succ, List.getElem_cons_zero, Act.put, List.setIfInBounds_toArray, List.set_cons_zero, List.set_cons_succ]
                    refine wpAnyH_take (i := 9) (v := .int .i64 (i : Int)) rfl (by kernel_rfl) (by kernel_rfl) (by kernel_rfl) (fun _ _ _ h => h) (Or.inl ⟨by rfl, ?_⟩) (by assumption) ?_
                    · (intro w1 hSw; (try dsimp only at hSw); go_simp)
                    simp only [List.getElem_toArray, List.getElem_cons_succ, List.getElem_cons_zero, Act.put, List.setIfInBounds_toArray, List.set_cons_zero, List.set_cons_succ]
                    refine wpAnyH_take (i := 10) (v := .pointer (some ⟨ab, aoff + i * 3, none⟩)) rfl (by kernel_rfl) (by kernel_rfl) (by kernel_rfl) (fun _ _ _ h => h) (Or.inl ⟨by rfl, ?_⟩) (by assumption) ?_
                    · (intro w1 hSw; (try dsimp only at hSw); go_simp)
                    simp only [List.getElem_toArray, List.getElem_cons_succ, List.getElem_cons_zero, Act.put, List.setIfInBounds_toArray, List.set_cons_zero, List.set_cons_succ]
                    refine wpAnyH_take (i := 11) (v := .agg #[.int .i64 r.f, .int .i64 r.l, .int .i64 r.c]) rfl (by kernel_rfl) (by kernel_rfl) (by kernel_rfl) (fun _ _ _ h => h) (Or.inl ⟨by rfl, ?_⟩) (by assumption) ?_
                    · (intro w1 hSw; (try dsimp only at hSw); go_simp)
                    simp only [List.getElem_toArray, List.getElem_cons_succ, List.getElem_cons_zero, Act.put, List.setIfInBounds_toArray, List.set_cons_zero, List.set_cons_succ]
                    obtain ⟨eb, Heb⟩ := hid_ex (eqRu q r)
                    rw [← Heb.out] at HAn
                    have HIf : Hid (∀ (a b : Result Next), (if q.f = r.f then if q.l = r.l then if q.c = r.c then a else b else b else b) = if eb = true then a else b) := fun a b => by
                      rw [Heb.out]
                      unfold eqRu
                      by_cases h1 : q.f = r.f
                      · by_cases h2 : q.l = r.l
                        · by_cases h3 : q.c = r.c <;> simp [h1, h2, h3]
                        · simp [h1, h2]
                      · simp [h1]
                    refine wpAnyH_ready (rs := [12]) (by kernel_rfl) (by simp) ?_
                    refine AllReadyH.cons (o := _) rfl (fun K hK => ?_) AllReadyH.nil
                    go_simp
                    rw [HIf.out]
                    clear Heb
                    cases eb with
                    | true =>
                      rw [if_pos rfl]
                      go_simp
                      refine hK.out _ _ ?_ (fun hHeld => ?_)
                      · exact HC.out
                      clear hK K
                      refine wpAnyH_take (i := 13) (v := .bool true) rfl (by kernel_rfl) (by kernel_rfl) (by kernel_rfl) (fun _ _ _ h => h) (Or.inl ⟨by rfl, ?_⟩) (by assumption) ?_
                      · (intro w1 hSw; (try dsimp only at hSw); go_simp)
                      simp only [List.getElem_toArray, List.getElem_cons_succ, List.getElem_cons_zero, Act.put, List.setIfInBounds_toArray, List.set_cons_zero, List.set_cons_succ]
                      refine wpAnyH_ready (rs := [14]) (by kernel_rfl) (by simp) ?_
                      refine AllReadyH.cons (o := _) rfl (fun K hK => ?_) AllReadyH.nil
                      go_simp
                      refine hK.out _ _ ?_ (fun hHeld => ?_)
                      · exact HC.out
                      clear hK K
                      refine wpAnyH_done (by kernel_rfl) ?_ _
                      refine NoPanic.normal ?_
                      clear HC
                      go_wp2_with fail
                      go_roundw
                      case rel => exact ⟨k + 1, by go_num, by omega, by rw [HAn.out]; rfl, HBd⟩
                      case measure => simp [intOf]; omega
                    | false =>
                      rw [if_neg (by decide)]
                      go_simp
                      refine hK.out _ _ ?_ (fun hHeld => ?_)
                      · exact HC.out
                      clear hK K
                      refine wpAnyH_take (i := 13) (v := .bool false) rfl (by kernel_rfl) (by kernel_rfl) (by kernel_rfl) (fun _ _ _ h => h) (Or.inl ⟨by rfl, ?_⟩) (by assumption) ?_
                      · (intro w1 hSw; (try dsimp only at hSw); go_simp)
                      simp only [List.getElem_toArray, List.getElem_cons_succ, List.getElem_cons_zero, Act.put, List.setIfInBounds_toArray, List.set_cons_zero, List.set_cons_succ]
                      refine wpAnyH_ready (rs := [14]) (by kernel_rfl) (by simp) ?_
                      refine AllReadyH.cons (o := _) rfl (fun K hK => ?_) AllReadyH.nil
                      go_simp
                      refine hK.out _ _ ?_ (fun hHeld => ?_)
                      · exact HC.out
                      clear hK K
                      refine wpAnyH_done (by kernel_rfl) ?_ _
                      refine NoPanic.normal ?_
                      clear HC
                      go_wp2_with fail
                      go_roundw
                      case rel => exact ⟨k + 1, by go_num, by omega, by rw [HAn.out]; rfl, HBd⟩
                      case measure => simp [intOf]; omega
                · have hkl' : ¬ (k : Int) < (TL : Int) := by omega
                  have hft : ((t.ru.take k).any fun y => eqRu y r) = true := by
                    rw [List.take_of_length_le (by rw [HTL.out]; omega)]
                    exact any_mem HMem.out
                  rw [hft]
                  clear hft
                  go_wp2_with fail
                  go_roundw
                  case rel => exact ⟨i + 1, by go_num, by omega, HBq⟩
                  case measure => simp [intOf]; omega
            · have hlt' : ¬ (i : Int) < (AL : Int) := by omega
              go_wp2_with fail
              refine (alive13_any _).mono ?_
              rintro e w9 ⟨rfl, hb9⟩
              have HB9 : Hid (Below w.heap.size w w9) := HBw.out.trans (hb9.mono HBw.out.size)
              clear hb9
              go_wp2_with fail
              go_ret
              exact ⟨rfl, HB9.out⟩
        · rw [hc] at hv1 hu1
          simp only [Option.getD_none] at hv1 hu1
          have HN : Hid (UR w1 v1 []) := hu1
          obtain ⟨na, nc, rfl, _⟩ := hu1.r.form
          have hv2 : e = .returned (.tuple #[.agg #[.slice na 0 nc, .int .i64 0, .int .i64 0, .int .i64 0], .int .i64 c]) := hv1
          clear hv1 hu1 hc
          subst hv2
          have HNn : Hid (UR w1 (.slice na 0 nc) []) := HN.out
          clear HN
          have hcn : (c != 0) = true := by rcases hcc with rfl | rfl <;> decide
          have HOne : Hid (([.slice na 0 nc, .int .i64 0, .int .i64 0, .int .i64 0] : List Value).toArray.all (·.oneCell') = true) := by unfold Hid; kernel_rfl
          clear hcc
          go_wp2_with (refine stop_store 24 _ _ rfl ?_)
          refine Stop.of ?_
          refine wpList_storeN rfl _ _ _ rfl w1.heap.size 0 [.slice na 0 nc, .int .i64 0, .int .i64 0, .int .i64 0] rfl rfl _ _ (heap_alloc_new _ _) (by simp) (by kernel_rfl) HOne.out ?_
          intro w2 hw2
          obtain ⟨hb2, hx2, hl2⟩ := stW_nw hw2 (by simp)
          have HB2 : Hid (Below w.heap.size w w2) := HB1.out.trans (hb2.mono HB1.out.size)
          have HT2 : Hid (w2.heap[w1.heap.size]? = some (.cells #[.slice na 0 nc, .int .i64 0, .int .i64 0, .int .i64 0] 24)) := hx2
          have HU2 : Hid (UR w2 (.slice na 0 nc) []) := HNn.out.below hb2
          clear hw2 hb2 hx2
          go_wp2_with fail
          refine (alive13_any _).mono ?_
          rintro e w3 ⟨rfl, hb3⟩
          have HB3 : Hid (Below w.heap.size w w3) := HB2.out.trans (hb3.mono HB2.out.size)
          have HU3 : Hid (UR w3 (.slice na 0 nc) []) := HU2.out.below hb3
          obtain ⟨e0, e1, e2, e3⟩ := four13 ((hb3.block _ hl2).trans HT2.out)
          clear hb3
          have HAs : Hid (Calls Tryd.prog 7 #[.agg #[.slice na 0 nc, .int .i64 0, .int .i64 0, .int .i64 0]] w3 fun e w' => ∃ v', e = .returned (.agg #[v', .int .i64 0, .int .i64 0, .int .i64 0]) ∧ RuR w' v' [] ∧ Below w3.heap.size w3 w') := as13_any _ ⟨[], 0, 0, 0⟩ w3 HU3.out.r (by decide)
          go_wp2_with fail
          refine HAs.out.mono ?_
          rintro e w4 ⟨v4, rfl, hr4, hb4⟩
          have HB4 : Hid (Below w.heap.size w w4) := HB3.out.trans (hb4.mono HB3.out.size)
          have HR4 : Hid (RuR w4 v4 []) := hr4
          clear hb4 hr4 e0 e1 e2 e3 HAs
          go_wp2_with fail
          refine (same13_any _ _ [] [] 0 0 0 0 0 0 w4 HR4.out (ur_nil w4).r).mono ?_
          rintro e w5 ⟨rb, rfl, hrb, hb5⟩
          obtain rfl := hrb ⟨rfl, rfl, rfl, rfl⟩
          have HB5 : Hid (Below w.heap.size w w5) := HB4.out.trans (hb5.mono HB4.out.size)
          clear hb5 hrb
          go_wp2_with fail
          go_ret
          exact ⟨rfl, HB5.out⟩
end Go.Proofs.YtapbojjmfakonaaDoor
