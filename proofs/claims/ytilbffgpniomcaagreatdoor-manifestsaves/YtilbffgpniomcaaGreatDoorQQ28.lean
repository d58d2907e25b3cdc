/- MY5x, joined. -/
import Derived.Test.YtilbffgpniomcaaGreatDoorQQ27
/- The reference of layer 13: edit (written by mkmy5.py). -/
namespace Go.Proofs.YtilbffgpniomcaaGreatDoor
open Go.RowKit Go.Shelf

/-- What edit answers. -/
def EdP (l : List Int) (w : World) (e : Ending) (w' : World) : Prop := ∃ dv av, e = .returned (.tuple #[.agg #[dv, av, .int .i64 ((edL l).getD edZ).lo, .int .i64 ((edL l).getD edZ).ne, .int .i64 ((edL l).getD edZ).ma], .bool (edL l).isSome]) ∧ EdR w' dv av ((edL l).getD edZ) ∧ Below w.heap.size w w' ∧ AboveV w.heap.size dv ∧ AboveV w.heap.size av
theorem EdP.no {l : List Int} (h : edL l = none) {w w' : World} (hb : Below w.heap.size w w') : EdP l w (.returned (.tuple #[.agg #[.slice none 0 0, .slice none 0 0, .int .i64 0, .int .i64 0, .int .i64 0], .bool false])) w' := by
  refine ⟨.slice none 0 0, .slice none 0 0, by rw [h]; rfl, ?_, hb, fun b off n c e => by simp at e, fun b off n c e => by simp at e⟩
  rw [h]
  exact ⟨jr_nil _, (ur_nil _).r⟩
theorem EdP.yes {l : List Int} {x : Ed} (h : edL l = some x) {w w' : World} {dv av : Value} (he : EdR w' dv av x) (hb : Below w.heap.size w w') (h1 : AboveV w.heap.size dv) (h2 : AboveV w.heap.size av) : EdP l w (.returned (.tuple #[.agg #[dv, av, .int .i64 x.lo, .int .i64 x.ne, .int .i64 x.ma], .bool true])) w' := by
  refine ⟨dv, av, by rw [h]; rfl, ?_, hb, h1, h2⟩
  rw [h]
  exact he
theorem edL_none1 {l : List Int} (h : l.length = 0 ∨ 64 < l.getD 0 0 ∨ l.length < (l.getD 0 0).toNat + 2) : edL l = none := by unfold edL; rw [if_pos h]
theorem edL_none2 {l : List Int} {n m R : Nat} (h0 : l.getD 0 0 = (n : Int)) (h1 : l.getD (1 + n) 0 = (m : Int)) (hR : (l.drop (2 + n)).length = R) (h : 64 < m ∨ R ≠ 3 * m + 3) : edL l = none := by
  unfold edL
  split
  · rfl
  · rw [h0, Int.toNat_natCast, h1, Int.toNat_natCast, hR, if_pos (by omega)]
theorem edL_some {l : List Int} {n m : Nat} (hl : n + 2 ≤ l.length) (hn : n ≤ 64) (hm : m ≤ 64) (h0 : l.getD 0 0 = (n : Int)) (h1 : l.getD (1 + n) 0 = (m : Int)) {R : List Int} (hR : l.drop (2 + n) = R) (hRl : R.length = 3 * m + 3) : edL l = some ⟨(l.drop 1).take n, ruN (R.take (3 * m)), R.getD (3 * m) 0, R.getD (3 * m + 1) 0, R.getD (3 * m + 2) 0⟩ := by
  unfold edL
  rw [h0, Int.toNat_natCast, h1, Int.toNat_natCast, hR, if_neg (by omega), if_neg (by omega)]
theorem getD_of {l : List Int} {j : Nat} (hj : j < l.length) {x : Int} (hx : x = l[j]) : l.getD j 0 = x := by
  simp only [List.getD]; rw [List.getElem?_eq_getElem hj, hx]; rfl
set_option maxRecDepth 100000 in
set_option maxHeartbeats 8000000 in
theorem refEdit_any (v : Value) (l : List Int) (w : World) (h : JU w v l) (hin : inN l) (hl : l.length ≤ 300) :
    Calls Tryz.prog 78 #[v] w (EdP l w) := by
  obtain ⟨a, cap, rfl, _⟩ := h.r.form
  have HJ : Hid (JU w (.slice a l.length cap) l) := h
  obtain ⟨N, HN⟩ : ∃ n, Hid (l.length = n) := ⟨_, rfl⟩
  rw [HN.out] at HJ hl ⊢
  have HIn : Hid (inN l) := hin
  clear h hin
  obtain ⟨W0, HW0⟩ := hid_ex ((w.alloc (.cells #[.slice none 0 0, .slice none 0 0, .int .i64 0, .int .i64 0, .int .i64 0] 56)).alloc (.cells #[.slice none 0 0, .slice none 0 0, .int .i64 0, .int .i64 0, .int .i64 0] 56))
  have HB0 : Hid (Below w.heap.size w W0) := by rw [HW0.out]; exact ((Below.refl _ _).alloc (Nat.le_refl _) _).alloc (by simp) _
  have HZ0 : Hid (W0.heap[w.heap.size]? = some (.cells #[.slice none 0 0, .slice none 0 0, .int .i64 0, .int .i64 0, .int .i64 0] 56)) := by
    unfold Hid; rw [HW0.out]; exact (Below.heap_alloc _ _ _ (by simp)).trans (heap_alloc_new _ _)
  have HX0 : Hid (W0.heap[w.heap.size + 1]? = some (.cells #[.slice none 0 0, .slice none 0 0, .int .i64 0, .int .i64 0, .int .i64 0] 56)) := by
    unfold Hid; rw [HW0.out]
    have e := heap_alloc_new (w.alloc (.cells #[.slice none 0 0, .slice none 0 0, .int .i64 0, .int .i64 0, .int .i64 0] 56)) (.cells #[.slice none 0 0, .slice none 0 0, .int .i64 0, .int .i64 0, .int .i64 0] 56)
    rw [World.size_alloc] at e
    exact e
  obtain ⟨d0, d1, d2, d3, d4⟩ := five HX0.out
  by_cases hN0 : N = 0
  · subst hN0
    have HNone : Hid (edL l = none) := edL_none1 (.inl HN.out)
    go_enter Tryz.func78, Tryz.ntmps78
    rw [HW0.out] at d0 d1 d2 d3 d4 HZ0 HB0
    go_wp2_with (refine stop_store 56 _ _ rfl ?_)
    refine Stop.of ?_
    refine wpList_storeN rfl _ _ _ rfl w.heap.size 0 [.slice none 0 0, .slice none 0 0, .int .i64 0, .int .i64 0, .int .i64 0] rfl rfl _ _ HZ0.out (by simp) (by kernel_rfl) (by kernel_rfl) ?_
    intro W9 hW9
    have HK9 := stW_all hW9 (by simp)
    have HB9 : Hid (Below w.heap.size w W9) := HB0.out.trans (hW9.b _ (Nat.le_refl _))
    clear hW9
    go_wp2_with fail
    refine bodyPost_ret (results_c13 rfl _ _ w.heap.size _ rfl (run_loadVar_row _ w.heap.size _ _ _ (0, 0) _ HK9 Tryz.underlying56 rfl (by kernel_rfl))) rfl ?_
    exact EdP.no HNone.out HB9.out
  · have h0l : 0 < l.length := by rw [HN.out]; omega
    obtain ⟨n0, Hn0⟩ := hid_ex l[0]
    have hn0 := HIn.out n0 (by rw [Hn0.out]; exact List.getElem_mem h0l)
    have HG0 : Hid (l.getD 0 0 = n0) := getD_of h0l Hn0.out
    obtain ⟨b, off, rfl, hbw, c0⟩ := (HJ.out.below HB0.out).r.at h0l Hn0.out
    rw [Nat.add_zero] at c0
    obtain ⟨n, rfl⟩ : ∃ n : Nat, n0 = (n : Int) := ⟨n0.toNat, by omega⟩
    have hNe : ((N : Int) == 0) = false := by rw [beq_eq_false_iff_ne]; omega
    have hN1 : 0 < N := by omega
    by_cases hn64 : 64 < n
    · have hn64' : (64 : Int) < (n : Int) := by omega
      have HNone : Hid (edL l = none) := edL_none1 (.inr (.inl (by rw [HG0.out]; exact hn64')))
      go_enter Tryz.func78, Tryz.ntmps78
      rw [HW0.out] at d0 d1 d2 d3 d4 HZ0 HB0 c0
      go_wp2_with (refine stop_store 56 _ _ rfl ?_)
      refine Stop.of ?_
      refine wpList_storeN rfl _ _ _ rfl w.heap.size 0 [.slice none 0 0, .slice none 0 0, .int .i64 0, .int .i64 0, .int .i64 0] rfl rfl _ _ HZ0.out (by simp) (by kernel_rfl) (by kernel_rfl) ?_
      intro W9 hW9
      have HK9 := stW_all hW9 (by simp)
      have HB9 : Hid (Below w.heap.size w W9) := HB0.out.trans (hW9.b _ (Nat.le_refl _))
      clear hW9
      go_wp2_with fail
      refine bodyPost_ret (results_c13 rfl _ _ w.heap.size _ rfl (run_loadVar_row _ w.heap.size _ _ _ (0, 0) _ HK9 Tryz.underlying56 rfl (by kernel_rfl))) rfl ?_
      exact EdP.no HNone.out HB9.out
    · have hn64' : ¬ (64 : Int) < (n : Int) := by omega
      by_cases hnl : N < n + 2
      · have hnl' : (N : Int) < (n : Int) + 2 := by omega
        have HNone : Hid (edL l = none) := edL_none1 (.inr (.inr (by rw [HG0.out, HN.out]; exact hnl)))
        go_enter Tryz.func78, Tryz.ntmps78
        rw [HW0.out] at d0 d1 d2 d3 d4 HZ0 HB0 c0
        go_wp2_with (refine stop_store 56 _ _ rfl ?_)
        refine Stop.of ?_
        refine wpList_storeN rfl _ _ _ rfl w.heap.size 0 [.slice none 0 0, .slice none 0 0, .int .i64 0, .int .i64 0, .int .i64 0] rfl rfl _ _ HZ0.out (by simp) (by kernel_rfl) (by kernel_rfl) ?_
        intro W9 hW9
        have HK9 := stW_all hW9 (by simp)
        have HB9 : Hid (Below w.heap.size w W9) := HB0.out.trans (hW9.b _ (Nat.le_refl _))
        clear hW9
        go_wp2_with fail
        refine bodyPost_ret (results_c13 rfl _ _ w.heap.size _ rfl (run_loadVar_row _ w.heap.size _ _ _ (0, 0) _ HK9 Tryz.underlying56 rfl (by kernel_rfl))) rfl ?_
        exact EdP.no HNone.out HB9.out
      · have hnl' : ¬ (N : Int) < (n : Int) + 2 := by omega
        have hl1n : 1 + n < l.length := by rw [HN.out]; omega
        obtain ⟨m0, Hm0⟩ := hid_ex (l[1 + n]'hl1n)
        have hm0 := HIn.out m0 (by rw [Hm0.out]; exact List.getElem_mem hl1n)
        have HG1 : Hid (l.getD (1 + n) 0 = m0) := getD_of hl1n Hm0.out
        obtain ⟨m, rfl⟩ : ∃ m : Nat, m0 = (m : Int) := ⟨m0.toNat, by omega⟩
        have hN9 : 1 + n < N := by omega
        obtain ⟨hsl1, hjr1⟩ := jsl_lh HJ.out HN.out hN9
        obtain ⟨ra, hsl2, hjr2⟩ := jsl_from HJ.out HN.out (d := 2 + n) (by omega)
        obtain ⟨R, HRe⟩ := hid_ex (l.drop (2 + n))
        obtain ⟨ds, HDs⟩ := hid_ex ((l.drop 1).take n)
        rw [← HRe.out] at hjr2
        rw [← HDs.out] at hjr1
        have HJ1 : Hid (JR w (.slice (some ⟨b, off + 1, none⟩) n (cap - 1)) ds) := hjr1
        have HJ2 : Hid (JR w (.slice (some ra) (N - (2 + n)) (cap - (2 + n))) R) := hjr2
        have HRl : Hid (R.length = N - (2 + n)) := by unfold Hid; rw [HRe.out, List.length_drop, HN.out]
        have HDl : Hid (ds.length = n) := by unfold Hid; rw [HDs.out, List.length_take, List.length_drop, HN.out]; omega
        obtain ⟨RL, HRL⟩ := hid_ex (N - (2 + n))
        rw [← HRL.out] at hsl2 HJ2 HRl
        have hRN : RL + (2 + n) = N := by rw [HRL.out]; omega
        have hEd0 : EdS w W0.drew (.slice none 0 0) (.slice none 0 0) [] [] (.int .i64 0) (.int .i64 0) (.int .i64 0) := ⟨HB0.out.drew, HZ0.out, HX0.out, ⟨rfl, .inl ⟨rfl, rfl⟩⟩, ⟨rfl, .inl ⟨rfl, rfl⟩⟩, fun k e => by simp [Value.ownBlock] at e, fun k e => by simp [Value.ownBlock] at e⟩
        obtain ⟨v1, W1, hrun1, hx1, hs1⟩ := hEd0.drops (HJ1.out.below HB0.out.drew) (fun n c e => by simp at e) (by rw [HDl.out]; omega)
        have HS1 : Hid (EdS w (W1.setCell ⟨w.heap.size + 1, 0, none⟩ v1) v1 (.slice none 0 0) ds [] (.int .i64 0) (.int .i64 0) (.int .i64 0)) := hs1
        obtain ⟨va, vc, hv1, _⟩ := GOwn.form hs1.d
        rw [HDl.out] at hv1
        subst hv1
        have HX1 : Hid (W1.heap[w.heap.size + 1]? = _) := hx1
        have hw1 : IntKind.i64.wrap (1 + (n : Int)) = 1 + (n : Int) := by simp [IntKind.wrap, IntKind.bits, IntKind.signed]; omega
        have hw2 : IntKind.i64.wrap (2 + (n : Int)) = 2 + (n : Int) := by simp [IntKind.wrap, IntKind.bits, IntKind.signed]; omega
        have hsl2' : ∀ w', (Instr.slice 50 (.slice (some ⟨b, off, none⟩) N cap) (some (.int .i64 (2 + (n : Int)))) none none).run Tryz.prog w' = .ok (.slice (some ra) RL (cap - (2 + n))) w' := hsl2
        have k0 := c0
        rw [HW0.out] at c0
        have hnlw : ¬ (N : Int) < IntKind.i64.wrap ((n : Int) + 2) := by
          have : IntKind.i64.wrap ((n : Int) + 2) = (n : Int) + 2 := by simp [IntKind.wrap, IntKind.bits, IntKind.signed]; omega
          rw [this]; omega
        have HW0b : Hid (W0 = (w.alloc (.cells #[.slice none 0 0, .slice none 0 0, .int .i64 0, .int .i64 0, .int .i64 0] 56)).alloc (.cells #[.slice none 0 0, .slice none 0 0, .int .i64 0, .int .i64 0, .int .i64 0] 56)) := HW0.out
        clear hjr1 hjr2 hs1 hx1 hEd0 hsl2 k0
        go_enter Tryz.func78, Tryz.ntmps78
        go_wp2_with fail
        rw [← HW0b.out]
        clear c0 d0 d1 d2 d3 d4
        have HCp : Hid (W0.drew.cell? ⟨w.heap.size + 1, 0, none⟩ = some (.slice none 0 0)) := (five HX0.out).1
        refine wp_region_noPanic ?_
        refine wp_region_S 8 (fun _ => True) (fun w' => w'.cell? ⟨w.heap.size + 1, 0, none⟩ = some (.slice none 0 0)) (by kernel_rfl) ?_ ?_ (fun hHeld => ?_)
        · trivial
        · exact HCp.out
        refine wpAnyS_take (i := 0) (v := .pointer (some ⟨w.heap.size + 1, 0, none⟩)) _ rfl (by kernel_rfl) (by kernel_rfl) (by kernel_rfl) (by kernel_rfl) (by kernel_rfl) rfl (fun _ _ _ h => h) (Or.inl ⟨by rfl, ?_⟩) hHeld (fun hHeld => ?_)
        · (intro w1 hSw; have hSw := hSw.1; (try dsimp only at hSw); go_simp)
        simp only [List.getElem_toArray, List.getElem_cons_zero, Act.put, List.setIfInBounds_toArray, List.set_cons_zero, List.set_cons_succ]
        refine wpAnyS_take (i := 1) (v := .slice none 0 0) true rfl (by kernel_rfl) (by kernel_rfl) (by kernel_rfl) (by kernel_rfl) (by kernel_rfl) (by kernel_rfl) (fun _ _ _ h => h) (Or.inl ⟨by rfl, ?_⟩) hHeld (fun hHeld => ?_)
        · (intro w1 hSw; have hSw2 := hSw.2 rfl; have hSw := hSw.1; (try dsimp only at hSw hSw2); go_simp)
        simp only [List.getElem_toArray, List.getElem_cons_succ, List.getElem_cons_zero, Act.put, List.setIfInBounds_toArray, List.set_cons_zero, List.set_cons_succ]
        refine wpAnyS_take (i := 2) (v := .slice (some ⟨b, off, none⟩) N cap) _ rfl (by kernel_rfl) (by kernel_rfl) (by kernel_rfl) (by kernel_rfl) (by kernel_rfl) rfl (fun _ _ _ h => h) (Or.inl ⟨by rfl, ?_⟩) hHeld (fun hHeld => ?_)
        · (intro w1 hSw; have hSw := hSw.1; (try dsimp only at hSw); go_simp)
        simp only [List.getElem_toArray, List.getElem_cons_succ, List.getElem_cons_zero, Act.put, List.setIfInBounds_toArray, List.set_cons_zero, List.set_cons_succ]
        refine wpAnyS_take (i := 3) (v := .int .i64 (n : Int)) _ rfl (by kernel_rfl) (by kernel_rfl) (by kernel_rfl) (by kernel_rfl) (by kernel_rfl) rfl (fun _ _ _ h => h) (Or.inl ⟨by rfl, ?_⟩) hHeld (fun hHeld => ?_)
        · (intro w1 hSw; have hSw := hSw.1; (try dsimp only at hSw); go_simp)
        simp only [List.getElem_toArray, List.getElem_cons_succ, List.getElem_cons_zero, Act.put, List.setIfInBounds_toArray, List.set_cons_zero, List.set_cons_succ]
        refine wpAnyS_take (i := 4) (v := .int .i64 (1 + (n : Int))) _ rfl (by kernel_rfl) (by kernel_rfl) (by kernel_rfl) (by kernel_rfl) (by kernel_rfl) rfl (fun _ _ _ h => h) (Or.inl ⟨by rfl, ?_⟩) hHeld (fun hHeld => ?_)
        · (intro w1 hSw; have hSw := hSw.1; (try dsimp only at hSw); go_simp)
        simp only [List.getElem_toArray, List.getElem_cons_succ, List.getElem_cons_zero, Act.put, List.setIfInBounds_toArray, List.set_cons_zero, List.set_cons_succ]
        refine wpAnyS_take (i := 5) (v := .slice (some ⟨b, off + 1, none⟩) n (cap - 1)) _ rfl (by kernel_rfl) (by kernel_rfl) (by kernel_rfl) (by kernel_rfl) (by kernel_rfl) rfl (fun _ _ _ h => h) (Or.inl ⟨by rfl, ?_⟩) hHeld (fun hHeld => ?_)
        · (intro w1 hSw; have hSw := hSw.1; (try dsimp only at hSw); go_simp)
        simp only [List.getElem_toArray, List.getElem_cons_succ, List.getElem_cons_zero, Act.put, List.setIfInBounds_toArray, List.set_cons_zero, List.set_cons_succ]
        refine wpAnyS_ready (i := 6) (by kernel_rfl) rfl (fun K hK => ?_)
        refine wp_app_runG (.tmp 31) (.tmp 35) 50 50 rfl rfl _ _ _ (by simp [Act.eval]) (by simp [Act.eval]) hrun1 ?_
        simp only [List.getElem_toArray, List.getElem_cons_succ, List.getElem_cons_zero, Act.put, List.setIfInBounds_toArray, List.set_cons_zero, List.set_cons_succ]
        refine hK.out _ _ ⟨?_, fun _ => ?_⟩ (fun hHeld => ?_)
        · trivial
        · exact (five HX1.out).1
        clear hK K
        refine wpAnyS_take (i := 7) (v := .pointer (some ⟨w.heap.size + 1, 0, none⟩)) _ rfl (by kernel_rfl) (by kernel_rfl) (by kernel_rfl) (by kernel_rfl) (by kernel_rfl) rfl (fun _ _ _ h => h) (Or.inl ⟨by rfl, ?_⟩) hHeld (fun hHeld => ?_)
        · (intro w1 hSw; have hSw := hSw.1; (try dsimp only at hSw); go_simp)
        simp only [List.getElem_toArray, List.getElem_cons_succ, List.getElem_cons_zero, Act.put, List.setIfInBounds_toArray, List.set_cons_zero, List.set_cons_succ]
        have c9 := (five HX1.out).1
        have f9 := frzOf HX1.out 0
        refine wpAnyS_ready (i := 8) (by kernel_rfl) rfl (fun K hK => ?_)
        go_simp
        refine hK.out _ _ ⟨?_, fun hno => absurd hno (by decide)⟩ (fun hHeld => ?_)
        · trivial
        clear hK K
        refine wpAnyS_done (by kernel_rfl) ?_ _
        refine NoPanic.normal ?_
        clear c9 f9 HCp hrun1 HX1
        generalize W1.setCell ⟨w.heap.size + 1, 0, none⟩ (.slice va n vc) = W2 at *
        obtain ⟨b9, off9, e9, _, c1⟩ := (HJ.out.below HS1.out.b).r.at hl1n Hm0.out
        simp only [Option.some.injEq, Addr.mk.injEq, and_true] at e9
        obtain ⟨rfl, rfl⟩ := e9
        have hcm : W2.cell? ⟨b, off + (1 + n), none⟩ = some (.int .i64 (m : Int)) := c1
        have h1N : 1 + (n : Int) < (N : Int) := by omega
        have HZ2 : Hid (W2.heap[w.heap.size]? = some (.cells #[.slice none 0 0, .slice none 0 0, .int .i64 0, .int .i64 0, .int .i64 0] 56)) := HS1.out.z
        have HB2 : Hid (Below w.heap.size w W2) := HS1.out.b
        have hw3 : IntKind.i64.wrap (3 * (m : Int)) = 3 * (m : Int) ∨ 64 < m := by
          by_cases h : 64 < m
          · exact .inr h
          · left; simp [IntKind.wrap, IntKind.bits, IntKind.signed]; omega
        by_cases hm64 : 64 < m
        · have hm64' : (64 : Int) < (m : Int) := by omega
          have HNone : Hid (edL l = none) := edL_none2 HG0.out HG1.out (R := RL) (by rw [← HRe.out]; exact HRl.out) (.inl hm64)
          clear hw3
          go_wp2_with (refine stop_store 56 _ _ rfl ?_)
          refine Stop.of ?_
          refine wpList_storeN rfl _ _ _ rfl w.heap.size 0 [.slice none 0 0, .slice none 0 0, .int .i64 0, .int .i64 0, .int .i64 0] rfl rfl _ _ HZ2.out (by simp) (by kernel_rfl) (by kernel_rfl) ?_
          intro W9 hW9
          have HK9 := stW_all hW9 (by simp)
          have HB9 : Hid (Below w.heap.size w W9) := HB2.out.trans (hW9.b _ (Nat.le_refl _))
          clear hW9
          go_wp2_with fail
          refine bodyPost_ret (results_c13 rfl _ _ w.heap.size _ rfl (run_loadVar_row _ w.heap.size _ _ _ (0, 0) _ HK9 Tryz.underlying56 rfl (by kernel_rfl))) rfl ?_
          exact EdP.no HNone.out HB9.out
        · have hm64' : ¬ (64 : Int) < (m : Int) := by omega
          have hw3' : IntKind.i64.wrap (3 * (m : Int)) = 3 * (m : Int) := by simp [IntKind.wrap, IntKind.bits, IntKind.signed]; omega
          have hw4' : IntKind.i64.wrap (3 * (m : Int) + 3) = 3 * (m : Int) + 3 := by simp [IntKind.wrap, IntKind.bits, IntKind.signed]; omega
          clear hw3
          by_cases hRm : RL = 3 * m + 3
          · have hne : ((RL : Int) != 3 * (m : Int) + 3) = false := by rw [hRm]; simp
            have HRm : Hid (RL = 3 * m + 3) := hRm
            have HSome : Hid (edL l = some ⟨ds, ruN (R.take (3 * m)), R.getD (3 * m) 0, R.getD (3 * m + 1) 0, R.getD (3 * m + 2) 0⟩) := by
              unfold Hid
              rw [HDs.out]
              exact edL_some (by rw [HN.out]; omega) (by omega) (by omega) HG0.out HG1.out HRe.out.symm (by rw [HRl.out]; exact hRm)
            clear hRm
            go_wp2_with fail
            clear c1 hcm
            have hRL3 : RL = 3 * m + 3 := HRm.out
            obtain ⟨rb, roff, hra, -, -⟩ := HJ2.out.at (j := 0) (by rw [HRl.out]; omega) rfl
            simp only [Option.some.injEq] at hra
            subst hra
            go_loopw [7] (fun iv wr => ∃ (i ac : Nat) (aa : Option Addr) (ad : List Ru), iv = .int .i64 (i : Int) ∧ i ≤ m ∧ Hid (ad.length = i ∧ ad.flatMap Ru.n = R.take (3 * i)) ∧ Hid (EdS w wr (.slice va n vc) (.slice aa i ac) ds ad (.int .i64 0) (.int .i64 0) (.int .i64 0))) (fun iv _ => m - (intOf iv).toNat)
            case atStart => exact ⟨0, 0, none, [], rfl, by omega, ⟨rfl, rfl⟩, HS1.out⟩
            case round =>
              clear HS1 HZ2 HB2
              obtain ⟨i, ac, aa, ad, rfl, hi, HA, HS⟩ := hrel
              by_cases hlt : i < m
              · have hlt' : (i : Int) < (m : Int) := by omega
                have q1 : 3 * i < R.length := by rw [HRl.out]; omega
                have q2 : 3 * i + 1 < R.length := by rw [HRl.out]; omega
                have q3 : 3 * i + 2 < R.length := by rw [HRl.out]; omega
                obtain ⟨y1, Hy1⟩ := hid_ex (R[3 * i]'q1)
                obtain ⟨y2, Hy2⟩ := hid_ex (R[3 * i + 1]'q2)
                obtain ⟨y3, Hy3⟩ := hid_ex (R[3 * i + 2]'q3)
                have HSd : Hid (EdS w wr.drew (.slice va n vc) (.slice aa i ac) ds ad (.int .i64 0) (.int .i64 0) (.int .i64 0)) := HS.out.below (Below.refl _ _).drew
                have HJd : Hid (JR wr.drew (.slice (some ⟨rb, roff, none⟩) RL (cap - (2 + n))) R) := HJ2.out.below HSd.out.b
                obtain ⟨b1, o1, e1, hbb, g1⟩ := HJd.out.at q1 Hy1.out
                obtain ⟨b2, o2, e2, _, g2⟩ := HJd.out.at q2 Hy2.out
                obtain ⟨b3, o3, e3, _, g3⟩ := HJd.out.at q3 Hy3.out
                simp only [Option.some.injEq, Addr.mk.injEq, and_true] at e1 e2 e3
                obtain ⟨rfl, rfl⟩ := e1
                obtain ⟨rfl, rfl⟩ := e2
                obtain ⟨rfl, rfl⟩ := e3
                have hrb : rb < w.heap.size := by
                  obtain ⟨b', off', e', hb', _⟩ := HJ2.out.at q1 rfl
                  simp only [Option.some.injEq, Addr.mk.injEq] at e'
                  omega
                have HC : Hid ((wr.drew.cell? ⟨rb, roff + 3 * i, none⟩ = some (.int .i64 y1) ∧ wr.drew.cell? ⟨rb, roff + (3 * i + 1), none⟩ = some (.int .i64 y2) ∧ wr.drew.cell? ⟨rb, roff + (3 * i + 2), none⟩ = some (.int .i64 y3))) := ⟨g1, g2, g3⟩
                obtain ⟨v3, W3, hrun, hx3, hs3⟩ := HSd.out.add ⟨y1, y2, y3⟩ (by rw [HA.out.1]; omega)
                simp only at hrun
                have HX3 : Hid (W3.heap[w.heap.size + 1]? = _) := hx3
                have HS3 : Hid (EdS w (W3.setCell ⟨w.heap.size + 1, 1, none⟩ v3) (.slice va n vc) v3 ds (ad ++ [⟨y1, y2, y3⟩]) (.int .i64 0) (.int .i64 0) (.int .i64 0)) := hs3
                have HA3 : Hid ((ad ++ [(⟨y1, y2, y3⟩ : Ru)]).length = i + 1 ∧ (ad ++ [(⟨y1, y2, y3⟩ : Ru)]).flatMap Ru.n = R.take (3 * (i + 1))) := by
                  refine ⟨by rw [List.length_append, HA.out.1]; rfl, ?_⟩
                  rw [List.flatMap_append, HA.out.2, show 3 * (i + 1) = 3 * i + 1 + 1 + 1 by omega, snocI q3 Hy3.out, snocI q2 Hy2.out, snocI q1 Hy1.out]
                  simp [Ru.n]
                obtain ⟨va3, vc3, hv3, _⟩ := GOwn.form hs3.a
                rw [HA3.out.1] at hv3
                subst hv3
                have HBa : Hid (Below wr.drew.heap.size wr.drew (wr.drew.alloc (.cells #[.int .i64 y1, .int .i64 y2, .int .i64 y3] 101))) := (Below.refl _ _).alloc (Nat.le_refl _) _
                have HCa : Hid (((wr.drew.alloc (.cells #[.int .i64 y1, .int .i64 y2, .int .i64 y3] 101)).cell? ⟨rb, roff + 3 * i, none⟩ = some (.int .i64 y1) ∧ (wr.drew.alloc (.cells #[.int .i64 y1, .int .i64 y2, .int .i64 y3] 101)).cell? ⟨rb, roff + (3 * i + 1), none⟩ = some (.int .i64 y2) ∧ (wr.drew.alloc (.cells #[.int .i64 y1, .int .i64 y2, .int .i64 y3] 101)).cell? ⟨rb, roff + (3 * i + 2), none⟩ = some (.int .i64 y3))) := ⟨(HBa.out.cell (p := ⟨rb, _, none⟩) hbb).trans g1, (HBa.out.cell (p := ⟨rb, _, none⟩) hbb).trans g2, (HBa.out.cell (p := ⟨rb, _, none⟩) hbb).trans g3⟩
                have HC9 : Hid (((W3.setCell ⟨w.heap.size + 1, 1, none⟩ (.slice va3 (i + 1) vc3)).cell? ⟨rb, roff + 3 * i, none⟩ = some (.int .i64 y1) ∧ (W3.setCell ⟨w.heap.size + 1, 1, none⟩ (.slice va3 (i + 1) vc3)).cell? ⟨rb, roff + (3 * i + 1), none⟩ = some (.int .i64 y2) ∧ (W3.setCell ⟨w.heap.size + 1, 1, none⟩ (.slice va3 (i + 1) vc3)).cell? ⟨rb, roff + (3 * i + 2), none⟩ = some (.int .i64 y3))) := by
                  have hj := HJ2.out.below HS3.out.b
                  obtain ⟨b1, o1, e1, _, k1⟩ := hj.at q1 Hy1.out
                  obtain ⟨b2, o2, e2, _, k2⟩ := hj.at q2 Hy2.out
                  obtain ⟨b3, o3, e3, _, k3⟩ := hj.at q3 Hy3.out
                  simp only [Option.some.injEq, Addr.mk.injEq, and_true] at e1 e2 e3
                  obtain ⟨rfl, rfl⟩ := e1
                  obtain ⟨rfl, rfl⟩ := e2
                  obtain ⟨rfl, rfl⟩ := e3
                  exact ⟨k1, k2, k3⟩
                have HC3 : Hid ((W3.cell? ⟨rb, roff + 3 * i, none⟩ = some (.int .i64 y1) ∧ W3.cell? ⟨rb, roff + (3 * i + 1), none⟩ = some (.int .i64 y2) ∧ W3.cell? ⟨rb, roff + (3 * i + 2), none⟩ = some (.int .i64 y3))) := ⟨(World.cell?_setCell_other W3 ⟨w.heap.size + 1, 1, none⟩ ⟨rb, _, none⟩ _ (by first | (simp; done) | (simp; omega))).symm.trans HC9.out.1, (World.cell?_setCell_other W3 ⟨w.heap.size + 1, 1, none⟩ ⟨rb, _, none⟩ _ (by first | (simp; done) | (simp; omega))).symm.trans HC9.out.2.1, (World.cell?_setCell_other W3 ⟨w.heap.size + 1, 1, none⟩ ⟨rb, _, none⟩ _ (by first | (simp; done) | (simp; omega))).symm.trans HC9.out.2.2⟩
                have HPa : Hid ((wr.drew.alloc (.cells #[.int .i64 y1, .int .i64 y2, .int .i64 y3] 101)).cell? ⟨w.heap.size + 1, 1, none⟩ = some (.slice aa i ac)) := (five (HSd.out.below HBa.out).x).2.1
                have HPd : Hid (wr.drew.cell? ⟨w.heap.size + 1, 1, none⟩ = some (.slice aa i ac)) := (five HSd.out.x).2.1
                have hw5 : IntKind.i64.wrap (3 * (i : Int)) = 3 * (i : Int) := by simp [IntKind.wrap, IntKind.bits, IntKind.signed]; omega
                have hw6 : IntKind.i64.wrap (3 * (i : Int) + 1) = 3 * (i : Int) + 1 := by simp [IntKind.wrap, IntKind.bits, IntKind.signed]; omega
                have hw7 : IntKind.i64.wrap (3 * (i : Int) + 2) = 3 * (i : Int) + 2 := by simp [IntKind.wrap, IntKind.bits, IntKind.signed]; omega
                have hb5 : 3 * (i : Int) < (RL : Int) := by omega
                have hb6 : 3 * (i : Int) + 1 < (RL : Int) := by omega
                have hb7 : 3 * (i : Int) + 2 < (RL : Int) := by omega
                have hb8 : 0 ≤ 3 * (i : Int) := by omega
                have hb9 : ¬ (3 * (i : Int) + 1 < 0) := by omega
                have hb10 : ¬ (3 * (i : Int) + 2 < 0) := by omega
                have ht5 : (3 * (i : Int)).toNat = 3 * i := by omega
                have ht6 : (3 * (i : Int) + 1).toNat = 3 * i + 1 := by omega
                have ht7 : (3 * (i : Int) + 2).toNat = 3 * i + 2 := by omega
                clear hRL3
                clear g1 g2 g3 hs3 hx3 HS HJd
                go_wp2_with fail
                refine wp_region_noPanic ?_
                refine wp_region_S 23 (fun w' => (w'.cell? ⟨rb, roff + 3 * i, none⟩ = some (.int .i64 y1) ∧ w'.cell? ⟨rb, roff + (3 * i + 1), none⟩ = some (.int .i64 y2) ∧ w'.cell? ⟨rb, roff + (3 * i + 2), none⟩ = some (.int .i64 y3))) (fun w' => w'.cell? ⟨w.heap.size + 1, 1, none⟩ = some (.slice aa i ac)) (by kernel_rfl) ?_ ?_ (fun hHeld => ?_)
                · exact HC.out
                · exact HPd.out
                refine wpAnyS_take (i := 0) (v := .pointer (some ⟨w.heap.size + 1, 1, none⟩)) _ rfl (by kernel_rfl) (by kernel_rfl) (by kernel_rfl) (by kernel_rfl) (by kernel_rfl) rfl (fun _ _ _ h => h) (Or.inl ⟨by rfl, ?_⟩) hHeld (fun hHeld => ?_)
                · (intro w1 hSw; have hSw := hSw.1; (try dsimp only at hSw); go_simp)
                simp only [List.getElem_toArray, List.getElem_cons_zero, Act.put, List.setIfInBounds_toArray, List.set_cons_zero, List.set_cons_succ]
                refine wpAnyS_take (i := 1) (v := .slice aa i ac) true rfl (by kernel_rfl) (by kernel_rfl) (by kernel_rfl) (by kernel_rfl) (by kernel_rfl) (by kernel_rfl) (fun _ _ _ h => h) (Or.inl ⟨by rfl, ?_⟩) hHeld (fun hHeld => ?_)
                · (intro w1 hSw; have hSw2 := hSw.2 rfl; have hSw := hSw.1; (try dsimp only at hSw hSw2); go_simp)
                simp only [List.getElem_toArray, List.getElem_cons_succ, List.getElem_cons_zero, Act.put, List.setIfInBounds_toArray, List.set_cons_zero, List.set_cons_succ]
                refine wpAnyS_take (i := 2) (v := .slice (some ⟨rb, roff, none⟩) RL (cap - (2 + n))) _ rfl (by kernel_rfl) (by kernel_rfl) (by kernel_rfl) (by kernel_rfl) (by kernel_rfl) rfl (fun _ _ _ h => h) (Or.inl ⟨by rfl, ?_⟩) hHeld (fun hHeld => ?_)
                · (intro w1 hSw; have hSw := hSw.1; (try dsimp only at hSw); go_simp)
                simp only [List.getElem_toArray, List.getElem_cons_succ, List.getElem_cons_zero, Act.put, List.setIfInBounds_toArray, List.set_cons_zero, List.set_cons_succ]
                refine wpAnyS_take (i := 3) (v := .int .i64 (i : Int)) _ rfl (by kernel_rfl) (by kernel_rfl) (by kernel_rfl) (by kernel_rfl) (by kernel_rfl) rfl (fun _ _ _ h => h) (Or.inl ⟨by rfl, ?_⟩) hHeld (fun hHeld => ?_)
                · (intro w1 hSw; have hSw := hSw.1; (try dsimp only at hSw); go_simp)
                simp only [List.getElem_toArray, List.getElem_cons_succ, List.getElem_cons_zero, Act.put, List.setIfInBounds_toArray, List.set_cons_zero, List.set_cons_succ]
                refine wpAnyS_take (i := 4) (v := .int .i64 (3 * (i : Int))) _ rfl (by kernel_rfl) (by kernel_rfl) (by kernel_rfl) (by kernel_rfl) (by kernel_rfl) rfl (fun _ _ _ h => h) (Or.inl ⟨by rfl, ?_⟩) hHeld (fun hHeld => ?_)
                · (intro w1 hSw; have hSw := hSw.1; (try dsimp only at hSw); go_simp)
                simp only [List.getElem_toArray, List.getElem_cons_succ, List.getElem_cons_zero, Act.put, List.setIfInBounds_toArray, List.set_cons_zero, List.set_cons_succ]
                refine wpAnyS_take (i := 5) (v := .pointer (some ⟨rb, roff + 3 * i, none⟩)) _ rfl (by kernel_rfl) (by kernel_rfl) (by kernel_rfl) (by kernel_rfl) (by kernel_rfl) rfl (fun _ _ _ h => h) (Or.inl ⟨by rfl, ?_⟩) hHeld (fun hHeld => ?_)
                · (intro w1 hSw; have hSw := hSw.1; (try dsimp only at hSw); go_simp)
                simp only [List.getElem_toArray, List.getElem_cons_succ, List.getElem_cons_zero, Act.put, List.setIfInBounds_toArray, List.set_cons_zero, List.set_cons_succ]
                refine wpAnyS_take (i := 6) (v := .int .i64 y1) _ rfl (by kernel_rfl) (by kernel_rfl) (by kernel_rfl) (by kernel_rfl) (by kernel_rfl) rfl (fun _ _ _ h => h) (Or.inl ⟨by rfl, ?_⟩) hHeld (fun hHeld => ?_)
                · (intro w1 hSw; have hSw := hSw.1; (try dsimp only at hSw); go_simp)
                simp only [List.getElem_toArray, List.getElem_cons_succ, List.getElem_cons_zero, Act.put, List.setIfInBounds_toArray, List.set_cons_zero, List.set_cons_succ]
                refine wpAnyS_take (i := 7) (v := .slice (some ⟨rb, roff, none⟩) RL (cap - (2 + n))) _ rfl (by kernel_rfl) (by kernel_rfl) (by kernel_rfl) (by kernel_rfl) (by kernel_rfl) rfl (fun _ _ _ h => h) (Or.inl ⟨by rfl, ?_⟩) hHeld (fun hHeld => ?_)
                · (intro w1 hSw; have hSw := hSw.1; (try dsimp only at hSw); go_simp)
                simp only [List.getElem_toArray, List.getElem_cons_succ, List.getElem_cons_zero, Act.put, List.setIfInBounds_toArray, List.set_cons_zero, List.set_cons_succ]
                refine wpAnyS_take (i := 8) (v := .int .i64 (i : Int)) _ rfl (by kernel_rfl) (by kernel_rfl) (by kernel_rfl) (by kernel_rfl) (by kernel_rfl) rfl (fun _ _ _ h => h) (Or.inl ⟨by rfl, ?_⟩) hHeld (fun hHeld => ?_)
                · (intro w1 hSw; have hSw := hSw.1; (try dsimp only at hSw); go_simp)
                simp only [List.getElem_toArray, List.getElem_cons_succ, List.getElem_cons_zero, Act.put, List.setIfInBounds_toArray, List.set_cons_zero, List.set_cons_succ]
                refine wpAnyS_take (i := 9) (v := .int .i64 (3 * (i : Int))) _ rfl (by kernel_rfl) (by kernel_rfl) (by kernel_rfl) (by kernel_rfl) (by kernel_rfl) rfl (fun _ _ _ h => h) (Or.inl ⟨by rfl, ?_⟩) hHeld (fun hHeld => ?_)
                · (intro w1 hSw; have hSw := hSw.1; (try dsimp only at hSw); go_simp)
                simp only [List.getElem_toArray, List.getElem_cons_succ, List.getElem_cons_zero, Act.put, List.setIfInBounds_toArray, List.set_cons_zero, List.set_cons_succ]
                refine wpAnyS_take (i := 10) (v := .int .i64 (3 * (i : Int) + 1)) _ rfl (by kernel_rfl) (by kernel_rfl) (by kernel_rfl) (by kernel_rfl) (by kernel_rfl) rfl (fun _ _ _ h => h) (Or.inl ⟨by rfl, ?_⟩) hHeld (fun hHeld => ?_)
                · (intro w1 hSw; have hSw := hSw.1; (try dsimp only at hSw); go_simp)
                simp only [List.getElem_toArray, List.getElem_cons_succ, List.getElem_cons_zero, Act.put, List.setIfInBounds_toArray, List.set_cons_zero, List.set_cons_succ]
                refine wpAnyS_take (i := 11) (v := .pointer (some ⟨rb, roff + (3 * i + 1), none⟩)) _ rfl (by kernel_rfl) (by kernel_rfl) (by kernel_rfl) (by kernel_rfl) (by kernel_rfl) rfl (fun _ _ _ h => h) (Or.inl ⟨by rfl, ?_⟩) hHeld (fun hHeld => ?_)
                · (intro w1 hSw; have hSw := hSw.1; (try dsimp only at hSw); go_simp)
                simp only [List.getElem_toArray, List.getElem_cons_succ, List.getElem_cons_zero, Act.put, List.setIfInBounds_toArray, List.set_cons_zero, List.set_cons_succ]
                refine wpAnyS_take (i := 12) (v := .int .i64 y2) _ rfl (by kernel_rfl) (by kernel_rfl) (by kernel_rfl) (by kernel_rfl) (by kernel_rfl) rfl (fun _ _ _ h => h) (Or.inl ⟨by rfl, ?_⟩) hHeld (fun hHeld => ?_)
                · (intro w1 hSw; have hSw := hSw.1; (try dsimp only at hSw); go_simp)
                simp only [List.getElem_toArray, List.getElem_cons_succ, List.getElem_cons_zero, Act.put, List.setIfInBounds_toArray, List.set_cons_zero, List.set_cons_succ]
                refine wpAnyS_take (i := 13) (v := .slice (some ⟨rb, roff, none⟩) RL (cap - (2 + n))) _ rfl (by kernel_rfl) (by kernel_rfl) (by kernel_rfl) (by kernel_rfl) (by kernel_rfl) rfl (fun _ _ _ h => h) (Or.inl ⟨by rfl, ?_⟩) hHeld (fun hHeld => ?_)
                · (intro w1 hSw; have hSw := hSw.1; (try dsimp only at hSw); go_simp)
                simp only [List.getElem_toArray, List.getElem_cons_succ, List.getElem_cons_zero, Act.put, List.setIfInBounds_toArray, List.set_cons_zero, List.set_cons_succ]
                refine wpAnyS_take (i := 14) (v := .int .i64 (i : Int)) _ rfl (by kernel_rfl) (by kernel_rfl) (by kernel_rfl) (by kernel_rfl) (by kernel_rfl) rfl (fun _ _ _ h => h) (Or.inl ⟨by rfl, ?_⟩) hHeld (fun hHeld => ?_)
                · (intro w1 hSw; have hSw := hSw.1; (try dsimp only at hSw); go_simp)
                simp only [List.getElem_toArray, List.getElem_cons_succ, List.getElem_cons_zero, Act.put, List.setIfInBounds_toArray, List.set_cons_zero, List.set_cons_succ]
                refine wpAnyS_take (i := 15) (v := .int .i64 (3 * (i : Int))) _ rfl (by kernel_rfl) (by kernel_rfl) (by kernel_rfl) (by kernel_rfl) (by kernel_rfl) rfl (fun _ _ _ h => h) (Or.inl ⟨by rfl, ?_⟩) hHeld (fun hHeld => ?_)
                · (intro w1 hSw; have hSw := hSw.1; (try dsimp only at hSw); go_simp)
                simp only [List.getElem_toArray, List.getElem_cons_succ, List.getElem_cons_zero, Act.put, List.setIfInBounds_toArray, List.set_cons_zero, List.set_cons_succ]
                refine wpAnyS_take (i := 16) (v := .int .i64 (3 * (i : Int) + 2)) _ rfl (by kernel_rfl) (by kernel_rfl) (by kernel_rfl) (by kernel_rfl) (by kernel_rfl) rfl (fun _ _ _ h => h) (Or.inl ⟨by rfl, ?_⟩) hHeld (fun hHeld => ?_)
                · (intro w1 hSw; have hSw := hSw.1; (try dsimp only at hSw); go_simp)
                simp only [List.getElem_toArray, List.getElem_cons_succ, List.getElem_cons_zero, Act.put, List.setIfInBounds_toArray, List.set_cons_zero, List.set_cons_succ]
                refine wpAnyS_take (i := 17) (v := .pointer (some ⟨rb, roff + (3 * i + 2), none⟩)) _ rfl (by kernel_rfl) (by kernel_rfl) (by kernel_rfl) (by kernel_rfl) (by kernel_rfl) rfl (fun _ _ _ h => h) (Or.inl ⟨by rfl, ?_⟩) hHeld (fun hHeld => ?_)
                · (intro w1 hSw; have hSw := hSw.1; (try dsimp only at hSw); go_simp)
                simp only [List.getElem_toArray, List.getElem_cons_succ, List.getElem_cons_zero, Act.put, List.setIfInBounds_toArray, List.set_cons_zero, List.set_cons_succ]
                refine wpAnyS_take (i := 18) (v := .int .i64 y3) _ rfl (by kernel_rfl) (by kernel_rfl) (by kernel_rfl) (by kernel_rfl) (by kernel_rfl) rfl (fun _ _ _ h => h) (Or.inl ⟨by rfl, ?_⟩) hHeld (fun hHeld => ?_)
                · (intro w1 hSw; have hSw := hSw.1; (try dsimp only at hSw); go_simp)
                simp only [List.getElem_toArray, List.getElem_cons_succ, List.getElem_cons_zero, Act.put, List.setIfInBounds_toArray, List.set_cons_zero, List.set_cons_succ]
                refine wpAnyS_take (i := 19) (v := .agg #[.int .i64 y1, .int .i64 y2, .int .i64 y3]) _ rfl (by kernel_rfl) (by kernel_rfl) (by kernel_rfl) (by kernel_rfl) (by kernel_rfl) rfl (fun _ _ _ h => h) (Or.inl ⟨by rfl, ?_⟩) hHeld (fun hHeld => ?_)
                · (intro w1 hSw; have hSw := hSw.1; (try dsimp only at hSw); go_simp)
                simp only [List.getElem_toArray, List.getElem_cons_succ, List.getElem_cons_zero, Act.put, List.setIfInBounds_toArray, List.set_cons_zero, List.set_cons_succ]
                refine wpAnyS_ready (i := 20) (by kernel_rfl) rfl (fun K hK => ?_)
                go_simp
                refine hK.out _ _ ⟨?_, fun _ => ?_⟩ (fun hHeld => ?_)
                · exact HCa.out
                · exact HPa.out
                clear hK K
                refine wpAnyS_ready (i := 21) (by kernel_rfl) rfl (fun K hK => ?_)
                refine wp_app_runG (.tmp 64) (.tmp 83) 36 36 rfl rfl _ _ _ (by simp [Act.eval]) (by simp [Act.eval]) hrun ?_
                simp only [List.getElem_toArray, List.getElem_cons_succ, List.getElem_cons_zero, Act.put, List.setIfInBounds_toArray, List.set_cons_zero, List.set_cons_succ]
                refine hK.out _ _ ⟨?_, fun _ => ?_⟩ (fun hHeld => ?_)
                · exact HC3.out
                · exact (five HX3.out).2.1
                clear hK K
                refine wpAnyS_take (i := 22) (v := .pointer (some ⟨w.heap.size + 1, 1, none⟩)) _ rfl (by kernel_rfl) (by kernel_rfl) (by kernel_rfl) (by kernel_rfl) (by kernel_rfl) rfl (fun _ _ _ h => h) (Or.inl ⟨by rfl, ?_⟩) hHeld (fun hHeld => ?_)
                · (intro w1 hSw; have hSw := hSw.1; (try dsimp only at hSw); go_simp)
                simp only [List.getElem_toArray, List.getElem_cons_succ, List.getElem_cons_zero, Act.put, List.setIfInBounds_toArray, List.set_cons_zero, List.set_cons_succ]
                have c9 := (five HX3.out).2.1
                have f9 := frzOf HX3.out 1
                refine wpAnyS_ready (i := 23) (by kernel_rfl) rfl (fun K hK => ?_)
                go_simp
                refine hK.out _ _ ⟨?_, fun hno => absurd hno (by decide)⟩ (fun hHeld => ?_)
                · exact HC9.out
                clear hK K
                refine wpAnyS_done (by kernel_rfl) ?_ _
                refine NoPanic.normal ?_
                clear HC HCa HC9 HC3 HPa HPd hrun c9 f9
                go_wp2_with fail
                go_roundw
                case rel => exact ⟨i + 1, _, _, _, by go_num, by omega, HA3, HS3⟩
                case measure => simp [intOf]; omega
              · have hlt' : ¬ (i : Int) < (m : Int) := by omega
                obtain rfl : i = m := by omega
                have q1 : 3 * i < R.length := by rw [HRl.out]; omega
                have q2 : 3 * i + 1 < R.length := by rw [HRl.out]; omega
                have q3 : 3 * i + 2 < R.length := by rw [HRl.out]; omega
                obtain ⟨y1, Hy1⟩ := hid_ex (R[3 * i]'q1)
                obtain ⟨y2, Hy2⟩ := hid_ex (R[3 * i + 1]'q2)
                obtain ⟨y3, Hy3⟩ := hid_ex (R[3 * i + 2]'q3)
                obtain ⟨wd, HWd⟩ := hid_ex wr.drew
                have HSd : Hid (EdS w wd (.slice va n vc) (.slice aa i ac) ds ad (.int .i64 0) (.int .i64 0) (.int .i64 0)) := by rw [HWd.out]; exact HS.out.below (Below.refl _ _).drew
                have HJd : Hid (JR wd (.slice (some ⟨rb, roff, none⟩) RL (cap - (2 + n))) R) := HJ2.out.below HSd.out.b
                obtain ⟨b1, o1, e1, hbb, g1⟩ := HJd.out.at q1 Hy1.out
                obtain ⟨b2, o2, e2, _, g2⟩ := HJd.out.at q2 Hy2.out
                obtain ⟨b3, o3, e3, _, g3⟩ := HJd.out.at q3 Hy3.out
                simp only [Option.some.injEq, Addr.mk.injEq, and_true] at e1 e2 e3
                obtain ⟨rfl, rfl⟩ := e1
                obtain ⟨rfl, rfl⟩ := e2
                obtain ⟨rfl, rfl⟩ := e3
                have hrb : rb < w.heap.size := by
                  obtain ⟨b', off', e', hb', _⟩ := HJ2.out.at q1 rfl
                  simp only [Option.some.injEq, Addr.mk.injEq] at e'
                  omega
                have HC : Hid ((wd.cell? ⟨rb, roff + 3 * i, none⟩ = some (.int .i64 y1) ∧ wd.cell? ⟨rb, roff + (3 * i + 1), none⟩ = some (.int .i64 y2) ∧ wd.cell? ⟨rb, roff + (3 * i + 2), none⟩ = some (.int .i64 y3))) := ⟨g1, g2, g3⟩
                have HSF := HSd.out.fin (.int .i64 y1) (.int .i64 y2) (.int .i64 y3)
                have HYs : Hid (edL l = some ⟨ds, ad, y1, y2, y3⟩) := by
                  unfold Hid
                  rw [HSome.out, ← HA.out.2, ruN_flat, getD_of q1 Hy1.out, getD_of q2 Hy2.out, getD_of q3 Hy3.out]
                have hk : ∀ (W : World) (u : Value) (o : Nat), (W.cell? ⟨rb, roff + 3 * i, none⟩ = some (.int .i64 y1) ∧ W.cell? ⟨rb, roff + (3 * i + 1), none⟩ = some (.int .i64 y2) ∧ W.cell? ⟨rb, roff + (3 * i + 2), none⟩ = some (.int .i64 y3)) → ((W.setCell ⟨w.heap.size + 1, o, none⟩ u).cell? ⟨rb, roff + 3 * i, none⟩ = some (.int .i64 y1) ∧ (W.setCell ⟨w.heap.size + 1, o, none⟩ u).cell? ⟨rb, roff + (3 * i + 1), none⟩ = some (.int .i64 y2) ∧ (W.setCell ⟨w.heap.size + 1, o, none⟩ u).cell? ⟨rb, roff + (3 * i + 2), none⟩ = some (.int .i64 y3)) := fun W u o hc => ⟨(World.cell?_setCell_other W ⟨w.heap.size + 1, o, none⟩ ⟨rb, _, none⟩ u (by first | (simp; done) | (simp; omega))).trans hc.1, (World.cell?_setCell_other W ⟨w.heap.size + 1, o, none⟩ ⟨rb, _, none⟩ u (by first | (simp; done) | (simp; omega))).trans hc.2.1, (World.cell?_setCell_other W ⟨w.heap.size + 1, o, none⟩ ⟨rb, _, none⟩ u (by first | (simp; done) | (simp; omega))).trans hc.2.2⟩
                have HKp : Hid (∀ (W : World) (u : Value) (o : Nat), (W.cell? ⟨rb, roff + 3 * i, none⟩ = some (.int .i64 y1) ∧ W.cell? ⟨rb, roff + (3 * i + 1), none⟩ = some (.int .i64 y2) ∧ W.cell? ⟨rb, roff + (3 * i + 2), none⟩ = some (.int .i64 y3)) → ((W.setCell ⟨w.heap.size + 1, o, none⟩ u).cell? ⟨rb, roff + 3 * i, none⟩ = some (.int .i64 y1) ∧ (W.setCell ⟨w.heap.size + 1, o, none⟩ u).cell? ⟨rb, roff + (3 * i + 1), none⟩ = some (.int .i64 y2) ∧ (W.setCell ⟨w.heap.size + 1, o, none⟩ u).cell? ⟨rb, roff + (3 * i + 2), none⟩ = some (.int .i64 y3))) := hk
                have HSF2 : Hid (EdS w (((wd.setCell ⟨w.heap.size + 1, 2, none⟩ (.int .i64 y1)).setCell ⟨w.heap.size + 1, 3, none⟩ (.int .i64 y2)).setCell ⟨w.heap.size + 1, 4, none⟩ (.int .i64 y3)) (.slice va n vc) (.slice aa i ac) ds ad (.int .i64 y1) (.int .i64 y2) (.int .i64 y3)) := HSF
                obtain ⟨_, _, d2, d3, d4⟩ := five HSd.out.x
                have f2 := frzOf HSd.out.x 2
                have f3 := frzOf HSd.out.x 3
                have f4 := frzOf HSd.out.x 4
                have hw5 : IntKind.i64.wrap (3 * (i : Int)) = 3 * (i : Int) := by simp [IntKind.wrap, IntKind.bits, IntKind.signed]; omega
                have hw6 : IntKind.i64.wrap (3 * (i : Int) + 1) = 3 * (i : Int) + 1 := by simp [IntKind.wrap, IntKind.bits, IntKind.signed]; omega
                have hw7 : IntKind.i64.wrap (3 * (i : Int) + 2) = 3 * (i : Int) + 2 := by simp [IntKind.wrap, IntKind.bits, IntKind.signed]; omega
                have hb5 : 3 * (i : Int) < (RL : Int) := by omega
                have hb6 : 3 * (i : Int) + 1 < (RL : Int) := by omega
                have hb7 : 3 * (i : Int) + 2 < (RL : Int) := by omega
                have hb8 : 0 ≤ 3 * (i : Int) := by omega
                have hb9 : ¬ (3 * (i : Int) + 1 < 0) := by omega
                have hb10 : ¬ (3 * (i : Int) + 2 < 0) := by omega
                have ht5 : (3 * (i : Int)).toNat = 3 * i := by omega
                have ht6 : (3 * (i : Int) + 1).toNat = 3 * i + 1 := by omega
                have ht7 : (3 * (i : Int) + 2).toNat = 3 * i + 2 := by omega
                clear hRL3 g1 g2 g3 HSF hk HJd
                go_wp2_with fail
                refine wp_region_noPanic ?_
                refine wp_region_held_drew (S := fun w' => (w'.cell? ⟨rb, roff + 3 * i, none⟩ = some (.int .i64 y1) ∧ w'.cell? ⟨rb, roff + (3 * i + 1), none⟩ = some (.int .i64 y2) ∧ w'.cell? ⟨rb, roff + (3 * i + 2), none⟩ = some (.int .i64 y3))) (by kernel_rfl) ?_ (fun hHeld => ?_)
                · (rw [← HWd.out]; exact HC.out)
                rw [← HWd.out]
                clear HWd
                refine wpAnyH_take (i := 0) (v := .slice (some ⟨rb, roff, none⟩) RL (cap - (2 + n))) rfl (by kernel_rfl) (by kernel_rfl) (by kernel_rfl) (fun _ _ _ h => h) (Or.inl ⟨by rfl, ?_⟩) (by assumption) ?_
                · (intro w1 hSw; (try dsimp only at hSw); go_simp)
                simp only [List.getElem_toArray, List.getElem_cons_zero, Act.put, List.setIfInBounds_toArray, List.set_cons_zero, List.set_cons_succ]
                refine wpAnyH_take (i := 1) (v := .int .i64 (i : Int)) rfl (by kernel_rfl) (by kernel_rfl) (by kernel_rfl) (fun _ _ _ h => h) (Or.inl ⟨by rfl, ?_⟩) (by assumption) ?_
                · (intro w1 hSw; (try dsimp only at hSw); go_simp)
                simp only [List.getElem_toArray, List.getElem_cons_succ, List.getElem_cons_zero, Act.put, List.setIfInBounds_toArray, List.set_cons_zero, List.set_cons_succ]
                refine wpAnyH_take (i := 2) (v := .int .i64 (3 * (i : Int))) rfl (by kernel_rfl) (by kernel_rfl) (by kernel_rfl) (fun _ _ _ h => h) (Or.inl ⟨by rfl, ?_⟩) (by assumption) ?_
                · (intro w1 hSw; (try dsimp only at hSw); go_simp)
                simp only [List.getElem_toArray, List.getElem_cons_succ, List.getElem_cons_zero, Act.put, List.setIfInBounds_toArray, List.set_cons_zero, List.set_cons_succ]
                refine wpAnyH_take (i := 3) (v := .pointer (some ⟨rb, roff + 3 * i, none⟩)) rfl (by kernel_rfl) (by kernel_rfl) (by kernel_rfl) (fun _ _ _ h => h) (Or.inl ⟨by rfl, ?_⟩) (by assumption) ?_
                · (intro w1 hSw; (try dsimp only at hSw); go_simp)
                simp only [List.getElem_toArray, List.getElem_cons_succ, List.getElem_cons_zero, Act.put, List.setIfInBounds_toArray, List.set_cons_zero, List.set_cons_succ]
                refine wpAnyH_take (i := 4) (v := .int .i64 y1) rfl (by kernel_rfl) (by kernel_rfl) (by kernel_rfl) (fun _ _ _ h => h) (Or.inl ⟨by rfl, ?_⟩) (by assumption) ?_
                · (intro w1 hSw; (try dsimp only at hSw); go_simp)
                simp only [List.getElem_toArray, List.getElem_cons_succ, List.getElem_cons_zero, Act.put, List.setIfInBounds_toArray, List.set_cons_zero, List.set_cons_succ]
                refine wpAnyH_take (i := 5) (v := .slice (some ⟨rb, roff, none⟩) RL (cap - (2 + n))) rfl (by kernel_rfl) (by kernel_rfl) (by kernel_rfl) (fun _ _ _ h => h) (Or.inl ⟨by rfl, ?_⟩) (by assumption) ?_
                · (intro w1 hSw; (try dsimp only at hSw); go_simp)
                simp only [List.getElem_toArray, List.getElem_cons_succ, List.getElem_cons_zero, Act.put, List.setIfInBounds_toArray, List.set_cons_zero, List.set_cons_succ]
                refine wpAnyH_take (i := 6) (v := .int .i64 (i : Int)) rfl (by kernel_rfl) (by kernel_rfl) (by kernel_rfl) (fun _ _ _ h => h) (Or.inl ⟨by rfl, ?_⟩) (by assumption) ?_
                · (intro w1 hSw; (try dsimp only at hSw); go_simp)
                simp only [List.getElem_toArray, List.getElem_cons_succ, List.getElem_cons_zero, Act.put, List.setIfInBounds_toArray, List.set_cons_zero, List.set_cons_succ]
                refine wpAnyH_take (i := 7) (v := .int .i64 (3 * (i : Int))) rfl (by kernel_rfl) (by kernel_rfl) (by kernel_rfl) (fun _ _ _ h => h) (Or.inl ⟨by rfl, ?_⟩) (by assumption) ?_
                · (intro w1 hSw; (try dsimp only at hSw); go_simp)
                simp only [List.getElem_toArray, List.getElem_cons_succ, List.getElem_cons_zero, Act.put, List.setIfInBounds_toArray, List.set_cons_zero, List.set_cons_succ]
                refine wpAnyH_take (i := 8) (v := .int .i64 (3 * (i : Int) + 1)) rfl (by kernel_rfl) (by kernel_rfl) (by kernel_rfl) (fun _ _ _ h => h) (Or.inl ⟨by rfl, ?_⟩) (by assumption) ?_
                · (intro w1 hSw; (try dsimp only at hSw); go_simp)
                simp only [List.getElem_toArray, List.getElem_cons_succ, List.getElem_cons_zero, Act.put, List.setIfInBounds_toArray, List.set_cons_zero, List.set_cons_succ]
                refine wpAnyH_take (i := 9) (v := .pointer (some ⟨rb, roff + (3 * i + 1), none⟩)) rfl (by kernel_rfl) (by kernel_rfl) (by kernel_rfl) (fun _ _ _ h => h) (Or.inl ⟨by rfl, ?_⟩) (by assumption) ?_
                · (intro w1 hSw; (try dsimp only at hSw); go_simp)
                simp only [List.getElem_toArray, List.getElem_cons_succ, List.getElem_cons_zero, Act.put, List.setIfInBounds_toArray, List.set_cons_zero, List.set_cons_succ]
                refine wpAnyH_take (i := 10) (v := .int .i64 y2) rfl (by kernel_rfl) (by kernel_rfl) (by kernel_rfl) (fun _ _ _ h => h) (Or.inl ⟨by rfl, ?_⟩) (by assumption) ?_
                · (intro w1 hSw; (try dsimp only at hSw); go_simp)
                simp only [List.getElem_toArray, List.getElem_cons_succ, List.getElem_cons_zero, Act.put, List.setIfInBounds_toArray, List.set_cons_zero, List.set_cons_succ]
                refine wpAnyH_take (i := 11) (v := .slice (some ⟨rb, roff, none⟩) RL (cap - (2 + n))) rfl (by kernel_rfl) (by kernel_rfl) (by kernel_rfl) (fun _ _ _ h => h) (Or.inl ⟨by rfl, ?_⟩) (by assumption) ?_
                · (intro w1 hSw; (try dsimp only at hSw); go_simp)
                simp only [List.getElem_toArray, List.getElem_cons_succ, List.getElem_cons_zero, Act.put, List.setIfInBounds_toArray, List.set_cons_zero, List.set_cons_succ]
                refine wpAnyH_take (i := 12) (v := .int .i64 (i : Int)) rfl (by kernel_rfl) (by kernel_rfl) (by kernel_rfl) (fun _ _ _ h => h) (Or.inl ⟨by rfl, ?_⟩) (by assumption) ?_
                · (intro w1 hSw; (try dsimp only at hSw); go_simp)
                simp only [List.getElem_toArray, List.getElem_cons_succ, List.getElem_cons_zero, Act.put, List.setIfInBounds_toArray, List.set_cons_zero, List.set_cons_succ]
                refine wpAnyH_take (i := 13) (v := .int .i64 (3 * (i : Int))) rfl (by kernel_rfl) (by kernel_rfl) (by kernel_rfl) (fun _ _ _ h => h) (Or.inl ⟨by rfl, ?_⟩) (by assumption) ?_
                · (intro w1 hSw; (try dsimp only at hSw); go_simp)
                simp only [List.getElem_toArray, List.getElem_cons_succ, List.getElem_cons_zero, Act.put, List.setIfInBounds_toArray, List.set_cons_zero, List.set_cons_succ]
                refine wpAnyH_take (i := 14) (v := .int .i64 (3 * (i : Int) + 2)) rfl (by kernel_rfl) (by kernel_rfl) (by kernel_rfl) (fun _ _ _ h => h) (Or.inl ⟨by rfl, ?_⟩) (by assumption) ?_
                · (intro w1 hSw; (try dsimp only at hSw); go_simp)
                simp only [List.getElem_toArray, List.getElem_cons_succ, List.getElem_cons_zero, Act.put, List.setIfInBounds_toArray, List.set_cons_zero, List.set_cons_succ]
                refine wpAnyH_take (i := 15) (v := .pointer (some ⟨rb, roff + (3 * i + 2), none⟩)) rfl (by kernel_rfl) (by kernel_rfl) (by kernel_rfl) (fun _ _ _ h => h) (Or.inl ⟨by rfl, ?_⟩) (by assumption) ?_
                · (intro w1 hSw; (try dsimp only at hSw); go_simp)
                simp only [List.getElem_toArray, List.getElem_cons_succ, List.getElem_cons_zero, Act.put, List.setIfInBounds_toArray, List.set_cons_zero, List.set_cons_succ]
                refine wpAnyH_take (i := 16) (v := .int .i64 y3) rfl (by kernel_rfl) (by kernel_rfl) (by kernel_rfl) (fun _ _ _ h => h) (Or.inl ⟨by rfl, ?_⟩) (by assumption) ?_
                · (intro w1 hSw; (try dsimp only at hSw); go_simp)
                simp only [List.getElem_toArray, List.getElem_cons_succ, List.getElem_cons_zero, Act.put, List.setIfInBounds_toArray, List.set_cons_zero, List.set_cons_succ]
                refine wpAnyH_take (i := 17) (v := .pointer (some ⟨w.heap.size + 1, 2, none⟩)) rfl (by kernel_rfl) (by kernel_rfl) (by kernel_rfl) (fun _ _ _ h => h) (Or.inl ⟨by rfl, ?_⟩) (by assumption) ?_
                · (intro w1 hSw; (try dsimp only at hSw); go_simp)
                simp only [List.getElem_toArray, List.getElem_cons_succ, List.getElem_cons_zero, Act.put, List.setIfInBounds_toArray, List.set_cons_zero, List.set_cons_succ]
                refine wpAnyH_ready (rs := [18]) (by kernel_rfl) (by simp) ?_
                refine AllReadyH.cons (o := _) rfl (fun K hK => ?_) AllReadyH.nil
                go_simp
                refine hK.out _ _ ?_ (fun hHeld => ?_)
                · exact HKp.out _ _ _ HC.out
                clear hK K
                refine wpAnyH_take (i := 19) (v := .pointer (some ⟨w.heap.size + 1, 3, none⟩)) rfl (by kernel_rfl) (by kernel_rfl) (by kernel_rfl) (fun _ _ _ h => h) (Or.inl ⟨by rfl, ?_⟩) (by assumption) ?_
                · (intro w1 hSw; (try dsimp only at hSw); go_simp)
                simp only [List.getElem_toArray, List.getElem_cons_succ, List.getElem_cons_zero, Act.put, List.setIfInBounds_toArray, List.set_cons_zero, List.set_cons_succ]
                refine wpAnyH_ready (rs := [20]) (by kernel_rfl) (by simp) ?_
                refine AllReadyH.cons (o := _) rfl (fun K hK => ?_) AllReadyH.nil
                go_simp
                refine hK.out _ _ ?_ (fun hHeld => ?_)
                · exact HKp.out _ _ _ (HKp.out _ _ _ HC.out)
                clear hK K
                refine wpAnyH_take (i := 21) (v := .pointer (some ⟨w.heap.size + 1, 4, none⟩)) rfl (by kernel_rfl) (by kernel_rfl) (by kernel_rfl) (fun _ _ _ h => h) (Or.inl ⟨by rfl, ?_⟩) (by assumption) ?_
                · (intro w1 hSw; (try dsimp only at hSw); go_simp)
                simp only [List.getElem_toArray, List.getElem_cons_succ, List.getElem_cons_zero, Act.put, List.setIfInBounds_toArray, List.set_cons_zero, List.set_cons_succ]
                refine wpAnyH_ready (rs := [22]) (by kernel_rfl) (by simp) ?_
                refine AllReadyH.cons (o := _) rfl (fun K hK => ?_) AllReadyH.nil
                go_simp
                refine hK.out _ _ ?_ (fun hHeld => ?_)
                · exact HKp.out _ _ _ (HKp.out _ _ _ (HKp.out _ _ _ HC.out))
                clear hK K
                refine wpAnyH_done (by kernel_rfl) ?_ _
                refine NoPanic.normal ?_
                clear d2 d3 d4 f2 f3 f4 HC HKp
                generalize ((wd.setCell ⟨w.heap.size + 1, 2, none⟩ (.int .i64 y1)).setCell ⟨w.heap.size + 1, 3, none⟩ (.int .i64 y2)).setCell ⟨w.heap.size + 1, 4, none⟩ (.int .i64 y3) = W6 at *
                obtain ⟨d0, d1, d2, d3, d4⟩ := five HSF2.out.x
                have HZ6 : Hid (W6.heap[w.heap.size]? = some (.cells #[.slice none 0 0, .slice none 0 0, .int .i64 0, .int .i64 0, .int .i64 0] 56)) := HSF2.out.z
                have HB6 : Hid (Below w.heap.size w W6) := HSF2.out.b
                have HOne : Hid (([.slice va n vc, .slice aa i ac, .int .i64 y1, .int .i64 y2, .int .i64 y3] : List Value).toArray.all (·.oneCell') = true) := by unfold Hid; kernel_rfl
                go_wp2_with (refine stop_store 56 _ _ rfl ?_)
                refine Stop.of ?_
                refine wpList_storeN rfl _ _ _ rfl w.heap.size 0 [.slice va n vc, .slice aa i ac, .int .i64 y1, .int .i64 y2, .int .i64 y3] rfl rfl _ _ HZ6.out (by simp) (by kernel_rfl) HOne.out ?_
                intro W9 hW9
                have HK9 := stW_all hW9 (by simp)
                have HB9 : Hid (Below w.heap.size w W9) := HB6.out.trans (hW9.b _ (Nat.le_refl _))
                have HO9 : Hid (∀ k, k ≠ w.heap.size → W9.heap[k]? = W6.heap[k]?) := hW9.o
                clear hW9
                go_wp2_with fail
                refine bodyPost_ret (results_c13 rfl _ _ w.heap.size _ rfl (run_loadVar_row _ w.heap.size _ _ _ (0, 0) _ HK9 Tryz.underlying56 rfl (by kernel_rfl))) rfl ?_
                exact EdP.yes HYs.out ⟨gown_jr (HSF2.out.d.keep fun k e => HO9.out k (by have := (HSF2.out.dk k e).1; omega)), gown_rur (HSF2.out.a.keep fun k e => HO9.out k (by have := (HSF2.out.ak k e).1; omega))⟩ HB9.out (fun b' off' n' c' e => by have := (HSF2.out.dk b' (by rw [e]; rfl)).1; omega) (fun b' off' n' c' e => by have := (HSF2.out.ak b' (by rw [e]; rfl)).1; omega)
          · have hne : ((RL : Int) != 3 * (m : Int) + 3) = true := by
              rw [bne_iff_ne]; omega
            have HNone : Hid (edL l = none) := edL_none2 HG0.out HG1.out (R := RL) (by rw [← HRe.out]; exact HRl.out) (.inr hRm)
            clear hRm
            go_wp2_with (refine stop_store 56 _ _ rfl ?_)
            refine Stop.of ?_
            refine wpList_storeN rfl _ _ _ rfl w.heap.size 0 [.slice none 0 0, .slice none 0 0, .int .i64 0, .int .i64 0, .int .i64 0] rfl rfl _ _ HZ2.out (by simp) (by kernel_rfl) (by kernel_rfl) ?_
            intro W9 hW9
            have HK9 := stW_all hW9 (by simp)
            have HB9 : Hid (Below w.heap.size w W9) := HB2.out.trans (hW9.b _ (Nat.le_refl _))
            clear hW9
            go_wp2_with fail
            refine bodyPost_ret (results_c13 rfl _ _ w.heap.size _ rfl (run_loadVar_row _ w.heap.size _ _ _ (0, 0) _ HK9 Tryz.underlying56 rfl (by kernel_rfl))) rfl ?_
            exact EdP.no HNone.out HB9.out
end Go.Proofs.YtilbffgpniomcaaGreatDoor
