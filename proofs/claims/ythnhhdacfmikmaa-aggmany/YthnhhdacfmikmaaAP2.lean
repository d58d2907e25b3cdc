/- The contract of agg.Many. -/
import Derived.Test.YthnhhdacfmikmaaAP1
namespace Go.Proofs.Ythnhhdacfmikmaa
open Go.RowKit

theorem res_r {fn : Func} {p : Tmp} {ty : TypeId} (h : fn.results = #[.cell p ty]) (tmps : Array Value) (w : World) (g : Nat) (cs : Array Value)
    (hp : tmps.getD p undef = .pointer (some ⟨g, 0, none⟩)) (hl : (loadVar ty ⟨g, 0, none⟩).run Try.prog w = .ok (.agg cs) w) :
    (results fn tmps).run Try.prog w = .ok (.agg cs) w := by
  have hp' : tmps[p]?.getD undef = .pointer (some ⟨g, 0, none⟩) := by simpa using hp
  simp [results, h, hp', asAddr, hl]
theorem heap_2 (w : World) (o1 o2 : Obj) : ((w.alloc o1).alloc o2).heap[w.heap.size + 1]? = some o2 ∧ ((w.alloc o1).alloc o2).heap[w.heap.size]? = some o1 := by
  have h1 := World.alloc_heap_new (w.alloc o1) o2
  rw [show (w.alloc o1).heap.size = w.heap.size + 1 by simp] at h1
  refine ⟨h1, ?_⟩
  have h2 := World.alloc_heap_new w o1
  have hb := (Below.refl (w.alloc o1).heap.size (w.alloc o1)).alloc (Nat.le_refl _) o2
  rw [hb.block w.heap.size (by simp)]; exact h2
set_option maxRecDepth 100000 in
set_option maxHeartbeats 4000000 in
theorem many_any (v : Value) (l : List Int) (hl : l.length ≤ 500) (hbd : ∀ z ∈ l, -9223372036854775808 ≤ z ∧ z ≤ 9223372036854775807) (w : World) (hR : IReads w v l) :
    Calls Try.prog 6 #[v] w fun e w' => ∃ A, e = .returned (.agg #[.int .u64 A.c, .bool A.o, .int .i64 (hi A.s), .int .u64 (lo A.s), .int .i64 A.mn, .int .i64 A.mx]) ∧ Kn l A ∧ Below w.heap.size w w' := by
  have HR : Hid (IReads w v l) := hR
  obtain ⟨a, cap, rfl, hm⟩ := hR.form
  unfold maxLen at hm
  have HBD : Hid _ := hbd
  clear hR hbd
  go_enter Try.func6, Try.ntmps6
  go_wp2_with fail
  go_loopw [8] (fun i wr => ∃ (k : Nat) (A : Ag), k ≤ l.length ∧ i = .int .i64 (k : Int) ∧ Hid (Kn (l.take k) A) ∧ Hid (wr.heap[w.heap.size + 1]? = some (.cells #[.int .u64 A.c, .bool A.o, .int .i64 (hi A.s), .int .u64 (lo A.s), .int .i64 A.mn, .int .i64 A.mx] 28)) ∧ Hid (wr.heap[w.heap.size]? = some (.cells #[.int .u64 0, .bool false, .int .i64 0, .int .u64 0, .int .i64 0, .int .i64 0] 28)) ∧ Hid (Below w.heap.size w wr)) (fun i _ => l.length - (intOf i).toNat)
  case atStart => exact ⟨0, aZ, by omega, rfl, .inl ⟨rfl, rfl⟩, (heap_2 w _ _).1, (heap_2 w _ _).2, ((Below.refl _ _).alloc (Nat.le_refl _) _).alloc (by simp) _⟩
  case round =>
    obtain ⟨k, A, hk, rfl, HK, HC, HZ, HB⟩ := hrel
    by_cases hlt : k < l.length
    · obtain ⟨bA, oA, rfl, hbA, d1⟩ := HR.out.at k hlt
      have c1 := (HB.out.cell (p := ⟨bA, oA + k, none⟩) hbA).trans d1
      have hxb := HBD.out l[k] (List.getElem_mem hlt)
      have HTk : Hid (Kn (l.take (k + 1)) (mrg A (oneF l[k]))) := by
        unfold Hid
        rw [List.take_add_one, List.getElem?_eq_getElem hlt]
        exact HK.out.app (Kn.one l[k]) (by simp; omega)
      obtain ⟨x, HX⟩ := hid_ex l[k]
      rw [← HX.out] at c1 hxb HTk
      unfold ic at c1
      obtain ⟨O, HO⟩ := hid_ex (oneF x)
      have HON : Hid (∀ w, Calls Try.prog 13 #[.int .i64 x] w fun e w' => e = .returned (.agg #[.int .u64 O.c, .bool O.o, .int .i64 (hi O.s), .int .u64 (lo O.s), .int .i64 O.mn, .int .i64 O.mx]) ∧ Below w.heap.size w w') := by
        intro w; rw [HO.out]; exact one_any x hxb.1 hxb.2 w
      obtain ⟨N, HN⟩ := hid_ex (mrg A O)
      have hkc := HK.out.c.1
      have HMG : Hid (∀ w, Calls Try.prog 12 #[.agg #[.int .u64 A.c, .bool A.o, .int .i64 (hi A.s), .int .u64 (lo A.s), .int .i64 A.mn, .int .i64 A.mx], .agg #[.int .u64 O.c, .bool O.o, .int .i64 (hi O.s), .int .u64 (lo O.s), .int .i64 O.mn, .int .i64 O.mx]] w fun e w' => e = .returned (.agg #[.int .u64 N.c, .bool N.o, .int .i64 (hi N.s), .int .u64 (lo N.s), .int .i64 N.mn, .int .i64 N.mx]) ∧ Below w.heap.size w w') := by
        intro w; rw [HN.out]
        exact merge_any A O (by rw [hkc]; omega) (by rw [hkc, List.length_take]; omega) (by rw [HO.out]; show (0 : Int) ≤ 1; decide) (by rw [HO.out]; show (1 : Int) < 18446744073709551616; decide) w
      have HKN : Hid (Kn (l.take (k + 1)) N) := by rw [HN.out, HO.out]; exact HTk
      have hwr := HB.out.size
      clear d1 hxb hkc HO HN HTk HX
      go_wp2_with fail
      clear c1
      have z0 := c_rw HC.out 0 (by simp)
      have z1 := c_rw HC.out 1 (by simp)
      have z2 := c_rw HC.out 2 (by simp)
      have z3 := c_rw HC.out 3 (by simp)
      have z4 := c_rw HC.out 4 (by simp)
      have z5 := c_rw HC.out 5 (by simp)
      simp only [List.getElem_toArray, List.getElem_cons_succ, List.getElem_cons_zero] at z0 z1 z2 z3 z4 z5
      refine wp_region_noPanic ?_
      refine wp_region_held_drew (S := (fun w' => Below w.heap.size w w')) (by kernel_rfl) ?_ (fun hHeld => ?_)
      · exact HB.out.drew
      refine wpAnyH_take (i := 1) (v := .int .i64 x) rfl (by kernel_rfl) (by kernel_rfl) (by kernel_rfl) (fun _ _ _ h => h) (Or.inl ⟨by rfl, ?_⟩) (by assumption) ?_
      · (intro w1 hSw; (try dsimp only at hSw); go_simp)
      simp only [List.getElem_toArray, List.getElem_cons_succ, List.getElem_cons_zero, Act.put, List.setIfInBounds_toArray, List.set_cons_zero, List.set_cons_succ]
      refine wpAnyH_ready (rs := [0, 2]) (by kernel_rfl) (by simp) ?_
      refine AllReadyH.cons (o := _) rfl (fun K hK => ?_) (AllReadyH.cons (o := _) rfl (fun K hK => ?_) AllReadyH.nil)
      · go_simp
        refine hK.out _ _ ?_ (fun hHeld => ?_)
        · exact HB.out.drew
        clear hK K
        clear z0 z1 z2 z3 z4 z5
        refine wpAnyH_ready (rs := [2]) (by kernel_rfl) (by simp) ?_
        refine AllReadyH.cons (o := _) rfl (fun K hK => ?_) AllReadyH.nil
        go_simp
        refine (HON.out _).mono ?_
        rintro e w5 ⟨rfl, hb5⟩
        have hc5 : Below wr.heap.size wr w5 := (Below.refl wr.heap.size wr).drew.trans hb5
        have HC5 : Hid (w5.heap[w.heap.size + 1]? = some (.cells #[.int .u64 A.c, .bool A.o, .int .i64 (hi A.s), .int .u64 (lo A.s), .int .i64 A.mn, .int .i64 A.mx] 28)) := (hc5.block _ (Array.getElem?_eq_some_iff.1 HC.out).1).trans HC.out
        have HZ5 : Hid (w5.heap[w.heap.size]? = some (.cells #[.int .u64 0, .bool false, .int .i64 0, .int .u64 0, .int .i64 0, .int .i64 0] 28)) := (hc5.block _ (Array.getElem?_eq_some_iff.1 HZ.out).1).trans HZ.out
        have HB5 : Hid (Below w.heap.size w w5) := HB.out.trans (hc5.mono HB.out.size)
        clear hb5 hc5
        refine hK.out _ _ ?_ (fun hHeld => ?_)
        · exact HB5.out
        clear hK K
        refine wpAnyH_ready (rs := [3]) (by kernel_rfl) (by simp) ?_
        refine AllReadyH.cons (o := _) rfl (fun K hK => ?_) AllReadyH.nil
        go_simp
        refine (HMG.out _).mono ?_
        rintro e w6 ⟨rfl, hb6⟩
        have HC6 : Hid (w6.heap[w.heap.size + 1]? = some (.cells #[.int .u64 A.c, .bool A.o, .int .i64 (hi A.s), .int .u64 (lo A.s), .int .i64 A.mn, .int .i64 A.mx] 28)) := (hb6.block _ (Array.getElem?_eq_some_iff.1 HC5.out).1).trans HC5.out
        have HZ6 : Hid (w6.heap[w.heap.size]? = some (.cells #[.int .u64 0, .bool false, .int .i64 0, .int .u64 0, .int .i64 0, .int .i64 0] 28)) := (hb6.block _ (Array.getElem?_eq_some_iff.1 HZ5.out).1).trans HZ5.out
        have HB6 : Hid (Below w.heap.size w w6) := HB5.out.trans (hb6.mono HB5.out.size)
        clear hb6
        refine hK.out _ _ ?_ (fun hHeld => ?_)
        · exact HB6.out
        clear hK K
        have f0 := f_rw HC6.out 0
        have f1 := f_rw HC6.out 1
        have f2 := f_rw HC6.out 2
        have f3 := f_rw HC6.out 3
        have f4 := f_rw HC6.out 4
        have f5 := f_rw HC6.out 5
        have z0 := c_rw HC6.out 0 (by simp)
        have z1 := c_rw HC6.out 1 (by simp)
        have z2 := c_rw HC6.out 2 (by simp)
        have z3 := c_rw HC6.out 3 (by simp)
        have z4 := c_rw HC6.out 4 (by simp)
        have z5 := c_rw HC6.out 5 (by simp)
        simp only [List.getElem_toArray, List.getElem_cons_succ, List.getElem_cons_zero] at z0 z1 z2 z3 z4 z5
        refine wpAnyH_ready (rs := [4]) (by kernel_rfl) (by simp) ?_
        refine AllReadyH.cons (o := _) rfl (fun K hK => ?_) AllReadyH.nil
        go_simp
        obtain ⟨w7, HW7⟩ := hid_ex ((((((w6.setCell ⟨w.heap.size + 1, 0, none⟩ (.int .u64 N.c)).setCell ⟨w.heap.size + 1, 1, none⟩ (.bool N.o)).setCell ⟨w.heap.size + 1, 2, none⟩ (.int .i64 (hi N.s))).setCell ⟨w.heap.size + 1, 3, none⟩ (.int .u64 (lo N.s))).setCell ⟨w.heap.size + 1, 4, none⟩ (.int .i64 N.mn)).setCell ⟨w.heap.size + 1, 5, none⟩ (.int .i64 N.mx))
        rw [← HW7.out]
        have HB7 : Hid (Below w.heap.size w w7) := by rw [HW7.out]; exact below6' HB6.out (by omega) _ _ _ _ _ _
        have HC7 : Hid (w7.heap[w.heap.size + 1]? = some (.cells #[.int .u64 N.c, .bool N.o, .int .i64 (hi N.s), .int .u64 (lo N.s), .int .i64 N.mn, .int .i64 N.mx] 28)) := by rw [HW7.out]; exact set6' HC6.out _ _ _ _ _ _
        have HZ7 : Hid (w7.heap[w.heap.size]? = some (.cells #[.int .u64 0, .bool false, .int .i64 0, .int .u64 0, .int .i64 0, .int .i64 0] 28)) := by
          rw [HW7.out]; unfold Hid
          rw [Go.heap_setCell_other _ _ _ _ (by simp), Go.heap_setCell_other _ _ _ _ (by simp), Go.heap_setCell_other _ _ _ _ (by simp), Go.heap_setCell_other _ _ _ _ (by simp), Go.heap_setCell_other _ _ _ _ (by simp), Go.heap_setCell_other _ _ _ _ (by simp)]
          exact HZ6.out
        refine hK.out _ _ ?_ (fun hHeld => ?_)
        · exact HB7.out
        clear hK K
        clear hHeld z0 z1 z2 z3 z4 z5 f0 f1 f2 f3 f4 f5 HW7 HB6 HC6 HZ6
        refine wpAnyH_done (by kernel_rfl) ?_ _
        refine NoPanic.normal ?_
        go_wp2_with fail
        go_roundw
        case rel => exact ⟨k + 1, N, by omega, by go_num, HKN, HC7, HZ7, HB7⟩
        case measure => simp [intOf]; omega
      · go_simp
        refine (HON.out _).mono ?_
        rintro e w5 ⟨rfl, hb5⟩
        have hc5 : Below wr.heap.size wr w5 := (Below.refl wr.heap.size wr).drew.trans hb5
        have HC5 : Hid (w5.heap[w.heap.size + 1]? = some (.cells #[.int .u64 A.c, .bool A.o, .int .i64 (hi A.s), .int .u64 (lo A.s), .int .i64 A.mn, .int .i64 A.mx] 28)) := (hc5.block _ (Array.getElem?_eq_some_iff.1 HC.out).1).trans HC.out
        have HZ5 : Hid (w5.heap[w.heap.size]? = some (.cells #[.int .u64 0, .bool false, .int .i64 0, .int .u64 0, .int .i64 0, .int .i64 0] 28)) := (hc5.block _ (Array.getElem?_eq_some_iff.1 HZ.out).1).trans HZ.out
        have HB5 : Hid (Below w.heap.size w w5) := HB.out.trans (hc5.mono HB.out.size)
        clear hb5 hc5
        refine hK.out _ _ ?_ (fun hHeld => ?_)
        · exact HB5.out
        clear hK K
        clear z0 z1 z2 z3 z4 z5
        have z0 := c_rw HC5.out 0 (by simp)
        have z1 := c_rw HC5.out 1 (by simp)
        have z2 := c_rw HC5.out 2 (by simp)
        have z3 := c_rw HC5.out 3 (by simp)
        have z4 := c_rw HC5.out 4 (by simp)
        have z5 := c_rw HC5.out 5 (by simp)
        simp only [List.getElem_toArray, List.getElem_cons_succ, List.getElem_cons_zero] at z0 z1 z2 z3 z4 z5
        refine wpAnyH_ready (rs := [0]) (by kernel_rfl) (by simp) ?_
        refine AllReadyH.cons (o := _) rfl (fun K hK => ?_) AllReadyH.nil
        go_simp
        refine hK.out _ _ ?_ (fun hHeld => ?_)
        · exact HB5.out
        clear hK K
        clear z0 z1 z2 z3 z4 z5
        refine wpAnyH_ready (rs := [3]) (by kernel_rfl) (by simp) ?_
        refine AllReadyH.cons (o := _) rfl (fun K hK => ?_) AllReadyH.nil
        go_simp
        refine (HMG.out _).mono ?_
        rintro e w6 ⟨rfl, hb6⟩
        have HC6 : Hid (w6.heap[w.heap.size + 1]? = some (.cells #[.int .u64 A.c, .bool A.o, .int .i64 (hi A.s), .int .u64 (lo A.s), .int .i64 A.mn, .int .i64 A.mx] 28)) := (hb6.block _ (Array.getElem?_eq_some_iff.1 HC5.out).1).trans HC5.out
        have HZ6 : Hid (w6.heap[w.heap.size]? = some (.cells #[.int .u64 0, .bool false, .int .i64 0, .int .u64 0, .int .i64 0, .int .i64 0] 28)) := (hb6.block _ (Array.getElem?_eq_some_iff.1 HZ5.out).1).trans HZ5.out
        have HB6 : Hid (Below w.heap.size w w6) := HB5.out.trans (hb6.mono HB5.out.size)
        clear hb6
        refine hK.out _ _ ?_ (fun hHeld => ?_)
        · exact HB6.out
        clear hK K
        have f0 := f_rw HC6.out 0
        have f1 := f_rw HC6.out 1
        have f2 := f_rw HC6.out 2
        have f3 := f_rw HC6.out 3
        have f4 := f_rw HC6.out 4
        have f5 := f_rw HC6.out 5
        have z0 := c_rw HC6.out 0 (by simp)
        have z1 := c_rw HC6.out 1 (by simp)
        have z2 := c_rw HC6.out 2 (by simp)
        have z3 := c_rw HC6.out 3 (by simp)
        have z4 := c_rw HC6.out 4 (by simp)
        have z5 := c_rw HC6.out 5 (by simp)
        simp only [List.getElem_toArray, List.getElem_cons_succ, List.getElem_cons_zero] at z0 z1 z2 z3 z4 z5
        refine wpAnyH_ready (rs := [4]) (by kernel_rfl) (by simp) ?_
        refine AllReadyH.cons (o := _) rfl (fun K hK => ?_) AllReadyH.nil
        go_simp
        obtain ⟨w7, HW7⟩ := hid_ex ((((((w6.setCell ⟨w.heap.size + 1, 0, none⟩ (.int .u64 N.c)).setCell ⟨w.heap.size + 1, 1, none⟩ (.bool N.o)).setCell ⟨w.heap.size + 1, 2, none⟩ (.int .i64 (hi N.s))).setCell ⟨w.heap.size + 1, 3, none⟩ (.int .u64 (lo N.s))).setCell ⟨w.heap.size + 1, 4, none⟩ (.int .i64 N.mn)).setCell ⟨w.heap.size + 1, 5, none⟩ (.int .i64 N.mx))
        rw [← HW7.out]
        have HB7 : Hid (Below w.heap.size w w7) := by rw [HW7.out]; exact below6' HB6.out (by omega) _ _ _ _ _ _
        have HC7 : Hid (w7.heap[w.heap.size + 1]? = some (.cells #[.int .u64 N.c, .bool N.o, .int .i64 (hi N.s), .int .u64 (lo N.s), .int .i64 N.mn, .int .i64 N.mx] 28)) := by rw [HW7.out]; exact set6' HC6.out _ _ _ _ _ _
        have HZ7 : Hid (w7.heap[w.heap.size]? = some (.cells #[.int .u64 0, .bool false, .int .i64 0, .int .u64 0, .int .i64 0, .int .i64 0] 28)) := by
          rw [HW7.out]; unfold Hid
          rw [Go.heap_setCell_other _ _ _ _ (by simp), Go.heap_setCell_other _ _ _ _ (by simp), Go.heap_setCell_other _ _ _ _ (by simp), Go.heap_setCell_other _ _ _ _ (by simp), Go.heap_setCell_other _ _ _ _ (by simp), Go.heap_setCell_other _ _ _ _ (by simp)]
          exact HZ6.out
        refine hK.out _ _ ?_ (fun hHeld => ?_)
        · exact HB7.out
        clear hK K
        clear hHeld z0 z1 z2 z3 z4 z5 f0 f1 f2 f3 f4 f5 HW7 HB6 HC6 HZ6
        refine wpAnyH_done (by kernel_rfl) ?_ _
        refine NoPanic.normal ?_
        go_wp2_with fail
        go_roundw
        case rel => exact ⟨k + 1, N, by omega, by go_num, HKN, HC7, HZ7, HB7⟩
        case measure => simp [intOf]; omega
    · have hkl : k = l.length := by omega
      rw [hkl, List.take_length] at HK
      have z0 := c_rw HC.out 0 (by simp)
      have z1 := c_rw HC.out 1 (by simp)
      have z2 := c_rw HC.out 2 (by simp)
      have z3 := c_rw HC.out 3 (by simp)
      have z4 := c_rw HC.out 4 (by simp)
      have z5 := c_rw HC.out 5 (by simp)
      simp only [List.getElem_toArray, List.getElem_cons_succ, List.getElem_cons_zero] at z0 z1 z2 z3 z4 z5
      have f0 := f_rw HZ.out 0
      have f1 := f_rw HZ.out 1
      have f2 := f_rw HZ.out 2
      have f3 := f_rw HZ.out 3
      have f4 := f_rw HZ.out 4
      have f5 := f_rw HZ.out 5
      have y0 := c_rw HZ.out 0 (by simp)
      have y1 := c_rw HZ.out 1 (by simp)
      have y2 := c_rw HZ.out 2 (by simp)
      have y3 := c_rw HZ.out 3 (by simp)
      have y4 := c_rw HZ.out 4 (by simp)
      have y5 := c_rw HZ.out 5 (by simp)
      simp only [List.getElem_toArray, List.getElem_cons_succ, List.getElem_cons_zero] at y0 y1 y2 y3 y4 y5
      go_wp2_with fail
      exact bodyPost_ret (res_r rfl _ _ w.heap.size _ rfl (run_loadVar_row _ w.heap.size _ _ _ (0, 0) _ (set6' HZ.out _ _ _ _ _ _) Try.underlying28 rfl (by kernel_rfl))) rfl ⟨A, rfl, HK.out, below6' HB.out (Nat.le_refl _) _ _ _ _ _ _⟩
end Go.Proofs.Ythnhhdacfmikmaa
