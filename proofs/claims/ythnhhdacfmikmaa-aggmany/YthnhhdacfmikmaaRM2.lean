/- The contracts of the reference's One and Many of what is known; the walk of AggMany (written by mkrm2.py). -/
import Derived.Test.YthnhhdacfmikmaaRM1
import Derived.Test.YthnhhdacfmikmaaAP2
import Derived.Test.YthnhhdacfmikmaaA4
namespace Go.Proofs.Ythnhhdacfmikmaa
open Go.RowKit

set_option maxRecDepth 100000 in
set_option maxHeartbeats 1000000 in
theorem refOne_any (v : Int) (h1 : -9223372036854775808 ≤ v) (h2 : v ≤ 9223372036854775807) (w : World) :
    Calls Try.prog 16 #[.int .i64 v] w fun e w' => e = .returned (.agg #[.int .u64 (oneF v).c, .bool (oneF v).o, .int .i64 (hi (oneF v).s), .int .u64 (lo (oneF v).s), .int .i64 (oneF v).mn, .int .i64 (oneF v).mx]) ∧ Below w.heap.size w w' := by
  obtain ⟨O, HO⟩ := hid_ex (oneF v)
  have HOE : Hid (O.c = 1 ∧ O.o = false ∧ O.s = v ∧ O.mn = v ∧ O.mx = v) := by rw [HO.out]; exact ⟨rfl, rfl, rfl, rfl, rfl⟩
  rw [← HO.out]
  clear HO
  go_enter Try.func16, Try.ntmps16
  go_wp2_with fail
  refine (refOf_any v h1 h2 _).mono ?_
  rintro e w1 ⟨rfl, hb1⟩
  have HZ : Hid (w1.heap[w.heap.size]? = some (.cells #[.int .u64 0, .bool false, .int .i64 0, .int .u64 0, .int .i64 0, .int .i64 0] 28)) := (hb1.block _ (by simp)).trans (heap_alloc_new w _)
  have HB : Hid (Below w.heap.size w w1) := ((Below.refl _ _).alloc (Nat.le_refl _) _).trans (hb1.mono (by simp))
  clear hb1
  have z0 := c_rw HZ.out 0 (by simp)
  have z1 := c_rw HZ.out 1 (by simp)
  have z2 := c_rw HZ.out 2 (by simp)
  have z3 := c_rw HZ.out 3 (by simp)
  have z4 := c_rw HZ.out 4 (by simp)
  have z5 := c_rw HZ.out 5 (by simp)
  simp only [List.getElem_toArray, List.getElem_cons_succ, List.getElem_cons_zero] at z0 z1 z2 z3 z4 z5
  have f0 := f_rw HZ.out 0
  have f1 := f_rw HZ.out 1
  have f2 := f_rw HZ.out 2
  have f3 := f_rw HZ.out 3
  have f4 := f_rw HZ.out 4
  have f5 := f_rw HZ.out 5
  unfold wv
  go_wp2_with fail
  exact bodyPost_ret (res_r rfl _ _ w.heap.size _ rfl (run_loadVar_row _ w.heap.size _ _ _ (0, 0) _ (set6' HZ.out _ _ _ _ _ _) Try.underlying28 rfl (by kernel_rfl))) rfl ⟨by rw [HOE.out.1, HOE.out.2.1, HOE.out.2.2.1, HOE.out.2.2.2.1, HOE.out.2.2.2.2], below6' HB.out (Nat.le_refl _) _ _ _ _ _ _⟩
set_option maxRecDepth 100000 in
set_option maxHeartbeats 4000000 in
theorem refMany_any : ∀ (n : Nat) (v : Value) (l : List Int), l.length = n → n ≤ 500 → (∀ z ∈ l, -9223372036854775808 ≤ z ∧ z ≤ 9223372036854775807) → ∀ (w : World), IReads w v l →
    Calls Try.prog 7 #[v] w fun e w' => ∃ A, e = .returned (.agg #[.int .u64 A.c, .bool A.o, .int .i64 (hi A.s), .int .u64 (lo A.s), .int .i64 A.mn, .int .i64 A.mx]) ∧ Kn l A ∧ Below w.heap.size w w' := by
  intro n
  induction n with
  | zero =>
    intro v l hl _ _ w hR
    obtain rfl : l = [] := List.length_eq_zero_iff.1 hl
    obtain ⟨a, cap, rfl, hm⟩ := hR.form
    have HB : Hid (Below w.heap.size w (w.alloc (.cells #[.int .u64 0, .bool false, .int .i64 0, .int .u64 0, .int .i64 0, .int .i64 0] 28))) := (Below.refl _ _).alloc (Nat.le_refl _) _
    have HZ : Hid ((w.alloc (.cells #[.int .u64 0, .bool false, .int .i64 0, .int .u64 0, .int .i64 0, .int .i64 0] 28)).heap[w.heap.size]? = some (.cells #[.int .u64 0, .bool false, .int .i64 0, .int .u64 0, .int .i64 0, .int .i64 0] 28)) := heap_alloc_new w _
    clear hR hl
    go_enter Try.func7, Try.ntmps7
    go_wp2_with fail
    refine bodyPost_ret (v := .agg #[.int .u64 0, .bool false, .int .i64 0, .int .u64 0, .int .i64 0, .int .i64 0]) (by simp [results, Try.results7, go_sem]) rfl ⟨aZ, rfl, .inl ⟨rfl, rfl⟩, ?_⟩
    repeat (first | exact Below.refl _ _ | refine Below.drew ?_ | refine Below.alloc ?_ (by first | (simp; done) | (simp; omega)) _)
  | succ n ih =>
    intro v l hl hn hbd w hR
    have HR : Hid (IReads w v l) := hR
    obtain ⟨a, cap, rfl, hm⟩ := hR.form
    obtain ⟨b, off, rfl, hbw, hx0⟩ := hR.at n (by omega)
    unfold ic at hx0
    have hxb := hbd l[n] (List.getElem_mem (by omega))
    obtain ⟨a4, f4, hs4, hr4⟩ := isl_upto HR.out (d := n) (by omega)
    have HKN : Hid (∀ A, Kn (l.take n) A → Kn l (mrg A (oneF l[n]))) := fun A hA => by
      have e : l = l.take n ++ [l[n]] := by
        have := List.take_add_one (l := l) (i := n)
        rw [List.getElem?_eq_getElem (by omega), List.take_of_length_le (by omega)] at this
        exact this
      have h9 := hA.app (Kn.one l[n]) (by simp; omega)
      rw [← e] at h9
      exact h9
    obtain ⟨x, HX⟩ := hid_ex l[n]
    rw [← HX.out] at hx0 hxb HKN
    have HIH : Hid (∀ W, Below w.heap.size w W → Calls Try.prog 7 #[.slice a4 n f4] W fun e w' => ∃ A, e = .returned (.agg #[.int .u64 A.c, .bool A.o, .int .i64 (hi A.s), .int .u64 (lo A.s), .int .i64 A.mn, .int .i64 A.mx]) ∧ Kn (l.take n) A ∧ Below W.heap.size W w') := fun W hW => ih _ (l.take n) (by rw [List.length_take]; omega) (by omega) (fun z hz => hbd z (List.mem_of_mem_take hz)) W (hr4.below hW)
    obtain ⟨O, HO⟩ := hid_ex (oneF x)
    have HON : Hid (∀ w, Calls Try.prog 16 #[.int .i64 x] w fun e w' => e = .returned (.agg #[.int .u64 O.c, .bool O.o, .int .i64 (hi O.s), .int .u64 (lo O.s), .int .i64 O.mn, .int .i64 O.mx]) ∧ Below w.heap.size w w') := by
      intro w; rw [HO.out]; exact refOne_any x hxb.1 hxb.2 w
    have HMG : Hid (∀ A, Kn (l.take n) A → ∀ w, Calls Try.prog 15 #[.agg #[.int .u64 A.c, .bool A.o, .int .i64 (hi A.s), .int .u64 (lo A.s), .int .i64 A.mn, .int .i64 A.mx], .agg #[.int .u64 O.c, .bool O.o, .int .i64 (hi O.s), .int .u64 (lo O.s), .int .i64 O.mn, .int .i64 O.mx]] w fun e w' => e = .returned (.agg #[.int .u64 (mrg A O).c, .bool (mrg A O).o, .int .i64 (hi (mrg A O).s), .int .u64 (lo (mrg A O).s), .int .i64 (mrg A O).mn, .int .i64 (mrg A O).mx]) ∧ Below w.heap.size w w') := by
      intro A hA w
      have hc := hA.c
      rw [List.length_take] at hc
      exact refMerge_any A O (by omega) (by omega) (by rw [HO.out]; show (0 : Int) ≤ 1; decide) (by rw [HO.out]; show (1 : Int) < 18446744073709551616; decide) (fun h => by rw [hc.2] at h; cases h) (fun h => by rw [HO.out] at h; cases h) w
    have HKN2 : Hid (∀ A, Kn (l.take n) A → Kn l (mrg A O)) := by rw [HO.out]; exact HKN.out
    have HX0 : Hid (∀ W, Below w.heap.size w W → W.cell? ⟨b, off + n, none⟩ = some (.int .i64 x)) := fun W hW => (hW.cell (p := ⟨b, off + n, none⟩) hbw).trans hx0
    rw [hl] at hs4 ⊢
    have hz0 : (((n + 1 : Nat) : Int) == 0) = false := by simp; omega
    unfold maxLen at hm
    rw [hl] at hm
    clear hR hbd ih hr4 HKN HO HX hxb hx0 HR hl
    go_enter Try.func7, Try.ntmps7
    go_wp2_with fail
    obtain ⟨w1, HW1⟩ := hid_ex (w.alloc (.cells #[.int .u64 0, .bool false, .int .i64 0, .int .u64 0, .int .i64 0, .int .i64 0] 28))
    rw [← HW1.out]
    have HZ1 : Hid (w1.heap[w.heap.size]? = some (.cells #[.int .u64 0, .bool false, .int .i64 0, .int .u64 0, .int .i64 0, .int .i64 0] 28)) := by rw [HW1.out]; exact heap_alloc_new w _
    have HB1 : Hid (Below w.heap.size w w1) := by rw [HW1.out]; exact (Below.refl _ _).alloc (Nat.le_refl _) _
    clear HW1
    refine wp_region_noPanic ?_
    refine wp_region_held_drew (S := (fun w' => Below w.heap.size w w')) (by kernel_rfl) ?_ (fun hHeld => ?_)
    · exact HB1.out.drew
    refine wpAnyH_take (i := 0) (v := .slice (some ⟨b, off, none⟩) (n + 1) cap) rfl (by kernel_rfl) (by kernel_rfl) (by kernel_rfl) (fun _ _ _ h => h) (Or.inl ⟨by rfl, ?_⟩) (by assumption) ?_
    · (intro w1 hSw; (try dsimp only at hSw); go_simp)
    simp only [List.getElem_toArray, List.getElem_cons_zero, Act.put, List.setIfInBounds_toArray, List.set_cons_zero, List.set_cons_succ]
    refine wpAnyH_take (i := 1) (v := .slice (some ⟨b, off, none⟩) (n + 1) cap) rfl (by kernel_rfl) (by kernel_rfl) (by kernel_rfl) (fun _ _ _ h => h) (Or.inl ⟨by rfl, ?_⟩) (by assumption) ?_
    · (intro w1 hSw; (try dsimp only at hSw); go_simp)
    simp only [List.getElem_toArray, List.getElem_cons_succ, List.getElem_cons_zero, Act.put, List.setIfInBounds_toArray, List.set_cons_zero, List.set_cons_succ]
    refine wpAnyH_take (i := 2) (v := .int .i64 ((n : Int) + 1)) rfl (by kernel_rfl) (by kernel_rfl) (by kernel_rfl) (fun _ _ _ h => h) (Or.inl ⟨by rfl, ?_⟩) (by assumption) ?_
    · (intro w1 hSw; (try dsimp only at hSw); go_simp)
    simp only [List.getElem_toArray, List.getElem_cons_succ, List.getElem_cons_zero, Act.put, List.setIfInBounds_toArray, List.set_cons_zero, List.set_cons_succ]
    refine wpAnyH_take (i := 3) (v := .int .i64 (n : Int)) rfl (by kernel_rfl) (by kernel_rfl) (by kernel_rfl) (fun _ _ _ h => h) (Or.inl ⟨by rfl, ?_⟩) (by assumption) ?_
    · (intro w1 hSw; (try dsimp only at hSw); go_simp; (rw [IntKind.wrap_i64]; omega))
    simp only [List.getElem_toArray, List.getElem_cons_succ, List.getElem_cons_zero, Act.put, List.setIfInBounds_toArray, List.set_cons_zero, List.set_cons_succ]
    refine wpAnyH_take (i := 4) (v := .slice a4 n f4) rfl (by kernel_rfl) (by kernel_rfl) (by kernel_rfl) (fun _ _ _ h => h) (Or.inl ⟨by rfl, ?_⟩) (by assumption) ?_
    · (intro w1 hSw; (try dsimp only at hSw); go_simp)
    simp only [List.getElem_toArray, List.getElem_cons_succ, List.getElem_cons_zero, Act.put, List.setIfInBounds_toArray, List.set_cons_zero, List.set_cons_succ]
    refine wpAnyH_take (i := 6) (v := .slice (some ⟨b, off, none⟩) (n + 1) cap) rfl (by kernel_rfl) (by kernel_rfl) (by kernel_rfl) (fun _ _ _ h => h) (Or.inl ⟨by rfl, ?_⟩) (by assumption) ?_
    · (intro w1 hSw; (try dsimp only at hSw); go_simp)
    simp only [List.getElem_toArray, List.getElem_cons_succ, List.getElem_cons_zero, Act.put, List.setIfInBounds_toArray, List.set_cons_zero, List.set_cons_succ]
    refine wpAnyH_take (i := 7) (v := .slice (some ⟨b, off, none⟩) (n + 1) cap) rfl (by kernel_rfl) (by kernel_rfl) (by kernel_rfl) (fun _ _ _ h => h) (Or.inl ⟨by rfl, ?_⟩) (by assumption) ?_
    · (intro w1 hSw; (try dsimp only at hSw); go_simp)
    simp only [List.getElem_toArray, List.getElem_cons_succ, List.getElem_cons_zero, Act.put, List.setIfInBounds_toArray, List.set_cons_zero, List.set_cons_succ]
    refine wpAnyH_take (i := 8) (v := .int .i64 ((n : Int) + 1)) rfl (by kernel_rfl) (by kernel_rfl) (by kernel_rfl) (fun _ _ _ h => h) (Or.inl ⟨by rfl, ?_⟩) (by assumption) ?_
    · (intro w1 hSw; (try dsimp only at hSw); go_simp)
    simp only [List.getElem_toArray, List.getElem_cons_succ, List.getElem_cons_zero, Act.put, List.setIfInBounds_toArray, List.set_cons_zero, List.set_cons_succ]
    refine wpAnyH_take (i := 9) (v := .int .i64 (n : Int)) rfl (by kernel_rfl) (by kernel_rfl) (by kernel_rfl) (fun _ _ _ h => h) (Or.inl ⟨by rfl, ?_⟩) (by assumption) ?_
    · (intro w1 hSw; (try dsimp only at hSw); go_simp; (rw [IntKind.wrap_i64]; omega))
    simp only [List.getElem_toArray, List.getElem_cons_succ, List.getElem_cons_zero, Act.put, List.setIfInBounds_toArray, List.set_cons_zero, List.set_cons_succ]
    refine wpAnyH_take (i := 10) (v := .pointer (some ⟨b, off + n, none⟩)) rfl (by kernel_rfl) (by kernel_rfl) (by kernel_rfl) (fun _ _ _ h => h) (Or.inl ⟨by rfl, ?_⟩) (by assumption) ?_
    · (intro w1 hSw; (try dsimp only at hSw); go_simp; (intro hh; exfalso; omega))
    simp only [List.getElem_toArray, List.getElem_cons_succ, List.getElem_cons_zero, Act.put, List.setIfInBounds_toArray, List.set_cons_zero, List.set_cons_succ]
    refine wpAnyH_take (i := 11) (v := .int .i64 x) rfl (by kernel_rfl) (by kernel_rfl) (by kernel_rfl) (fun _ _ _ h => h) (Or.inl ⟨by rfl, ?_⟩) (by assumption) ?_
    · (intro w1 hSw; (try dsimp only at hSw); have c1 := HX0.out _ hSw; go_simp)
    simp only [List.getElem_toArray, List.getElem_cons_succ, List.getElem_cons_zero, Act.put, List.setIfInBounds_toArray, List.set_cons_zero, List.set_cons_succ]
    refine wpAnyH_ready (rs := [5]) (by kernel_rfl) (by simp) ?_
    refine AllReadyH.cons (o := _) rfl (fun K hK => ?_) AllReadyH.nil
    go_simp
    refine (HIH.out _ HB1.out.drew).mono ?_
    rintro e w4 ⟨A, rfl, hA, hb4'⟩
    have hb4 : Below w1.heap.size w1 w4 := (Below.refl w1.heap.size w1).drew.trans hb4'
    have HZ4 : Hid (w4.heap[w.heap.size]? = some (.cells #[.int .u64 0, .bool false, .int .i64 0, .int .u64 0, .int .i64 0, .int .i64 0] 28)) := (hb4.block _ (Array.getElem?_eq_some_iff.1 HZ1.out).1).trans HZ1.out
    have HB4 : Hid (Below w.heap.size w w4) := HB1.out.trans (hb4.mono HB1.out.size)
    have HA : Hid _ := hA
    clear hb4 hb4' hA
    refine hK.out _ _ ?_ (fun hHeld => ?_)
    · exact HB4.out
    clear hK K
    refine wpAnyH_ready (rs := [12]) (by kernel_rfl) (by simp) ?_
    refine AllReadyH.cons (o := _) rfl (fun K hK => ?_) AllReadyH.nil
    go_simp
    refine (HON.out _).mono ?_
    rintro e w5 ⟨rfl, hb5⟩
    have HZ5 : Hid (w5.heap[w.heap.size]? = some (.cells #[.int .u64 0, .bool false, .int .i64 0, .int .u64 0, .int .i64 0, .int .i64 0] 28)) := (hb5.block _ (Array.getElem?_eq_some_iff.1 HZ4.out).1).trans HZ4.out
    have HB5 : Hid (Below w.heap.size w w5) := HB4.out.trans (hb5.mono HB4.out.size)
    clear hb5
    refine hK.out _ _ ?_ (fun hHeld => ?_)
    · exact HB5.out
    clear hK K
    refine wpAnyH_ready (rs := [13]) (by kernel_rfl) (by simp) ?_
    refine AllReadyH.cons (o := _) rfl (fun K hK => ?_) AllReadyH.nil
    go_simp
    refine (HMG.out A HA.out _).mono ?_
    rintro e w6 ⟨rfl, hb6⟩
    have HZ6 : Hid (w6.heap[w.heap.size]? = some (.cells #[.int .u64 0, .bool false, .int .i64 0, .int .u64 0, .int .i64 0, .int .i64 0] 28)) := (hb6.block _ (Array.getElem?_eq_some_iff.1 HZ5.out).1).trans HZ5.out
    have HB6 : Hid (Below w.heap.size w w6) := HB5.out.trans (hb6.mono HB5.out.size)
    have HK6 : Hid (Kn l (mrg A O)) := HKN2.out A HA.out
    obtain ⟨N, HN⟩ := hid_ex (mrg A O)
    rw [← HN.out] at HK6
    simp only [← HN.out] at *
    clear hb6
    refine hK.out _ _ ?_ (fun hHeld => ?_)
    · exact HB6.out
    clear hK K
    have z0 := c_rw HZ6.out 0 (by simp)
    have z1 := c_rw HZ6.out 1 (by simp)
    have z2 := c_rw HZ6.out 2 (by simp)
    have z3 := c_rw HZ6.out 3 (by simp)
    have z4 := c_rw HZ6.out 4 (by simp)
    have z5 := c_rw HZ6.out 5 (by simp)
    simp only [List.getElem_toArray, List.getElem_cons_succ, List.getElem_cons_zero] at z0 z1 z2 z3 z4 z5
    have f0 := f_rw HZ6.out 0
    have f1 := f_rw HZ6.out 1
    have f2 := f_rw HZ6.out 2
    have f3 := f_rw HZ6.out 3
    have f4 := f_rw HZ6.out 4
    have f5 := f_rw HZ6.out 5
    refine wpAnyH_ready (rs := [14]) (by kernel_rfl) (by simp) ?_
    refine AllReadyH.cons (o := _) rfl (fun K hK => ?_) AllReadyH.nil
    go_simp
    obtain ⟨w7, HW7⟩ := hid_ex ((((((w6.setCell ⟨w.heap.size, 0, none⟩ (.int .u64 N.c)).setCell ⟨w.heap.size, 1, none⟩ (.bool N.o)).setCell ⟨w.heap.size, 2, none⟩ (.int .i64 (hi N.s))).setCell ⟨w.heap.size, 3, none⟩ (.int .u64 (lo N.s))).setCell ⟨w.heap.size, 4, none⟩ (.int .i64 N.mn)).setCell ⟨w.heap.size, 5, none⟩ (.int .i64 N.mx))
    rw [← HW7.out]
    have HB7 : Hid (Below w.heap.size w w7) := by rw [HW7.out]; exact below6' HB6.out (Nat.le_refl _) _ _ _ _ _ _
    have HC7 : Hid (w7.heap[w.heap.size]? = some (.cells #[.int .u64 N.c, .bool N.o, .int .i64 (hi N.s), .int .u64 (lo N.s), .int .i64 N.mn, .int .i64 N.mx] 28)) := by rw [HW7.out]; exact set6' HZ6.out _ _ _ _ _ _
    refine hK.out _ _ ?_ (fun hHeld => ?_)
    · exact HB7.out
    clear hK K
    clear hHeld z0 z1 z2 z3 z4 z5 f0 f1 f2 f3 f4 f5 HW7
    refine wpAnyH_done (by kernel_rfl) ?_ _
    refine NoPanic.normal ?_
    go_wp2_with fail
    exact bodyPost_ret (res_r rfl _ _ w.heap.size _ rfl (run_loadVar_row _ w.heap.size _ _ _ (0, 0) _ HC7.out Try.underlying28 rfl (by kernel_rfl))) rfl ⟨N, rfl, HK6.out, HB7.out⟩
set_option maxRecDepth 100000 in
set_option maxHeartbeats 1000000 in
theorem aggmany_walk (v : Value) (l : List Int) (w : World) (hR : IReads w v l) (hbd : ∀ z ∈ l, -9223372036854775808 ≤ z ∧ z ≤ 9223372036854775807) :
    Calls Try.prog 3 #[v] w fun e w' => e = .returned (.bool true) ∧ Below w.heap.size w w' := by
  have HR : Hid (IReads w v l) := hR
  have HBD : Hid _ := hbd
  obtain ⟨a, cap, rfl, hm⟩ := hR.form
  unfold maxLen at hm
  clear hR hbd
  by_cases h300 : l.length ≤ 300
  · go_enter Try.func3, Try.ntmps3
    go_wp2_with fail
    refine (alive2_any _).mono ?_
    rintro e w2 ⟨rfl, hb2⟩
    have HB2 : Hid (Below w.heap.size w w2) := hb2
    clear hb2
    go_wp2_with fail
    refine (many_any _ l (by omega) HBD.out _ (HR.out.below HB2.out)).mono ?_
    rintro e w3 ⟨A, rfl, hA, hb3⟩
    have HB3 : Hid (Below w.heap.size w w3) := HB2.out.trans (hb3.mono HB2.out.size)
    have HA : Hid (Kn l A) := hA
    clear hb3 hA
    go_wp2_with fail
    refine (refMany_any l.length _ l rfl (by omega) HBD.out _ (HR.out.below HB3.out)).mono ?_
    rintro e w4 ⟨B, rfl, hB, hb4⟩
    have HB4 : Hid (Below w.heap.size w w4) := HB3.out.trans (hb4.mono HB3.out.size)
    obtain rfl : B = A := hB.uniq HA.out
    clear hb4 hB HA
    go_wp2_with fail
    go_ret
    exact ⟨rfl, HB4.out⟩
  · go_enter Try.func3, Try.ntmps3
    go_wp2_with fail
    refine (alive2_any _).mono ?_
    rintro e w2 ⟨rfl, hb2⟩
    have HB2 : Hid (Below w.heap.size w w2) := hb2
    clear hb2
    go_wp2_with fail
    go_ret
    exact ⟨rfl, HB2.out⟩
end Go.Proofs.Ythnhhdacfmikmaa
