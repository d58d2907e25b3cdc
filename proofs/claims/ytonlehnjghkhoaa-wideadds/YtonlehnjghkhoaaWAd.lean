/- The walk of WideAdds: whatever the numbers, it returns true. -/
import Derived.Test.YtonlehnjghkhoaaW9
import Derived.Test.YtonlehnjghkhoaaXM
namespace Go.Proofs.Ytonlehnjghkhoaa
open Go.RowKit

/-- What each of its operations yields. -/
def sW (x y v n : Int) : Nat → Value
  | 0 => .bool true
  | 1 => .bool true
  | 2 => .int .i64 v
  | 3 => wv v
  | 4 => .int .i64 v
  | 5 => wv v
  | 6 => .bool true
  | 7 => .bool true
  | 8 => .bool true
  | 9 => wv x
  | 10 => wv y
  | 11 => wv (x + y)
  | 12 => wv x
  | 13 => wv y
  | 14 => wv (x + y)
  | 15 => .bool true
  | 16 => .bool true
  | 17 => .bool true
  | 18 => wv x
  | 19 => wv (-x)
  | 20 => wv x
  | 21 => wv (-x)
  | 22 => .bool true
  | 23 => .bool true
  | 24 => .bool true
  | 25 => .int .i64 v
  | 26 => .int .u64 n
  | 27 => wv (v * n)
  | 28 => .int .i64 v
  | 29 => .int .u64 n
  | 30 => wv (v * n)
  | 31 => .bool true
  | 32 => .bool true
  | 33 => .bool true
  | _ => .bool true
theorem wantedT {ops : Array Oper} {A : Array Value} (o : Oper) {g d : Nat} (hg : o.guard = some (g, true)) (hd : (ops[g]?).bind (·.dst) = some d) (h : A[d]?.getD undef = .bool true) : Region.wanted o (yielded ops A) = true := by
  unfold Region.wanted yielded
  simp only [hg, hd, Option.bind_some]
  cases h0 : A[d]? with
  | none =>
    rw [h0] at h
    cases h
  | some v =>
    rw [h0] at h
    have h1 : v = .bool true := h
    rw [h1]; rfl
set_option maxRecDepth 100000 in
set_option maxHeartbeats 1000000 in
theorem addsWalk (x y v n : Int) (w : World) (v1 : -9223372036854775808 ≤ v) (v2 : v ≤ 9223372036854775807) (n1 : 0 ≤ n) (n2 : n < 18446744073709551616) :
    Calls Try.prog 3 #[.agg #[.int .i64 (hi x), .int .u64 (lo x)], .agg #[.int .i64 (hi y), .int .u64 (lo y)], .int .i64 v, .int .u64 n] w fun e w' => e = .returned (.bool true) ∧ Below w.heap.size w w' := by
  have C3 : Hid (∀ w, Calls Try.prog 6 #[.int .i64 v] w fun e w' => e = .returned (wv v) ∧ Below w.heap.size w w') := fun w => of_any v v1 v2 w
  have C5 : Hid (∀ w, Calls Try.prog 7 #[.int .i64 v] w fun e w' => e = .returned (wv v) ∧ Below w.heap.size w w') := fun w => refOf_any v v1 v2 w
  have C11 : Hid (∀ w, Calls Try.prog 8 #[wv x, wv y] w fun e w' => e = .returned (wv (x + y)) ∧ Below w.heap.size w w') := fun w => add_any x y w
  have C14 : Hid (∀ w, Calls Try.prog 9 #[wv x, wv y] w fun e w' => e = .returned (wv (x + y)) ∧ Below w.heap.size w w') := fun w => refAdd_any x y w
  have C19 : Hid (∀ w, Calls Try.prog 10 #[wv x] w fun e w' => e = .returned (wv (-x)) ∧ Below w.heap.size w w') := fun w => minus_any x w
  have C21 : Hid (∀ w, Calls Try.prog 11 #[wv x] w fun e w' => e = .returned (wv (-x)) ∧ Below w.heap.size w w') := fun w => refMinus_any x w
  have C27 : Hid (∀ w, Calls Try.prog 12 #[.int .i64 v, .int .u64 n] w fun e w' => e = .returned (wv (v * n)) ∧ Below w.heap.size w w') := fun w => times_any v n v1 v2 n1 n2 w
  have C30 : Hid (∀ w, Calls Try.prog 13 #[.int .i64 v, .int .u64 n] w fun e w' => e = .returned (wv (v * n)) ∧ Below w.heap.size w w') := fun w => refTimes_any v n v1 v2 n1 n2 w
  clear v1 v2 n1 n2
  go_enter Try.func3, Try.ntmps3
  go_wp2_with fail
  have HB0 : Hid (Below w.heap.size w ((w.alloc (.cells #[.int .i64 (hi x), .int .u64 (lo x)] 24)).alloc (.cells #[.int .i64 (hi y), .int .u64 (lo y)] 24))) := ((Below.refl _ _).alloc (by simp) _).alloc (by simp) _
  have HX0 : Hid (NBox x w.heap.size ((w.alloc (.cells #[.int .i64 (hi x), .int .u64 (lo x)] 24)).alloc (.cells #[.int .i64 (hi y), .int .u64 (lo y)] 24))) := ⟨by simp; omega, by simp [go_sem, World.cell?_alloc_past], by simp [go_sem, World.cell?_alloc_past]⟩
  have HY0 : Hid (NBox y (w.heap.size + 1) ((w.alloc (.cells #[.int .i64 (hi x), .int .u64 (lo x)] 24)).alloc (.cells #[.int .i64 (hi y), .int .u64 (lo y)] 24))) := ⟨by simp, by simp [go_sem], by simp [go_sem]⟩
  generalize (w.alloc (.cells #[.int .i64 (hi x), .int .u64 (lo x)] 24)).alloc (.cells #[.int .i64 (hi y), .int .u64 (lo y)] 24) = w0 at *
  refine region_inv (by kernel_rfl) [9, 10, 11, 12, 13, 14, 15, 16, 17, 18, 19, 20, 21, 22, 23, 24, 25, 26, 27, 28, 29, 30, 31, 32, 33, 34, 35, 36, 37, 38, 39, 40, 41, 8] (fun _ _ => True) (fun j u _ => u = sW x y v n j) (fun j u A B hr hv => hv) (by kernel_rfl) (by kernel_rfl) ?steps ?done
  case done =>
    intro f w5 hB hd
    have hr : f 8 = .bool true := hd 33 (by decide)
    have HB5 : Hid (Below w.heap.size w w5) := HB0.out.trans (hB.mono HB0.out.size)
    clear hd hB
    simp only [frF, tmOf, List.contains_cons, List.contains_nil, Nat.reduceAdd, Nat.zero_add, Nat.reduceBEq, Bool.or_false, Bool.false_or, cond_true, cond_false]
    rw [hr]
    clear hr
    go_wp2_with fail
    go_ret
    exact ⟨rfl, HB5.out⟩
  case steps =>
    show AllSt _ _ _ _ _ _ _ _ [0, 1, 2, 3, 4, 5, 6, 7, 8, 9, 10, 11, 12, 13, 14, 15, 16, 17, 18, 19, 20, 21, 22, 23, 24, 25, 26, 27, 28, 29, 30, 31, 32, 33]
    refine AllSt.cons (o := _) (ds := []) rfl (by kernel_rfl) ?_ ?_
    · intro f w1 K HB hd hK
      clear hd
      generalize hF : frF _ _ f = A at hK ⊢
      simp only [List.getElem_toArray, List.getElem_cons_zero] at hK ⊢
      clear hF 
      have HN : Hid (w0.heap.size ≤ w1.heap.size) := HB.out.size
      go_simp
      refine (alive_any _).mono ?_
      rintro e w2 ⟨rfl, hb2⟩
      have hK2 := hK.out (.bool true) w2 (hb2.mono HN.out) trivial rfl
      clear hK hb2
      go_simp
      exact hK2
    refine AllSt.cons (o := _) (ds := [0, 0]) rfl (by kernel_rfl) ?_ ?_
    · intro f w1 K HB hd hK
      have h0 : f 9 = .bool true := hd 0 (by simp)
      clear hd
      generalize hF : frF _ _ f = A at hK ⊢
      simp only [List.getElem_toArray, List.getElem_cons_succ, List.getElem_cons_zero] at hK ⊢
      have e0 : A.tmps[9]?.getD undef = f 9 := by rw [← hF]; rfl
      rw [h0] at e0
      clear hF h0
      have hK2 := hK.out (.bool true) w1 (Below.refl _ _) trivial rfl
      clear hK
      go_simp
      exact hK2
    refine AllSt.cons (o := _) (ds := [1]) rfl (by kernel_rfl) ?_ ?_
    · intro f w1 K HB hd hK
      have h1 : f 10 = .bool true := hd 1 (by simp)
      clear hd
      generalize hF : frF _ _ f = A at hK ⊢
      simp only [List.getElem_toArray, List.getElem_cons_succ, List.getElem_cons_zero] at hK ⊢
      have e1 : A.tmps[10]?.getD undef = f 10 := by rw [← hF]; rfl
      rw [h1] at e1
      have et : A.tmps[2]?.getD undef = .int .i64 v := by rw [← hF]; rfl
      clear hF h1
      refine Eq.mpr (if_pos (c := Region.wanted _ _ = true) (wantedT _ (g := 1) (d := 10) rfl rfl e1)) ?_
      have hK2 := hK.out (.int .i64 v) w1 (Below.refl _ _) trivial rfl
      clear hK
      go_simp
      exact hK2
    refine AllSt.cons (o := _) (ds := [2, 1, 1]) rfl (by kernel_rfl) ?_ ?_
    · intro f w1 K HB hd hK
      have h2 : f 11 = .int .i64 v := hd 2 (by simp)
      have h1 : f 10 = .bool true := hd 1 (by simp)
      clear hd
      generalize hF : frF _ _ f = A at hK ⊢
      simp only [List.getElem_toArray, List.getElem_cons_succ, List.getElem_cons_zero] at hK ⊢
      have e2 : A.tmps[11]?.getD undef = f 11 := by rw [← hF]; rfl
      rw [h2] at e2
      have e1 : A.tmps[10]?.getD undef = f 10 := by rw [← hF]; rfl
      rw [h1] at e1
      clear hF h2 h1
      refine Eq.mpr (if_pos (c := Region.wanted _ _ = true) (wantedT _ (g := 1) (d := 10) rfl rfl e1)) ?_
      have HN : Hid (w0.heap.size ≤ w1.heap.size) := HB.out.size
      go_simp
      refine (C3.out _).mono ?_
      rintro e w2 ⟨rfl, hb2⟩
      have hK2 := hK.out (wv v) w2 (hb2.mono HN.out) trivial rfl
      clear hK hb2
      go_simp
      exact hK2
    refine AllSt.cons (o := _) (ds := [1]) rfl (by kernel_rfl) ?_ ?_
    · intro f w1 K HB hd hK
      have h1 : f 10 = .bool true := hd 1 (by simp)
      clear hd
      generalize hF : frF _ _ f = A at hK ⊢
      simp only [List.getElem_toArray, List.getElem_cons_succ, List.getElem_cons_zero] at hK ⊢
      have e1 : A.tmps[10]?.getD undef = f 10 := by rw [← hF]; rfl
      rw [h1] at e1
      have et : A.tmps[2]?.getD undef = .int .i64 v := by rw [← hF]; rfl
      clear hF h1
      refine Eq.mpr (if_pos (c := Region.wanted _ _ = true) (wantedT _ (g := 1) (d := 10) rfl rfl e1)) ?_
      have hK2 := hK.out (.int .i64 v) w1 (Below.refl _ _) trivial rfl
      clear hK
      go_simp
      exact hK2
    refine AllSt.cons (o := _) (ds := [4, 3, 1]) rfl (by kernel_rfl) ?_ ?_
    · intro f w1 K HB hd hK
      have h4 : f 13 = .int .i64 v := hd 4 (by simp)
      have h3 : f 12 = wv v := hd 3 (by simp)
      have h1 : f 10 = .bool true := hd 1 (by simp)
      clear hd
      generalize hF : frF _ _ f = A at hK ⊢
      simp only [List.getElem_toArray, List.getElem_cons_succ, List.getElem_cons_zero] at hK ⊢
      have e4 : A.tmps[13]?.getD undef = f 13 := by rw [← hF]; rfl
      rw [h4] at e4
      have e3 : A.tmps[12]?.getD undef = f 12 := by rw [← hF]; rfl
      rw [h3] at e3
      have e1 : A.tmps[10]?.getD undef = f 10 := by rw [← hF]; rfl
      rw [h1] at e1
      clear hF h4 h3 h1
      refine Eq.mpr (if_pos (c := Region.wanted _ _ = true) (wantedT _ (g := 1) (d := 10) rfl rfl e1)) ?_
      have HN : Hid (w0.heap.size ≤ w1.heap.size) := HB.out.size
      go_simp
      refine (C5.out _).mono ?_
      rintro e w2 ⟨rfl, hb2⟩
      have hK2 := hK.out (wv v) w2 (hb2.mono HN.out) trivial rfl
      clear hK hb2
      go_simp
      exact hK2
    refine AllSt.cons (o := _) (ds := [3, 5, 1]) rfl (by kernel_rfl) ?_ ?_
    · intro f w1 K HB hd hK
      have h3 : f 12 = wv v := hd 3 (by simp)
      have h5 : f 14 = wv v := hd 5 (by simp)
      have h1 : f 10 = .bool true := hd 1 (by simp)
      clear hd
      generalize hF : frF _ _ f = A at hK ⊢
      simp only [List.getElem_toArray, List.getElem_cons_succ, List.getElem_cons_zero] at hK ⊢
      have e3 : A.tmps[12]?.getD undef = f 12 := by rw [← hF]; rfl
      rw [h3] at e3
      have e5 : A.tmps[14]?.getD undef = f 14 := by rw [← hF]; rfl
      rw [h5] at e5
      have e1 : A.tmps[10]?.getD undef = f 10 := by rw [← hF]; rfl
      rw [h1] at e1
      clear hF h3 h5 h1
      refine Eq.mpr (if_pos (c := Region.wanted _ _ = true) (wantedT _ (g := 1) (d := 10) rfl rfl e1)) ?_
      have hK2 := hK.out (.bool true) w1 (Below.refl _ _) trivial rfl
      unfold wv at e3
      unfold wv at e5
      clear hK
      go_simp
      exact hK2
    refine AllSt.cons (o := _) (ds := [1, 6]) rfl (by kernel_rfl) ?_ ?_
    · intro f w1 K HB hd hK
      have h1 : f 10 = .bool true := hd 1 (by simp)
      have h6 : f 15 = .bool true := hd 6 (by simp)
      clear hd
      generalize hF : frF _ _ f = A at hK ⊢
      simp only [List.getElem_toArray, List.getElem_cons_succ, List.getElem_cons_zero] at hK ⊢
      have e1 : A.tmps[10]?.getD undef = f 10 := by rw [← hF]; rfl
      rw [h1] at e1
      have e6 : A.tmps[15]?.getD undef = f 15 := by rw [← hF]; rfl
      rw [h6] at e6
      clear hF h1 h6
      have hK2 := hK.out (.bool true) w1 (Below.refl _ _) trivial rfl
      clear hK
      go_simp
      exact hK2
    refine AllSt.cons (o := _) (ds := [7, 5]) rfl (by kernel_rfl) ?_ ?_
    · intro f w1 K HB hd hK
      have h7 : f 16 = .bool true := hd 7 (by simp)
      have h5 : f 14 = wv v := hd 5 (by simp)
      clear hd
      generalize hF : frF _ _ f = A at hK ⊢
      simp only [List.getElem_toArray, List.getElem_cons_succ, List.getElem_cons_zero] at hK ⊢
      have e7 : A.tmps[16]?.getD undef = f 16 := by rw [← hF]; rfl
      rw [h7] at e7
      have e5 : A.tmps[14]?.getD undef = f 14 := by rw [← hF]; rfl
      rw [h5] at e5
      clear hF h7 h5
      have hK2 := hK.out (.bool true) w1 (Below.refl _ _) trivial rfl
      unfold wv at e5
      clear hK
      go_simp
      exact hK2
    refine AllSt.cons (o := _) (ds := [8]) rfl (by kernel_rfl) ?_ ?_
    · intro f w1 K HB hd hK
      have h8 : f 17 = .bool true := hd 8 (by simp)
      clear hd
      generalize hF : frF _ _ f = A at hK ⊢
      simp only [List.getElem_toArray, List.getElem_cons_succ, List.getElem_cons_zero] at hK ⊢
      have e8 : A.tmps[17]?.getD undef = f 17 := by rw [← hF]; rfl
      rw [h8] at e8
      have et : A.tmps[4]?.getD undef = .pointer (some ⟨w.heap.size, 0, none⟩) := by rw [← hF]; rfl
      obtain ⟨j0, j1, j2⟩ := HX0.out.below HB.out
      clear hF h8
      refine Eq.mpr (if_pos (c := Region.wanted _ _ = true) (wantedT _ (g := 8) (d := 17) rfl rfl e8)) ?_
      have hK2 := hK.out (wv x) w1 (Below.refl _ _) trivial rfl
      unfold wv at hK2
      clear hK
      go_simp
      exact hK2
    refine AllSt.cons (o := _) (ds := [8]) rfl (by kernel_rfl) ?_ ?_
    · intro f w1 K HB hd hK
      have h8 : f 17 = .bool true := hd 8 (by simp)
      clear hd
      generalize hF : frF _ _ f = A at hK ⊢
      simp only [List.getElem_toArray, List.getElem_cons_succ, List.getElem_cons_zero] at hK ⊢
      have e8 : A.tmps[17]?.getD undef = f 17 := by rw [← hF]; rfl
      rw [h8] at e8
      have et : A.tmps[5]?.getD undef = .pointer (some ⟨(w.heap.size + 1), 0, none⟩) := by rw [← hF]; rfl
      obtain ⟨j0, j1, j2⟩ := HY0.out.below HB.out
      clear hF h8
      refine Eq.mpr (if_pos (c := Region.wanted _ _ = true) (wantedT _ (g := 8) (d := 17) rfl rfl e8)) ?_
      have hK2 := hK.out (wv y) w1 (Below.refl _ _) trivial rfl
      unfold wv at hK2
      clear hK
      go_simp
      exact hK2
    refine AllSt.cons (o := _) (ds := [9, 10, 8, 8]) rfl (by kernel_rfl) ?_ ?_
    · intro f w1 K HB hd hK
      have h9 : f 18 = wv x := hd 9 (by simp)
      have h10 : f 19 = wv y := hd 10 (by simp)
      have h8 : f 17 = .bool true := hd 8 (by simp)
      clear hd
      generalize hF : frF _ _ f = A at hK ⊢
      simp only [List.getElem_toArray, List.getElem_cons_succ, List.getElem_cons_zero] at hK ⊢
      have e9 : A.tmps[18]?.getD undef = f 18 := by rw [← hF]; rfl
      rw [h9] at e9
      have e10 : A.tmps[19]?.getD undef = f 19 := by rw [← hF]; rfl
      rw [h10] at e10
      have e8 : A.tmps[17]?.getD undef = f 17 := by rw [← hF]; rfl
      rw [h8] at e8
      clear hF h9 h10 h8
      refine Eq.mpr (if_pos (c := Region.wanted _ _ = true) (wantedT _ (g := 8) (d := 17) rfl rfl e8)) ?_
      have HN : Hid (w0.heap.size ≤ w1.heap.size) := HB.out.size
      go_simp
      refine (C11.out _).mono ?_
      rintro e w2 ⟨rfl, hb2⟩
      have hK2 := hK.out (wv (x + y)) w2 (hb2.mono HN.out) trivial rfl
      clear hK hb2
      go_simp
      exact hK2
    refine AllSt.cons (o := _) (ds := [8]) rfl (by kernel_rfl) ?_ ?_
    · intro f w1 K HB hd hK
      have h8 : f 17 = .bool true := hd 8 (by simp)
      clear hd
      generalize hF : frF _ _ f = A at hK ⊢
      simp only [List.getElem_toArray, List.getElem_cons_succ, List.getElem_cons_zero] at hK ⊢
      have e8 : A.tmps[17]?.getD undef = f 17 := by rw [← hF]; rfl
      rw [h8] at e8
      have et : A.tmps[4]?.getD undef = .pointer (some ⟨w.heap.size, 0, none⟩) := by rw [← hF]; rfl
      obtain ⟨j0, j1, j2⟩ := HX0.out.below HB.out
      clear hF h8
      refine Eq.mpr (if_pos (c := Region.wanted _ _ = true) (wantedT _ (g := 8) (d := 17) rfl rfl e8)) ?_
      have hK2 := hK.out (wv x) w1 (Below.refl _ _) trivial rfl
      unfold wv at hK2
      clear hK
      go_simp
      exact hK2
    refine AllSt.cons (o := _) (ds := [8]) rfl (by kernel_rfl) ?_ ?_
    · intro f w1 K HB hd hK
      have h8 : f 17 = .bool true := hd 8 (by simp)
      clear hd
      generalize hF : frF _ _ f = A at hK ⊢
      simp only [List.getElem_toArray, List.getElem_cons_succ, List.getElem_cons_zero] at hK ⊢
      have e8 : A.tmps[17]?.getD undef = f 17 := by rw [← hF]; rfl
      rw [h8] at e8
      have et : A.tmps[5]?.getD undef = .pointer (some ⟨(w.heap.size + 1), 0, none⟩) := by rw [← hF]; rfl
      obtain ⟨j0, j1, j2⟩ := HY0.out.below HB.out
      clear hF h8
      refine Eq.mpr (if_pos (c := Region.wanted _ _ = true) (wantedT _ (g := 8) (d := 17) rfl rfl e8)) ?_
      have hK2 := hK.out (wv y) w1 (Below.refl _ _) trivial rfl
      unfold wv at hK2
      clear hK
      go_simp
      exact hK2
    refine AllSt.cons (o := _) (ds := [12, 13, 11, 8]) rfl (by kernel_rfl) ?_ ?_
    · intro f w1 K HB hd hK
      have h12 : f 21 = wv x := hd 12 (by simp)
      have h13 : f 22 = wv y := hd 13 (by simp)
      have h11 : f 20 = wv (x + y) := hd 11 (by simp)
      have h8 : f 17 = .bool true := hd 8 (by simp)
      clear hd
      generalize hF : frF _ _ f = A at hK ⊢
      simp only [List.getElem_toArray, List.getElem_cons_succ, List.getElem_cons_zero] at hK ⊢
      have e12 : A.tmps[21]?.getD undef = f 21 := by rw [← hF]; rfl
      rw [h12] at e12
      have e13 : A.tmps[22]?.getD undef = f 22 := by rw [← hF]; rfl
      rw [h13] at e13
      have e11 : A.tmps[20]?.getD undef = f 20 := by rw [← hF]; rfl
      rw [h11] at e11
      have e8 : A.tmps[17]?.getD undef = f 17 := by rw [← hF]; rfl
      rw [h8] at e8
      clear hF h12 h13 h11 h8
      refine Eq.mpr (if_pos (c := Region.wanted _ _ = true) (wantedT _ (g := 8) (d := 17) rfl rfl e8)) ?_
      have HN : Hid (w0.heap.size ≤ w1.heap.size) := HB.out.size
      go_simp
      refine (C14.out _).mono ?_
      rintro e w2 ⟨rfl, hb2⟩
      have hK2 := hK.out (wv (x + y)) w2 (hb2.mono HN.out) trivial rfl
      clear hK hb2
      go_simp
      exact hK2
    refine AllSt.cons (o := _) (ds := [11, 14, 8]) rfl (by kernel_rfl) ?_ ?_
    · intro f w1 K HB hd hK
      have h11 : f 20 = wv (x + y) := hd 11 (by simp)
      have h14 : f 23 = wv (x + y) := hd 14 (by simp)
      have h8 : f 17 = .bool true := hd 8 (by simp)
      clear hd
      generalize hF : frF _ _ f = A at hK ⊢
      simp only [List.getElem_toArray, List.getElem_cons_succ, List.getElem_cons_zero] at hK ⊢
      have e11 : A.tmps[20]?.getD undef = f 20 := by rw [← hF]; rfl
      rw [h11] at e11
      have e14 : A.tmps[23]?.getD undef = f 23 := by rw [← hF]; rfl
      rw [h14] at e14
      have e8 : A.tmps[17]?.getD undef = f 17 := by rw [← hF]; rfl
      rw [h8] at e8
      clear hF h11 h14 h8
      refine Eq.mpr (if_pos (c := Region.wanted _ _ = true) (wantedT _ (g := 8) (d := 17) rfl rfl e8)) ?_
      have hK2 := hK.out (.bool true) w1 (Below.refl _ _) trivial rfl
      unfold wv at e11
      unfold wv at e14
      clear hK
      go_simp
      exact hK2
    refine AllSt.cons (o := _) (ds := [8, 15]) rfl (by kernel_rfl) ?_ ?_
    · intro f w1 K HB hd hK
      have h8 : f 17 = .bool true := hd 8 (by simp)
      have h15 : f 24 = .bool true := hd 15 (by simp)
      clear hd
      generalize hF : frF _ _ f = A at hK ⊢
      simp only [List.getElem_toArray, List.getElem_cons_succ, List.getElem_cons_zero] at hK ⊢
      have e8 : A.tmps[17]?.getD undef = f 17 := by rw [← hF]; rfl
      rw [h8] at e8
      have e15 : A.tmps[24]?.getD undef = f 24 := by rw [← hF]; rfl
      rw [h15] at e15
      clear hF h8 h15
      have hK2 := hK.out (.bool true) w1 (Below.refl _ _) trivial rfl
      clear hK
      go_simp
      exact hK2
    refine AllSt.cons (o := _) (ds := [16, 14]) rfl (by kernel_rfl) ?_ ?_
    · intro f w1 K HB hd hK
      have h16 : f 25 = .bool true := hd 16 (by simp)
      have h14 : f 23 = wv (x + y) := hd 14 (by simp)
      clear hd
      generalize hF : frF _ _ f = A at hK ⊢
      simp only [List.getElem_toArray, List.getElem_cons_succ, List.getElem_cons_zero] at hK ⊢
      have e16 : A.tmps[25]?.getD undef = f 25 := by rw [← hF]; rfl
      rw [h16] at e16
      have e14 : A.tmps[23]?.getD undef = f 23 := by rw [← hF]; rfl
      rw [h14] at e14
      clear hF h16 h14
      have hK2 := hK.out (.bool true) w1 (Below.refl _ _) trivial rfl
      unfold wv at e14
      clear hK
      go_simp
      exact hK2
    refine AllSt.cons (o := _) (ds := [17]) rfl (by kernel_rfl) ?_ ?_
    · intro f w1 K HB hd hK
      have h17 : f 26 = .bool true := hd 17 (by simp)
      clear hd
      generalize hF : frF _ _ f = A at hK ⊢
      simp only [List.getElem_toArray, List.getElem_cons_succ, List.getElem_cons_zero] at hK ⊢
      have e17 : A.tmps[26]?.getD undef = f 26 := by rw [← hF]; rfl
      rw [h17] at e17
      have et : A.tmps[4]?.getD undef = .pointer (some ⟨w.heap.size, 0, none⟩) := by rw [← hF]; rfl
      obtain ⟨j0, j1, j2⟩ := HX0.out.below HB.out
      clear hF h17
      refine Eq.mpr (if_pos (c := Region.wanted _ _ = true) (wantedT _ (g := 17) (d := 26) rfl rfl e17)) ?_
      have hK2 := hK.out (wv x) w1 (Below.refl _ _) trivial rfl
      unfold wv at hK2
      clear hK
      go_simp
      exact hK2
    refine AllSt.cons (o := _) (ds := [18, 17, 17]) rfl (by kernel_rfl) ?_ ?_
    · intro f w1 K HB hd hK
      have h18 : f 27 = wv x := hd 18 (by simp)
      have h17 : f 26 = .bool true := hd 17 (by simp)
      clear hd
      generalize hF : frF _ _ f = A at hK ⊢
      simp only [List.getElem_toArray, List.getElem_cons_succ, List.getElem_cons_zero] at hK ⊢
      have e18 : A.tmps[27]?.getD undef = f 27 := by rw [← hF]; rfl
      rw [h18] at e18
      have e17 : A.tmps[26]?.getD undef = f 26 := by rw [← hF]; rfl
      rw [h17] at e17
      clear hF h18 h17
      refine Eq.mpr (if_pos (c := Region.wanted _ _ = true) (wantedT _ (g := 17) (d := 26) rfl rfl e17)) ?_
      have HN : Hid (w0.heap.size ≤ w1.heap.size) := HB.out.size
      go_simp
      refine (C19.out _).mono ?_
      rintro e w2 ⟨rfl, hb2⟩
      have hK2 := hK.out (wv (-x)) w2 (hb2.mono HN.out) trivial rfl
      clear hK hb2
      go_simp
      exact hK2
    refine AllSt.cons (o := _) (ds := [17]) rfl (by kernel_rfl) ?_ ?_
    · intro f w1 K HB hd hK
      have h17 : f 26 = .bool true := hd 17 (by simp)
      clear hd
      generalize hF : frF _ _ f = A at hK ⊢
      simp only [List.getElem_toArray, List.getElem_cons_succ, List.getElem_cons_zero] at hK ⊢
      have e17 : A.tmps[26]?.getD undef = f 26 := by rw [← hF]; rfl
      rw [h17] at e17
      have et : A.tmps[4]?.getD undef = .pointer (some ⟨w.heap.size, 0, none⟩) := by rw [← hF]; rfl
      obtain ⟨j0, j1, j2⟩ := HX0.out.below HB.out
      clear hF h17
      refine Eq.mpr (if_pos (c := Region.wanted _ _ = true) (wantedT _ (g := 17) (d := 26) rfl rfl e17)) ?_
      have hK2 := hK.out (wv x) w1 (Below.refl _ _) trivial rfl
      unfold wv at hK2
      clear hK
      go_simp
      exact hK2
    refine AllSt.cons (o := _) (ds := [20, 19, 17]) rfl (by kernel_rfl) ?_ ?_
    · intro f w1 K HB hd hK
      have h20 : f 29 = wv x := hd 20 (by simp)
      have h19 : f 28 = wv (-x) := hd 19 (by simp)
      have h17 : f 26 = .bool true := hd 17 (by simp)
      clear hd
      generalize hF : frF _ _ f = A at hK ⊢
      simp only [List.getElem_toArray, List.getElem_cons_succ, List.getElem_cons_zero] at hK ⊢
      have e20 : A.tmps[29]?.getD undef = f 29 := by rw [← hF]; rfl
      rw [h20] at e20
      have e19 : A.tmps[28]?.getD undef = f 28 := by rw [← hF]; rfl
      rw [h19] at e19
      have e17 : A.tmps[26]?.getD undef = f 26 := by rw [← hF]; rfl
      rw [h17] at e17
      clear hF h20 h19 h17
      refine Eq.mpr (if_pos (c := Region.wanted _ _ = true) (wantedT _ (g := 17) (d := 26) rfl rfl e17)) ?_
      have HN : Hid (w0.heap.size ≤ w1.heap.size) := HB.out.size
      go_simp
      refine (C21.out _).mono ?_
      rintro e w2 ⟨rfl, hb2⟩
      have hK2 := hK.out (wv (-x)) w2 (hb2.mono HN.out) trivial rfl
      clear hK hb2
      go_simp
      exact hK2
    refine AllSt.cons (o := _) (ds := [19, 21, 17]) rfl (by kernel_rfl) ?_ ?_
    · intro f w1 K HB hd hK
      have h19 : f 28 = wv (-x) := hd 19 (by simp)
      have h21 : f 30 = wv (-x) := hd 21 (by simp)
      have h17 : f 26 = .bool true := hd 17 (by simp)
      clear hd
      generalize hF : frF _ _ f = A at hK ⊢
      simp only [List.getElem_toArray, List.getElem_cons_succ, List.getElem_cons_zero] at hK ⊢
      have e19 : A.tmps[28]?.getD undef = f 28 := by rw [← hF]; rfl
      rw [h19] at e19
      have e21 : A.tmps[30]?.getD undef = f 30 := by rw [← hF]; rfl
      rw [h21] at e21
      have e17 : A.tmps[26]?.getD undef = f 26 := by rw [← hF]; rfl
      rw [h17] at e17
      clear hF h19 h21 h17
      refine Eq.mpr (if_pos (c := Region.wanted _ _ = true) (wantedT _ (g := 17) (d := 26) rfl rfl e17)) ?_
      have hK2 := hK.out (.bool true) w1 (Below.refl _ _) trivial rfl
      unfold wv at e19
      unfold wv at e21
      clear hK
      go_simp
      exact hK2
    refine AllSt.cons (o := _) (ds := [17, 22]) rfl (by kernel_rfl) ?_ ?_
    · intro f w1 K HB hd hK
      have h17 : f 26 = .bool true := hd 17 (by simp)
      have h22 : f 31 = .bool true := hd 22 (by simp)
      clear hd
      generalize hF : frF _ _ f = A at hK ⊢
      simp only [List.getElem_toArray, List.getElem_cons_succ, List.getElem_cons_zero] at hK ⊢
      have e17 : A.tmps[26]?.getD undef = f 26 := by rw [← hF]; rfl
      rw [h17] at e17
      have e22 : A.tmps[31]?.getD undef = f 31 := by rw [← hF]; rfl
      rw [h22] at e22
      clear hF h17 h22
      have hK2 := hK.out (.bool true) w1 (Below.refl _ _) trivial rfl
      clear hK
      go_simp
      exact hK2
    refine AllSt.cons (o := _) (ds := [23, 21]) rfl (by kernel_rfl) ?_ ?_
    · intro f w1 K HB hd hK
      have h23 : f 32 = .bool true := hd 23 (by simp)
      have h21 : f 30 = wv (-x) := hd 21 (by simp)
      clear hd
      generalize hF : frF _ _ f = A at hK ⊢
      simp only [List.getElem_toArray, List.getElem_cons_succ, List.getElem_cons_zero] at hK ⊢
      have e23 : A.tmps[32]?.getD undef = f 32 := by rw [← hF]; rfl
      rw [h23] at e23
      have e21 : A.tmps[30]?.getD undef = f 30 := by rw [← hF]; rfl
      rw [h21] at e21
      clear hF h23 h21
      have hK2 := hK.out (.bool true) w1 (Below.refl _ _) trivial rfl
      unfold wv at e21
      clear hK
      go_simp
      exact hK2
    refine AllSt.cons (o := _) (ds := [24]) rfl (by kernel_rfl) ?_ ?_
    · intro f w1 K HB hd hK
      have h24 : f 33 = .bool true := hd 24 (by simp)
      clear hd
      generalize hF : frF _ _ f = A at hK ⊢
      simp only [List.getElem_toArray, List.getElem_cons_succ, List.getElem_cons_zero] at hK ⊢
      have e24 : A.tmps[33]?.getD undef = f 33 := by rw [← hF]; rfl
      rw [h24] at e24
      have et : A.tmps[2]?.getD undef = .int .i64 v := by rw [← hF]; rfl
      clear hF h24
      refine Eq.mpr (if_pos (c := Region.wanted _ _ = true) (wantedT _ (g := 24) (d := 33) rfl rfl e24)) ?_
      have hK2 := hK.out (.int .i64 v) w1 (Below.refl _ _) trivial rfl
      clear hK
      go_simp
      exact hK2
    refine AllSt.cons (o := _) (ds := [24]) rfl (by kernel_rfl) ?_ ?_
    · intro f w1 K HB hd hK
      have h24 : f 33 = .bool true := hd 24 (by simp)
      clear hd
      generalize hF : frF _ _ f = A at hK ⊢
      simp only [List.getElem_toArray, List.getElem_cons_succ, List.getElem_cons_zero] at hK ⊢
      have e24 : A.tmps[33]?.getD undef = f 33 := by rw [← hF]; rfl
      rw [h24] at e24
      have et : A.tmps[3]?.getD undef = .int .u64 n := by rw [← hF]; rfl
      clear hF h24
      refine Eq.mpr (if_pos (c := Region.wanted _ _ = true) (wantedT _ (g := 24) (d := 33) rfl rfl e24)) ?_
      have hK2 := hK.out (.int .u64 n) w1 (Below.refl _ _) trivial rfl
      clear hK
      go_simp
      exact hK2
    refine AllSt.cons (o := _) (ds := [25, 26, 24, 24]) rfl (by kernel_rfl) ?_ ?_
    · intro f w1 K HB hd hK
      have h25 : f 34 = .int .i64 v := hd 25 (by simp)
      have h26 : f 35 = .int .u64 n := hd 26 (by simp)
      have h24 : f 33 = .bool true := hd 24 (by simp)
      clear hd
      generalize hF : frF _ _ f = A at hK ⊢
      simp only [List.getElem_toArray, List.getElem_cons_succ, List.getElem_cons_zero] at hK ⊢
      have e25 : A.tmps[34]?.getD undef = f 34 := by rw [← hF]; rfl
      rw [h25] at e25
      have e26 : A.tmps[35]?.getD undef = f 35 := by rw [← hF]; rfl
      rw [h26] at e26
      have e24 : A.tmps[33]?.getD undef = f 33 := by rw [← hF]; rfl
      rw [h24] at e24
      clear hF h25 h26 h24
      refine Eq.mpr (if_pos (c := Region.wanted _ _ = true) (wantedT _ (g := 24) (d := 33) rfl rfl e24)) ?_
      have HN : Hid (w0.heap.size ≤ w1.heap.size) := HB.out.size
      go_simp
      refine (C27.out _).mono ?_
      rintro e w2 ⟨rfl, hb2⟩
      have hK2 := hK.out (wv (v * n)) w2 (hb2.mono HN.out) trivial rfl
      clear hK hb2
      go_simp
      exact hK2
    refine AllSt.cons (o := _) (ds := [24]) rfl (by kernel_rfl) ?_ ?_
    · intro f w1 K HB hd hK
      have h24 : f 33 = .bool true := hd 24 (by simp)
      clear hd
      generalize hF : frF _ _ f = A at hK ⊢
      simp only [List.getElem_toArray, List.getElem_cons_succ, List.getElem_cons_zero] at hK ⊢
      have e24 : A.tmps[33]?.getD undef = f 33 := by rw [← hF]; rfl
      rw [h24] at e24
      have et : A.tmps[2]?.getD undef = .int .i64 v := by rw [← hF]; rfl
      clear hF h24
      refine Eq.mpr (if_pos (c := Region.wanted _ _ = true) (wantedT _ (g := 24) (d := 33) rfl rfl e24)) ?_
      have hK2 := hK.out (.int .i64 v) w1 (Below.refl _ _) trivial rfl
      clear hK
      go_simp
      exact hK2
    refine AllSt.cons (o := _) (ds := [24]) rfl (by kernel_rfl) ?_ ?_
    · intro f w1 K HB hd hK
      have h24 : f 33 = .bool true := hd 24 (by simp)
      clear hd
      generalize hF : frF _ _ f = A at hK ⊢
      simp only [List.getElem_toArray, List.getElem_cons_succ, List.getElem_cons_zero] at hK ⊢
      have e24 : A.tmps[33]?.getD undef = f 33 := by rw [← hF]; rfl
      rw [h24] at e24
      have et : A.tmps[3]?.getD undef = .int .u64 n := by rw [← hF]; rfl
      clear hF h24
      refine Eq.mpr (if_pos (c := Region.wanted _ _ = true) (wantedT _ (g := 24) (d := 33) rfl rfl e24)) ?_
      have hK2 := hK.out (.int .u64 n) w1 (Below.refl _ _) trivial rfl
      clear hK
      go_simp
      exact hK2
    refine AllSt.cons (o := _) (ds := [28, 29, 27, 24]) rfl (by kernel_rfl) ?_ ?_
    · intro f w1 K HB hd hK
      have h28 : f 37 = .int .i64 v := hd 28 (by simp)
      have h29 : f 38 = .int .u64 n := hd 29 (by simp)
      have h27 : f 36 = wv (v * n) := hd 27 (by simp)
      have h24 : f 33 = .bool true := hd 24 (by simp)
      clear hd
      generalize hF : frF _ _ f = A at hK ⊢
      simp only [List.getElem_toArray, List.getElem_cons_succ, List.getElem_cons_zero] at hK ⊢
      have e28 : A.tmps[37]?.getD undef = f 37 := by rw [← hF]; rfl
      rw [h28] at e28
      have e29 : A.tmps[38]?.getD undef = f 38 := by rw [← hF]; rfl
      rw [h29] at e29
      have e27 : A.tmps[36]?.getD undef = f 36 := by rw [← hF]; rfl
      rw [h27] at e27
      have e24 : A.tmps[33]?.getD undef = f 33 := by rw [← hF]; rfl
      rw [h24] at e24
      clear hF h28 h29 h27 h24
      refine Eq.mpr (if_pos (c := Region.wanted _ _ = true) (wantedT _ (g := 24) (d := 33) rfl rfl e24)) ?_
      have HN : Hid (w0.heap.size ≤ w1.heap.size) := HB.out.size
      go_simp
      refine (C30.out _).mono ?_
      rintro e w2 ⟨rfl, hb2⟩
      have hK2 := hK.out (wv (v * n)) w2 (hb2.mono HN.out) trivial rfl
      clear hK hb2
      go_simp
      exact hK2
    refine AllSt.cons (o := _) (ds := [27, 30, 24]) rfl (by kernel_rfl) ?_ ?_
    · intro f w1 K HB hd hK
      have h27 : f 36 = wv (v * n) := hd 27 (by simp)
      have h30 : f 39 = wv (v * n) := hd 30 (by simp)
      have h24 : f 33 = .bool true := hd 24 (by simp)
      clear hd
      generalize hF : frF _ _ f = A at hK ⊢
      simp only [List.getElem_toArray, List.getElem_cons_succ, List.getElem_cons_zero] at hK ⊢
      have e27 : A.tmps[36]?.getD undef = f 36 := by rw [← hF]; rfl
      rw [h27] at e27
      have e30 : A.tmps[39]?.getD undef = f 39 := by rw [← hF]; rfl
      rw [h30] at e30
      have e24 : A.tmps[33]?.getD undef = f 33 := by rw [← hF]; rfl
      rw [h24] at e24
      clear hF h27 h30 h24
      refine Eq.mpr (if_pos (c := Region.wanted _ _ = true) (wantedT _ (g := 24) (d := 33) rfl rfl e24)) ?_
      have hK2 := hK.out (.bool true) w1 (Below.refl _ _) trivial rfl
      unfold wv at e27
      unfold wv at e30
      clear hK
      go_simp
      exact hK2
    refine AllSt.cons (o := _) (ds := [24, 31]) rfl (by kernel_rfl) ?_ ?_
    · intro f w1 K HB hd hK
      have h24 : f 33 = .bool true := hd 24 (by simp)
      have h31 : f 40 = .bool true := hd 31 (by simp)
      clear hd
      generalize hF : frF _ _ f = A at hK ⊢
      simp only [List.getElem_toArray, List.getElem_cons_succ, List.getElem_cons_zero] at hK ⊢
      have e24 : A.tmps[33]?.getD undef = f 33 := by rw [← hF]; rfl
      rw [h24] at e24
      have e31 : A.tmps[40]?.getD undef = f 40 := by rw [← hF]; rfl
      rw [h31] at e31
      clear hF h24 h31
      have hK2 := hK.out (.bool true) w1 (Below.refl _ _) trivial rfl
      clear hK
      go_simp
      exact hK2
    refine AllSt.cons (o := _) (ds := [32, 30, 0, 1, 2, 3, 4, 5, 6, 7, 8, 9, 10, 11, 12, 13, 14, 15, 16, 17, 18, 19, 20, 21, 22, 23, 24, 25, 26, 27, 28, 29, 30, 31, 32]) rfl (by kernel_rfl) ?_ ?_
    · intro f w1 K HB hd hK
      have h32 : f 41 = .bool true := hd 32 (by simp)
      clear hd
      generalize hF : frF _ _ f = A at hK ⊢
      simp only [List.getElem_toArray, List.getElem_cons_succ, List.getElem_cons_zero] at hK ⊢
      have e32 : A.tmps[41]?.getD undef = f 41 := by rw [← hF]; rfl
      rw [h32] at e32
      clear hF h32
      have hK2 := hK.out (.bool true) w1 (Below.refl _ _) trivial rfl
      clear hK
      go_simp
      exact hK2
    exact AllSt.nil
end Go.Proofs.Ytonlehnjghkhoaa
