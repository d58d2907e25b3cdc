/- The walk of WideOrders: whatever the numbers, it returns true. -/
import Derived.Test.YtmojijjgbefljaaW9
import Derived.Test.YtmojijjgbefljaaXC
namespace Go.Proofs.Ytmojijjgbefljaa
open Go.RowKit

/-- What each of its operations yields. -/
def oW (x y : Int) : Nat → Value
  | 0 => .bool true
  | 1 => .bool true
  | 2 => wv x
  | 3 => wv y
  | 4 => .int .i64 (sgn x y)
  | 5 => wv x
  | 6 => wv y
  | 7 => .int .i64 (sgn x y)
  | 8 => .bool true
  | 9 => .bool true
  | 10 => .bool true
  | _ => .bool true
theorem wantedT {ops : Array Oper} {A : Array Value} (o : Oper) {g d : Nat} (hg : o.guard = some (g, true)) (hd : (ops[g]?).bind (·.dst) = some d) (h : A[d]?.getD undef = .bool true) : Region.wanted o (yielded ops A) = true := by
  unfold Region.wanted yielded
  simp only [hg, hd, Option.bind_some]
  cases h0 : A[d]? with
  | none =>
    rw [h0] at h
    cases h
  | some v =>
    rw [h0] at h
    have h1 : v = .bool true := h
    rw [h1]; rfl
set_option maxRecDepth 100000 in
set_option maxHeartbeats 1000000 in
theorem ordWalk (x y : Int) (w : World) (x1 : -170141183460469231731687303715884105728 ≤ x) (x2 : x < 170141183460469231731687303715884105728) (y1 : -170141183460469231731687303715884105728 ≤ y) (y2 : y < 170141183460469231731687303715884105728) :
    Calls Try.prog 3 #[.agg #[.int .i64 (hi x), .int .u64 (lo x)], .agg #[.int .i64 (hi y), .int .u64 (lo y)]] w fun e w' => e = .returned (.bool true) ∧ Below w.heap.size w w' := by
  have HC : Hid (∀ w, Calls Try.prog 7 #[wv x, wv y] w fun e w' => e = .returned (.int .i64 (sgn x y)) ∧ Below w.heap.size w w') := fun w => cmp_any x y x1 x2 y1 y2 w
  have HR : Hid (∀ w, Calls Try.prog 8 #[wv x, wv y] w fun e w' => e = .returned (.int .i64 (sgn x y)) ∧ Below w.heap.size w w') := fun w => refCmp_any x y x1 x2 y1 y2 w
  clear x1 x2 y1 y2
  go_enter Try.func3, Try.ntmps3
  go_wp2_with fail
  have HB0 : Hid (Below w.heap.size w ((w.alloc (.cells #[.int .i64 (hi x), .int .u64 (lo x)] 24)).alloc (.cells #[.int .i64 (hi y), .int .u64 (lo y)] 24))) := ((Below.refl _ _).alloc (by simp) _).alloc (by simp) _
  have HX0 : Hid (NBox x w.heap.size ((w.alloc (.cells #[.int .i64 (hi x), .int .u64 (lo x)] 24)).alloc (.cells #[.int .i64 (hi y), .int .u64 (lo y)] 24))) := ⟨by simp; omega, by simp [go_sem, World.cell?_alloc_past], by simp [go_sem, World.cell?_alloc_past]⟩
  have HY0 : Hid (NBox y (w.heap.size + 1) ((w.alloc (.cells #[.int .i64 (hi x), .int .u64 (lo x)] 24)).alloc (.cells #[.int .i64 (hi y), .int .u64 (lo y)] 24))) := ⟨by simp, by simp [go_sem], by simp [go_sem]⟩
  generalize (w.alloc (.cells #[.int .i64 (hi x), .int .u64 (lo x)] 24)).alloc (.cells #[.int .i64 (hi y), .int .u64 (lo y)] 24) = w0 at *
  refine region_inv (by kernel_rfl) [5, 6, 7, 8, 9, 10, 11, 12, 13, 14, 4] (fun _ _ => True) (fun j v _ => v = oW x y j) (fun j v A B hr hv => hv) (by kernel_rfl) (by kernel_rfl) ?steps ?done
  case done =>
    intro f w5 hB hd
    have hr : f 4 = .bool true := hd 10 (by decide)
    have HB5 : Hid (Below w.heap.size w w5) := HB0.out.trans (hB.mono HB0.out.size)
    clear hd hB
    simp only [frF, tmOf, List.contains_cons, List.contains_nil, Nat.reduceAdd, Nat.zero_add, Nat.reduceBEq, Bool.or_false, Bool.false_or, cond_true, cond_false]
    rw [hr]
    clear hr
    go_wp2_with fail
    go_ret
    exact ⟨rfl, HB5.out⟩
  case steps =>
    show AllSt _ _ _ _ _ _ _ _ [0, 1, 2, 3, 4, 5, 6, 7, 8, 9, 10]
    refine AllSt.cons (o := _) (ds := []) rfl (by kernel_rfl) ?_ ?_
    · intro f w1 K HB hd hK
      clear hd
      generalize hF : frF _ _ f = A at hK ⊢
      simp only [List.getElem_toArray, List.getElem_cons_zero] at hK ⊢
      clear hF 
      have HN : Hid (w0.heap.size ≤ w1.heap.size) := HB.out.size
      go_simp
      refine (alive_any _).mono ?_
      rintro e w2 ⟨rfl, hb2⟩
      have hK2 := hK.out (.bool true) w2 (hb2.mono HN.out) trivial rfl
      clear hK hb2
      go_simp
      exact hK2
    refine AllSt.cons (o := _) (ds := [0, 0]) rfl (by kernel_rfl) ?_ ?_
    · intro f w1 K HB hd hK
      have h0 : f 5 = .bool true := hd 0 (by simp)
      clear hd
      generalize hF : frF _ _ f = A at hK ⊢
      simp only [List.getElem_toArray, List.getElem_cons_succ, List.getElem_cons_zero] at hK ⊢
      have e0 : A.tmps[5]?.getD undef = f 5 := by rw [← hF]; rfl
      rw [h0] at e0
      clear hF h0
      have hK2 := hK.out (.bool true) w1 (Below.refl _ _) trivial rfl
      clear hK
      go_simp
      exact hK2
    refine AllSt.cons (o := _) (ds := [1]) rfl (by kernel_rfl) ?_ ?_
    · intro f w1 K HB hd hK
      have h1 : f 6 = .bool true := hd 1 (by simp)
      clear hd
      generalize hF : frF _ _ f = A at hK ⊢
      simp only [List.getElem_toArray, List.getElem_cons_succ, List.getElem_cons_zero] at hK ⊢
      have e1 : A.tmps[6]?.getD undef = f 6 := by rw [← hF]; rfl
      rw [h1] at e1
      have et : A.tmps[2]?.getD undef = .pointer (some ⟨w.heap.size, 0, none⟩) := by rw [← hF]; rfl
      obtain ⟨j0, j1, j2⟩ := HX0.out.below HB.out
      clear hF h1
      refine Eq.mpr (if_pos (c := Region.wanted _ _ = true) (wantedT _ (g := 1) (d := 6) rfl rfl e1)) ?_
      have hK2 := hK.out (wv x) w1 (Below.refl _ _) trivial rfl
      unfold wv at hK2
      clear hK
      go_simp
      exact hK2
    refine AllSt.cons (o := _) (ds := [1]) rfl (by kernel_rfl) ?_ ?_
    · intro f w1 K HB hd hK
      have h1 : f 6 = .bool true := hd 1 (by simp)
      clear hd
      generalize hF : frF _ _ f = A at hK ⊢
      simp only [List.getElem_toArray, List.getElem_cons_succ, List.getElem_cons_zero] at hK ⊢
      have e1 : A.tmps[6]?.getD undef = f 6 := by rw [← hF]; rfl
      rw [h1] at e1
      have et : A.tmps[3]?.getD undef = .pointer (some ⟨(w.heap.size + 1), 0, none⟩) := by rw [← hF]; rfl
      obtain ⟨j0, j1, j2⟩ := HY0.out.below HB.out
      clear hF h1
      refine Eq.mpr (if_pos (c := Region.wanted _ _ = true) (wantedT _ (g := 1) (d := 6) rfl rfl e1)) ?_
      have hK2 := hK.out (wv y) w1 (Below.refl _ _) trivial rfl
      unfold wv at hK2
      clear hK
      go_simp
      exact hK2
    refine AllSt.cons (o := _) (ds := [2, 3, 1, 1]) rfl (by kernel_rfl) ?_ ?_
    · intro f w1 K HB hd hK
      have h2 : f 7 = wv x := hd 2 (by simp)
      have h3 : f 8 = wv y := hd 3 (by simp)
      have h1 : f 6 = .bool true := hd 1 (by simp)
      clear hd
      generalize hF : frF _ _ f = A at hK ⊢
      simp only [List.getElem_toArray, List.getElem_cons_succ, List.getElem_cons_zero] at hK ⊢
      have e2 : A.tmps[7]?.getD undef = f 7 := by rw [← hF]; rfl
      rw [h2] at e2
      have e3 : A.tmps[8]?.getD undef = f 8 := by rw [← hF]; rfl
      rw [h3] at e3
      have e1 : A.tmps[6]?.getD undef = f 6 := by rw [← hF]; rfl
      rw [h1] at e1
      clear hF h2 h3 h1
      refine Eq.mpr (if_pos (c := Region.wanted _ _ = true) (wantedT _ (g := 1) (d := 6) rfl rfl e1)) ?_
      have HN : Hid (w0.heap.size ≤ w1.heap.size) := HB.out.size
      go_simp
      refine (HC.out _).mono ?_
      rintro e w2 ⟨rfl, hb2⟩
      have hK2 := hK.out (.int .i64 (sgn x y)) w2 (hb2.mono HN.out) trivial rfl
      clear hK hb2
      go_simp
      exact hK2
    refine AllSt.cons (o := _) (ds := [1]) rfl (by kernel_rfl) ?_ ?_
    · intro f w1 K HB hd hK
      have h1 : f 6 = .bool true := hd 1 (by simp)
      clear hd
      generalize hF : frF _ _ f = A at hK ⊢
      simp only [List.getElem_toArray, List.getElem_cons_succ, List.getElem_cons_zero] at hK ⊢
      have e1 : A.tmps[6]?.getD undef = f 6 := by rw [← hF]; rfl
      rw [h1] at e1
      have et : A.tmps[2]?.getD undef = .pointer (some ⟨w.heap.size, 0, none⟩) := by rw [← hF]; rfl
      obtain ⟨j0, j1, j2⟩ := HX0.out.below HB.out
      clear hF h1
      refine Eq.mpr (if_pos (c := Region.wanted _ _ = true) (wantedT _ (g := 1) (d := 6) rfl rfl e1)) ?_
      have hK2 := hK.out (wv x) w1 (Below.refl _ _) trivial rfl
      unfold wv at hK2
      clear hK
      go_simp
      exact hK2
    refine AllSt.cons (o := _) (ds := [1]) rfl (by kernel_rfl) ?_ ?_
    · intro f w1 K HB hd hK
      have h1 : f 6 = .bool true := hd 1 (by simp)
      clear hd
      generalize hF : frF _ _ f = A at hK ⊢
      simp only [List.getElem_toArray, List.getElem_cons_succ, List.getElem_cons_zero] at hK ⊢
      have e1 : A.tmps[6]?.getD undef = f 6 := by rw [← hF]; rfl
      rw [h1] at e1
      have et : A.tmps[3]?.getD undef = .pointer (some ⟨(w.heap.size + 1), 0, none⟩) := by rw [← hF]; rfl
      obtain ⟨j0, j1, j2⟩ := HY0.out.below HB.out
      clear hF h1
      refine Eq.mpr (if_pos (c := Region.wanted _ _ = true) (wantedT _ (g := 1) (d := 6) rfl rfl e1)) ?_
      have hK2 := hK.out (wv y) w1 (Below.refl _ _) trivial rfl
      unfold wv at hK2
      clear hK
      go_simp
      exact hK2
    refine AllSt.cons (o := _) (ds := [5, 6, 4, 1]) rfl (by kernel_rfl) ?_ ?_
    · intro f w1 K HB hd hK
      have h5 : f 10 = wv x := hd 5 (by simp)
      have h6 : f 11 = wv y := hd 6 (by simp)
      have h4 : f 9 = .int .i64 (sgn x y) := hd 4 (by simp)
      have h1 : f 6 = .bool true := hd 1 (by simp)
      clear hd
      generalize hF : frF _ _ f = A at hK ⊢
      simp only [List.getElem_toArray, List.getElem_cons_succ, List.getElem_cons_zero] at hK ⊢
      have e5 : A.tmps[10]?.getD undef = f 10 := by rw [← hF]; rfl
      rw [h5] at e5
      have e6 : A.tmps[11]?.getD undef = f 11 := by rw [← hF]; rfl
      rw [h6] at e6
      have e4 : A.tmps[9]?.getD undef = f 9 := by rw [← hF]; rfl
      rw [h4] at e4
      have e1 : A.tmps[6]?.getD undef = f 6 := by rw [← hF]; rfl
      rw [h1] at e1
      clear hF h5 h6 h4 h1
      refine Eq.mpr (if_pos (c := Region.wanted _ _ = true) (wantedT _ (g := 1) (d := 6) rfl rfl e1)) ?_
      have HN : Hid (w0.heap.size ≤ w1.heap.size) := HB.out.size
      go_simp
      refine (HR.out _).mono ?_
      rintro e w2 ⟨rfl, hb2⟩
      have hK2 := hK.out (.int .i64 (sgn x y)) w2 (hb2.mono HN.out) trivial rfl
      clear hK hb2
      go_simp
      exact hK2
    refine AllSt.cons (o := _) (ds := [4, 7, 1]) rfl (by kernel_rfl) ?_ ?_
    · intro f w1 K HB hd hK
      have h4 : f 9 = .int .i64 (sgn x y) := hd 4 (by simp)
      have h7 : f 12 = .int .i64 (sgn x y) := hd 7 (by simp)
      have h1 : f 6 = .bool true := hd 1 (by simp)
      clear hd
      generalize hF : frF _ _ f = A at hK ⊢
      simp only [List.getElem_toArray, List.getElem_cons_succ, List.getElem_cons_zero] at hK ⊢
      have e4 : A.tmps[9]?.getD undef = f 9 := by rw [← hF]; rfl
      rw [h4] at e4
      have e7 : A.tmps[12]?.getD undef = f 12 := by rw [← hF]; rfl
      rw [h7] at e7
      have e1 : A.tmps[6]?.getD undef = f 6 := by rw [← hF]; rfl
      rw [h1] at e1
      clear hF h4 h7 h1
      refine Eq.mpr (if_pos (c := Region.wanted _ _ = true) (wantedT _ (g := 1) (d := 6) rfl rfl e1)) ?_
      have hK2 := hK.out (.bool true) w1 (Below.refl _ _) trivial rfl
      clear hK
      go_simp
      exact hK2
    refine AllSt.cons (o := _) (ds := [1, 8]) rfl (by kernel_rfl) ?_ ?_
    · intro f w1 K HB hd hK
      have h1 : f 6 = .bool true := hd 1 (by simp)
      have h8 : f 13 = .bool true := hd 8 (by simp)
      clear hd
      generalize hF : frF _ _ f = A at hK ⊢
      simp only [List.getElem_toArray, List.getElem_cons_succ, List.getElem_cons_zero] at hK ⊢
      have e1 : A.tmps[6]?.getD undef = f 6 := by rw [← hF]; rfl
      rw [h1] at e1
      have e8 : A.tmps[13]?.getD undef = f 13 := by rw [← hF]; rfl
      rw [h8] at e8
      clear hF h1 h8
      have hK2 := hK.out (.bool true) w1 (Below.refl _ _) trivial rfl
      clear hK
      go_simp
      exact hK2
    refine AllSt.cons (o := _) (ds := [9, 7, 0, 1, 2, 3, 4, 5, 6, 7, 8, 9]) rfl (by kernel_rfl) ?_ ?_
    · intro f w1 K HB hd hK
      have h9 : f 14 = .bool true := hd 9 (by simp)
      clear hd
      generalize hF : frF _ _ f = A at hK ⊢
      simp only [List.getElem_toArray, List.getElem_cons_succ, List.getElem_cons_zero] at hK ⊢
      have e9 : A.tmps[14]?.getD undef = f 14 := by rw [← hF]; rfl
      rw [h9] at e9
      clear hF h9
      have hK2 := hK.out (.bool true) w1 (Below.refl _ _) trivial rfl
      clear hK
      go_simp
      exact hK2
    exact AllSt.nil
end Go.Proofs.Ytmojijjgbefljaa
