/- The walk of AggMonoid: whatever is known, it returns true. -/
import Derived.Test.YticooiibjpgfmaaAM2
namespace Go.Proofs.Yticooiibjpgfmaa
open Go.RowKit

/-- What each operation of its last region yields. -/
def mW (a b c : Ag) : Nat → Value
  | 0 => .bool true
  | 1 => .bool true
  | 2 => av (mrg (mrg a b) c)
  | 3 => av (mrg (mrg a b) c)
  | 4 => .bool true
  | 5 => .bool true
  | 6 => .bool true
  | 7 => av a
  | 8 => av b
  | 9 => av (mrg a b)
  | 10 => av b
  | 11 => av a
  | 12 => av (mrg a b)
  | 13 => .bool true
  | 14 => .bool true
  | 15 => .bool true
  | 16 => av a
  | 17 => av az
  | 18 => av a
  | 19 => av a
  | 20 => .bool true
  | 21 => .bool true
  | 22 => .bool true
  | 23 => av az
  | 24 => av a
  | 25 => av a
  | 26 => av a
  | 27 => .bool true
  | 28 => .bool true
  | 29 => .bool true
  | 30 => av (mrg (mrg a b) c)
  | 31 => .bool true
  | 32 => .bool true
  | 33 => .bool true
  | _ => .bool true
theorem wanted_true {ops : Array Oper} {A : Array Value} (o : Oper) {g d : Nat} (hg : o.guard = some (g, true)) (hd : (ops[g]?).bind (·.dst) = some d) (h : A[d]?.getD undef = .bool true) : Region.wanted o (yielded ops A) = true := by
  unfold Region.wanted yielded
  simp only [hg, hd, Option.bind_some]
  cases h0 : A[d]? with
  | none =>
    rw [h0] at h
    cases h
  | some v =>
    rw [h0] at h
    have h1 : v = .bool true := h
    rw [h1]; rfl
theorem FBox.new2 (a : Ag) (o p : Obj) (w : World) : FBox a (w.heap.size + 2) (((w.alloc o).alloc p).alloc (.cells #[.int .u64 a.c, .bool a.o, .int .i64 (hi a.s), .int .u64 (lo a.s), .int .i64 a.mn, .int .i64 a.mx] 28)) := by
  have h := FBox.new1 a p (w.alloc o)
  rw [World.size_alloc] at h
  exact h
set_option maxRecDepth 100000 in
set_option maxHeartbeats 2000000 in
theorem mon_no (a b c : Ag) (h : rightB a = false ∨ (rightB a = true ∧ (rightB b = false ∨ (rightB b = true ∧ rightB c = false)))) (w : World) :
    Calls Try.prog 4 #[.agg #[.int .u64 a.c, .bool a.o, .int .i64 (hi a.s), .int .u64 (lo a.s), .int .i64 a.mn, .int .i64 a.mx], .agg #[.int .u64 b.c, .bool b.o, .int .i64 (hi b.s), .int .u64 (lo b.s), .int .i64 b.mn, .int .i64 b.mx], .agg #[.int .u64 c.c, .bool c.o, .int .i64 (hi c.s), .int .u64 (lo c.s), .int .i64 c.mn, .int .i64 c.mx]] w fun e w' => e = .returned (.bool true) ∧ Below w.heap.size w w' := by
  have H : Hid _ := h
  clear h
  go_enter Try.func4, Try.ntmps4
  go_wp2_with fail
  refine (right_any a _).mono ?_
  rintro e w1 ⟨rfl, hb1⟩
  have HB1 : Hid (Below w.heap.size w w1) := ((((Below.refl _ _).alloc (by simp) _).alloc (by simp) _).alloc (by simp; omega) _).trans (hb1.mono (by simp; omega))
  have HY1 : Hid (FBox b (w.heap.size + 1) w1) := ((FBox.new1 b _ w).al).below hb1
  have HZ1 : Hid (FBox c (w.heap.size + 2) w1) := (FBox.new2 c _ _ w).below hb1
  obtain ⟨j0, j1, j2, j3, j4, j5, j6⟩ := HY1.out
  rcases H.out with h | ⟨h, h'⟩
  · rw [h]
    clear hb1 h
    go_wp2_with fail
    refine (alive2_any _).mono ?_
    rintro e w9 ⟨rfl, hb9⟩
    have HB9 : Hid (Below w.heap.size w w9) := HB1.out.trans (hb9.mono HB1.out.size)
    clear hb9
    go_wp2_with fail
    go_ret
    exact ⟨rfl, HB9.out⟩
  · rw [h]
    have H' : Hid _ := h'
    clear hb1 h h'
    go_wp2_with fail
    clear j1 j2 j3 j4 j5 j6
    refine (right_any b _).mono ?_
    rintro e w2 ⟨rfl, hb2⟩
    have HB2 : Hid (Below w.heap.size w w2) := HB1.out.trans (hb2.mono HB1.out.size)
    have HZ2 : Hid (FBox c (w.heap.size + 2) w2) := HZ1.out.below hb2
    obtain ⟨j0, j1, j2, j3, j4, j5, j6⟩ := HZ2.out
    clear hb2
    rcases H'.out with h | ⟨h, h'⟩
    · rw [h]
      clear h
      go_wp2_with fail
      refine (alive2_any _).mono ?_
      rintro e w9 ⟨rfl, hb9⟩
      have HB9 : Hid (Below w.heap.size w w9) := HB2.out.trans (hb9.mono HB2.out.size)
      clear hb9
      go_wp2_with fail
      go_ret
      exact ⟨rfl, HB9.out⟩
    · rw [h]
      have H2 : Hid _ := h'
      clear h h'
      go_wp2_with fail
      refine (right_any c _).mono ?_
      rw [H2.out]
      rintro e w3 ⟨rfl, hb3⟩
      have HB3 : Hid (Below w.heap.size w w3) := HB2.out.trans (hb3.mono HB2.out.size)
      clear hb3
      go_wp2_with fail
      refine (alive2_any _).mono ?_
      rintro e w9 ⟨rfl, hb9⟩
      have HB9 : Hid (Below w.heap.size w w9) := HB3.out.trans (hb9.mono HB3.out.size)
      clear hb9
      go_wp2_with fail
      go_ret
      exact ⟨rfl, HB9.out⟩

set_option maxRecDepth 100000 in
set_option maxHeartbeats 4000000 in
theorem mon_yes (a b c : Ag) (ha : rightB a = true) (hb : rightB b = true) (hc : rightB c = true) (ka : AgOk a) (kb : AgOk b) (kc : AgOk c) (w : World) :
    Calls Try.prog 4 #[.agg #[.int .u64 a.c, .bool a.o, .int .i64 (hi a.s), .int .u64 (lo a.s), .int .i64 a.mn, .int .i64 a.mx], .agg #[.int .u64 b.c, .bool b.o, .int .i64 (hi b.s), .int .u64 (lo b.s), .int .i64 b.mn, .int .i64 b.mx], .agg #[.int .u64 c.c, .bool c.o, .int .i64 (hi c.s), .int .u64 (lo c.s), .int .i64 c.mn, .int .i64 c.mx]] w fun e w' => e = .returned (.bool true) ∧ Below w.heap.size w w' := by
  have CA : Hid (Cn a) := ⟨ka.c1, ka.c2⟩
  have CB : Hid (Cn b) := ⟨kb.c1, kb.c2⟩
  have CC : Hid (Cn c) := ⟨kc.c1, kc.c2⟩
  have HA : Hid _ := ha
  have HBR : Hid _ := hb
  have HCR : Hid _ := hc
  have EA : Hid (mrg a (mrg b c) = mrg (mrg a b) c) := (mon_assoc ka kb kc).symm
  have EC : Hid (mrg b a = mrg a b) := mon_comm hb ha kb ka
  have EZ : Hid (mrg a az = a) := mon_right ha ka
  have ER : Hid (rightB (mrg (mrg a b) c) = true) := mon_ok (mon_ok ha hb CA.out CB.out) hc (mrg_cn CA.out CB.out) CC.out
  clear ha hb hc ka kb kc
  go_enter Try.func4, Try.ntmps4
  go_wp2_with fail
  refine (right_any a _).mono ?_
  rw [HA.out]
  rintro e w1 ⟨rfl, hb1⟩
  have HB1 : Hid (Below w.heap.size w w1) := ((((Below.refl _ _).alloc (by simp) _).alloc (by simp) _).alloc (by simp; omega) _).trans (hb1.mono (by simp; omega))
  have HX1 : Hid (FBox a w.heap.size w1) := (((FBox.new a w).al).al).below hb1
  have HY1 : Hid (FBox b (w.heap.size + 1) w1) := ((FBox.new1 b _ w).al).below hb1
  have HZ1 : Hid (FBox c (w.heap.size + 2) w1) := (FBox.new2 c _ _ w).below hb1
  obtain ⟨j0, j1, j2, j3, j4, j5, j6⟩ := HY1.out
  clear hb1
  go_wp2_with fail
  clear j0 j1 j2 j3 j4 j5 j6
  refine (right_any b _).mono ?_
  rw [HBR.out]
  rintro e w2 ⟨rfl, hb2⟩
  have HB2 : Hid (Below w.heap.size w w2) := HB1.out.trans (hb2.mono HB1.out.size)
  have HX2 : Hid (FBox a w.heap.size w2) := HX1.out.below hb2
  have HY2 : Hid (FBox b (w.heap.size + 1) w2) := HY1.out.below hb2
  have HZ2 : Hid (FBox c (w.heap.size + 2) w2) := HZ1.out.below hb2
  obtain ⟨j0, j1, j2, j3, j4, j5, j6⟩ := HZ2.out
  clear hb2
  go_wp2_with fail
  clear j0 j1 j2 j3 j4 j5 j6
  refine (right_any c _).mono ?_
  rw [HCR.out]
  rintro e w3 ⟨rfl, hb3⟩
  have HB3 : Hid (Below w.heap.size w w3) := HB2.out.trans (hb3.mono HB2.out.size)
  have HX3 : Hid (FBox a w.heap.size w3) := HX2.out.below hb3
  have HY3 : Hid (FBox b (w.heap.size + 1) w3) := HY2.out.below hb3
  have HZ3 : Hid (FBox c (w.heap.size + 2) w3) := HZ2.out.below hb3
  clear hb3 HB1 HB2 HX1 HX2 HY1 HY2 HZ1 HZ2
  go_wp2_with fail
  refine region_inv2 (by kernel_rfl) [23, 24, 25, 26, 27, 28, 29, 30, 31, 32, 7, 8] [10, 11] (mV a b c w3.heap.size) (fun j o ho g g' w' hj hd hv => mV.loc hj (fun e => ?l12) (fun e => ?l13) hv) (fun j hj g w' h => mV.box hj h) (by kernel_rfl) (by kernel_rfl) ?steps ?done
  case l12 =>
    subst e
    obtain rfl := Option.some.inj ho
    exact hd 10 (of_decide_eq_true (by kernel_rfl))
  case l13 =>
    subst e
    obtain rfl := Option.some.inj ho
    exact hd 11 (of_decide_eq_true (by kernel_rfl))

  case steps =>
    show AllS2 _ _ _ _ _ _ _ _ [0, 1, 2, 3, 4, 5, 6, 7, 8, 9, 10, 11, 12, 13]
    refine AllS2.cons (o := _) (ds := []) rfl (by kernel_rfl) ?_ ?_
    · intro f w1 K HB hd hA hK
      clear hd hA
      generalize hF : frF _ _ f = A at hK ⊢
      simp only [List.getElem_toArray, List.getElem_cons_zero] at hK ⊢
      have e3 : A.tmps[3]?.getD undef = .pointer (some ⟨w.heap.size, 0, none⟩) := by rw [← hF]; rfl
      clear hF
      obtain ⟨j0, j1, j2, j3, j4, j5, j6⟩ := HX3.out.below HB.out
      have hK2 := hK.out (av a) w1 (Below.refl _ _) (fun _ h => h) (fun g' h _ => h) (fun h => absurd h (by decide))
      unfold av at hK2
      clear hK
      go_simp
      exact hK2
    refine AllS2.cons (o := _) (ds := []) rfl (by kernel_rfl) ?_ ?_
    · intro f w1 K HB hd hA hK
      clear hd hA
      generalize hF : frF _ _ f = A at hK ⊢
      simp only [List.getElem_toArray, List.getElem_cons_succ, List.getElem_cons_zero] at hK ⊢
      have e4 : A.tmps[4]?.getD undef = .pointer (some ⟨(w.heap.size + 1), 0, none⟩) := by rw [← hF]; rfl
      clear hF
      obtain ⟨j0, j1, j2, j3, j4, j5, j6⟩ := HY3.out.below HB.out
      have hK2 := hK.out (av b) w1 (Below.refl _ _) (fun _ h => h) (fun g' h _ => h) (fun h => absurd h (by decide))
      unfold av at hK2
      clear hK
      go_simp
      exact hK2
    refine AllS2.cons (o := _) (ds := [0, 1]) rfl (by kernel_rfl) ?_ ?_
    · intro f w1 K HB hd hA hK
      have hx : f 23 = av a := hd 0 (by simp)
      have hy : f 24 = av b := hd 1 (by simp)
      clear hd hA
      generalize hF : frF _ _ f = A at hK ⊢
      simp only [List.getElem_toArray, List.getElem_cons_succ, List.getElem_cons_zero] at hK ⊢
      have ex : A.tmps[23]?.getD undef = f 23 := by rw [← hF]; rfl
      have ey : A.tmps[24]?.getD undef = f 24 := by rw [← hF]; rfl
      rw [hx] at ex
      rw [hy] at ey
      clear hF hx hy
      have HN : Hid (w3.heap.size ≤ w1.heap.size) := HB.out.size
      go_simp
      refine (merge_av a b CA.out CB.out _).mono ?_
      rintro e w2 ⟨rfl, hb2⟩
      have hK2 := hK.out (av (mrg a b)) w2 (hb2.mono HN.out) (fun _ h => mV.below hb2 h) (fun g' h _ => h) (fun h => absurd h (by decide))
      clear hK hb2
      go_simp
      exact hK2
    refine AllS2.cons (o := _) (ds := []) rfl (by kernel_rfl) ?_ ?_
    · intro f w1 K HB hd hA hK
      clear hd hA
      generalize hF : frF _ _ f = A at hK ⊢
      simp only [List.getElem_toArray, List.getElem_cons_succ, List.getElem_cons_zero] at hK ⊢
      have e5 : A.tmps[5]?.getD undef = .pointer (some ⟨(w.heap.size + 2), 0, none⟩) := by rw [← hF]; rfl
      clear hF
      obtain ⟨j0, j1, j2, j3, j4, j5, j6⟩ := HZ3.out.below HB.out
      have hK2 := hK.out (av c) w1 (Below.refl _ _) (fun _ h => h) (fun g' h _ => h) (fun h => absurd h (by decide))
      unfold av at hK2
      clear hK
      go_simp
      exact hK2
    refine AllS2.cons (o := _) (ds := [2, 3, 2]) rfl (by kernel_rfl) ?_ ?_
    · intro f w1 K HB hd hA hK
      have hx : f 25 = av (mrg a b) := hd 2 (by simp)
      have hy : f 26 = av c := hd 3 (by simp)
      clear hd hA
      generalize hF : frF _ _ f = A at hK ⊢
      simp only [List.getElem_toArray, List.getElem_cons_succ, List.getElem_cons_zero] at hK ⊢
      have ex : A.tmps[25]?.getD undef = f 25 := by rw [← hF]; rfl
      have ey : A.tmps[26]?.getD undef = f 26 := by rw [← hF]; rfl
      rw [hx] at ex
      rw [hy] at ey
      clear hF hx hy
      have HN : Hid (w3.heap.size ≤ w1.heap.size) := HB.out.size
      go_simp
      refine (merge_av (mrg a b) c (mrg_cn CA.out CB.out) CC.out _).mono ?_
      rintro e w2 ⟨rfl, hb2⟩
      have hK2 := hK.out (av (mrg (mrg a b) c)) w2 (hb2.mono HN.out) (fun _ h => mV.below hb2 h) (fun g' h _ => h) (fun h => absurd h (by decide))
      clear hK hb2
      go_simp
      exact hK2
    refine AllS2.cons (o := _) (ds := []) rfl (by kernel_rfl) ?_ ?_
    · intro f w1 K HB hd hA hK
      clear hd hA
      generalize hF : frF _ _ f = A at hK ⊢
      simp only [List.getElem_toArray, List.getElem_cons_succ, List.getElem_cons_zero] at hK ⊢
      have e3 : A.tmps[3]?.getD undef = .pointer (some ⟨w.heap.size, 0, none⟩) := by rw [← hF]; rfl
      clear hF
      obtain ⟨j0, j1, j2, j3, j4, j5, j6⟩ := HX3.out.below HB.out
      have hK2 := hK.out (av a) w1 (Below.refl _ _) (fun _ h => h) (fun g' h _ => h) (fun h => absurd h (by decide))
      unfold av at hK2
      clear hK
      go_simp
      exact hK2
    refine AllS2.cons (o := _) (ds := []) rfl (by kernel_rfl) ?_ ?_
    · intro f w1 K HB hd hA hK
      clear hd hA
      generalize hF : frF _ _ f = A at hK ⊢
      simp only [List.getElem_toArray, List.getElem_cons_succ, List.getElem_cons_zero] at hK ⊢
      have e4 : A.tmps[4]?.getD undef = .pointer (some ⟨(w.heap.size + 1), 0, none⟩) := by rw [← hF]; rfl
      clear hF
      obtain ⟨j0, j1, j2, j3, j4, j5, j6⟩ := HY3.out.below HB.out
      have hK2 := hK.out (av b) w1 (Below.refl _ _) (fun _ h => h) (fun g' h _ => h) (fun h => absurd h (by decide))
      unfold av at hK2
      clear hK
      go_simp
      exact hK2
    refine AllS2.cons (o := _) (ds := []) rfl (by kernel_rfl) ?_ ?_
    · intro f w1 K HB hd hA hK
      clear hd hA
      generalize hF : frF _ _ f = A at hK ⊢
      simp only [List.getElem_toArray, List.getElem_cons_succ, List.getElem_cons_zero] at hK ⊢
      have e5 : A.tmps[5]?.getD undef = .pointer (some ⟨(w.heap.size + 2), 0, none⟩) := by rw [← hF]; rfl
      clear hF
      obtain ⟨j0, j1, j2, j3, j4, j5, j6⟩ := HZ3.out.below HB.out
      have hK2 := hK.out (av c) w1 (Below.refl _ _) (fun _ h => h) (fun g' h _ => h) (fun h => absurd h (by decide))
      unfold av at hK2
      clear hK
      go_simp
      exact hK2
    refine AllS2.cons (o := _) (ds := [6, 7, 4]) rfl (by kernel_rfl) ?_ ?_
    · intro f w1 K HB hd hA hK
      have hx : f 29 = av b := hd 6 (by simp)
      have hy : f 30 = av c := hd 7 (by simp)
      clear hd hA
      generalize hF : frF _ _ f = A at hK ⊢
      simp only [List.getElem_toArray, List.getElem_cons_succ, List.getElem_cons_zero] at hK ⊢
      have ex : A.tmps[29]?.getD undef = f 29 := by rw [← hF]; rfl
      have ey : A.tmps[30]?.getD undef = f 30 := by rw [← hF]; rfl
      rw [hx] at ex
      rw [hy] at ey
      clear hF hx hy
      have HN : Hid (w3.heap.size ≤ w1.heap.size) := HB.out.size
      go_simp
      refine (merge_av b c CB.out CC.out _).mono ?_
      rintro e w2 ⟨rfl, hb2⟩
      have hK2 := hK.out (av (mrg b c)) w2 (hb2.mono HN.out) (fun _ h => mV.below hb2 h) (fun g' h _ => h) (fun h => absurd h (by decide))
      clear hK hb2
      go_simp
      exact hK2
    refine AllS2.cons (o := _) (ds := [5, 8, 8]) rfl (by kernel_rfl) ?_ ?_
    · intro f w1 K HB hd hA hK
      have hx : f 28 = av a := hd 5 (by simp)
      have hy : f 31 = av (mrg b c) := hd 8 (by simp)
      clear hd hA
      generalize hF : frF _ _ f = A at hK ⊢
      simp only [List.getElem_toArray, List.getElem_cons_succ, List.getElem_cons_zero] at hK ⊢
      have ex : A.tmps[28]?.getD undef = f 28 := by rw [← hF]; rfl
      have ey : A.tmps[31]?.getD undef = f 31 := by rw [← hF]; rfl
      rw [hx] at ex
      rw [hy] at ey
      clear hF hx hy
      have HN : Hid (w3.heap.size ≤ w1.heap.size) := HB.out.size
      go_simp
      refine (merge_av a (mrg b c) CA.out (mrg_cn CB.out CC.out) _).mono ?_
      rintro e w2 ⟨rfl, hb2⟩
      have hK2 := hK.out (av (mrg a (mrg b c))) w2 (hb2.mono HN.out) (fun _ h => mV.below hb2 h) (fun g' h _ => h) (fun h => absurd h (by decide))
      clear hK hb2
      go_simp
      exact hK2
    refine AllS2.cons (o := _) (ds := []) rfl (by kernel_rfl) ?_ ?_
    · intro f w1 K HB hd hA hK
      clear hd hA
      generalize hF : frF _ _ f = A at hK ⊢
      simp only [List.getElem_toArray, List.getElem_cons_succ, List.getElem_cons_zero] at hK ⊢
      clear hF
      have hn : w3.heap.size ≤ w1.heap.size := HB.out.size
      have hb2 := (Below.refl w1.heap.size w1).alloc (Nat.le_refl _) (.cells #[.int .u64 0, .bool false, .int .i64 0, .int .u64 0, .int .i64 0, .int .i64 0] 28)
      have hK2 := hK.out (.pointer (some ⟨w1.heap.size, 0, none⟩)) _ (hb2.mono hn) (fun _ h => mV.below hb2 h) (fun g' h _ => ⟨w1.heap.size, h, hn, by simp, _, _, heap_alloc_new _ _, rfl⟩) (fun _ => rfl)
      clear hK hb2
      go_simp
      exact hK2
    refine AllS2.cons (o := _) (ds := []) rfl (by kernel_rfl) ?_ ?_
    · intro f w1 K HB hd hA hK
      clear hd hA
      generalize hF : frF _ _ f = A at hK ⊢
      simp only [List.getElem_toArray, List.getElem_cons_succ, List.getElem_cons_zero] at hK ⊢
      clear hF
      have hn : w3.heap.size ≤ w1.heap.size := HB.out.size
      have hb2 := (Below.refl w1.heap.size w1).alloc (Nat.le_refl _) (.cells #[.int .u64 0, .bool false, .int .i64 0, .int .u64 0, .int .i64 0, .int .i64 0] 28)
      have hK2 := hK.out (.pointer (some ⟨w1.heap.size, 0, none⟩)) _ (hb2.mono hn) (fun _ h => mV.below hb2 h) (fun g' h _ => ⟨w1.heap.size, h, hn, by simp, _, _, heap_alloc_new _ _, rfl⟩) (fun _ => rfl)
      clear hK hb2
      go_simp
      exact hK2
    refine AllS2.cons (o := _) (ds := [10, 4, 9, 0, 1, 2, 3, 4, 10, 11]) rfl (by kernel_rfl) ?_ ?_
    · intro f w1 K HB hd hA hK
      have hx : Bx w3.heap.size (f 7) w1 := hd 10 (by simp)
      have hv : f 27 = av (mrg (mrg a b) c) := hd 4 (by simp)
      have hne : f 8 ≠ f 7 := hA.out 11 (by simp) 10 (by simp) (by simp) (by simp) (by decide)
      clear hd hA
      obtain ⟨g, hg, hn, hgs, cs, T, hh, hcs⟩ := hx
      generalize hF : frF _ _ f = A at hK ⊢
      simp only [List.getElem_toArray, List.getElem_cons_succ, List.getElem_cons_zero] at hK ⊢
      have ex : A.tmps[7]?.getD undef = f 7 := by rw [← hF]; rfl
      have ey : A.tmps[27]?.getD undef = f 27 := by rw [← hF]; rfl
      rw [hg] at ex
      rw [hv] at ey
      clear hF hv
      refine Eq.mpr (if_pos (c := Region.wanted _ _ = true) rfl) ?_
      refine wp_storeN _ _ _ rfl g 0 [.int .u64 (mrg (mrg a b) c).c, .bool (mrg (mrg a b) c).o, .int .i64 (hi (mrg (mrg a b) c).s), .int .u64 (lo (mrg (mrg a b) c).s), .int .i64 (mrg (mrg a b) c).mn, .int .i64 (mrg (mrg a b) c).mx] (by simpa [go_sem] using ex) (by unfold av at ey; simpa [go_sem] using ey) cs T hh (by simp [hcs]) (by kernel_rfl) (by kernel_rfl) (fun W hW => ?_)
      have hF2 := Fx.mk (a := (mrg (mrg a b) c)) hn hgs hW
      refine hK.out undef W (hW.b _ hn) (fun j h => mV.store hW hcs (fun h1 => ?_) (fun h1 => ?_) h) (fun g' _ h2 => ?_) (fun h => absurd h (by decide))
      · show Fx _ _ (f 7) W; rw [hg]; exact hF2
      · exact Fx.store (v := f 8) h1 (by rw [← hg]; exact hne) hW
      · have h3 : g' 10 = f 7 := h2 10 (by simp)
        show Fx _ _ (g' 10) W
        rw [h3, hg]; exact hF2
    refine AllS2.cons (o := _) (ds := [11, 9, 12, 0, 1, 2, 3, 4, 5, 6, 7, 8, 9, 10, 11, 12]) rfl (by kernel_rfl) ?_ ?_
    · intro f w1 K HB hd hA hK
      have hx : Bx w3.heap.size (f 8) w1 := hd 11 (by simp)
      have hv : f 32 = av (mrg a (mrg b c)) := hd 9 (by simp)
      have hne : f 7 ≠ f 8 := hA.out 10 (by simp) 11 (by simp) (by simp) (by simp) (by decide)
      clear hd hA
      obtain ⟨g, hg, hn, hgs, cs, T, hh, hcs⟩ := hx
      generalize hF : frF _ _ f = A at hK ⊢
      simp only [List.getElem_toArray, List.getElem_cons_succ, List.getElem_cons_zero] at hK ⊢
      have ex : A.tmps[8]?.getD undef = f 8 := by rw [← hF]; rfl
      have ey : A.tmps[32]?.getD undef = f 32 := by rw [← hF]; rfl
      rw [hg] at ex
      rw [hv] at ey
      clear hF hv
      refine Eq.mpr (if_pos (c := Region.wanted _ _ = true) rfl) ?_
      refine wp_storeN _ _ _ rfl g 0 [.int .u64 (mrg a (mrg b c)).c, .bool (mrg a (mrg b c)).o, .int .i64 (hi (mrg a (mrg b c)).s), .int .u64 (lo (mrg a (mrg b c)).s), .int .i64 (mrg a (mrg b c)).mn, .int .i64 (mrg a (mrg b c)).mx] (by simpa [go_sem] using ex) (by unfold av at ey; simpa [go_sem] using ey) cs T hh (by simp [hcs]) (by kernel_rfl) (by kernel_rfl) (fun W hW => ?_)
      have hF2 := Fx.mk (a := (mrg a (mrg b c))) hn hgs hW
      refine hK.out undef W (hW.b _ hn) (fun j h => mV.store hW hcs (fun h1 => ?_) (fun h1 => ?_) h) (fun g' _ h2 => ?_) (fun h => absurd h (by decide))
      · exact Fx.store (v := f 7) h1 (by rw [← hg]; exact hne) hW
      · show Fx _ _ (f 8) W; rw [hg]; exact hF2
      · have h3 : g' 11 = f 8 := h2 11 (by simp)
        show Fx _ _ (g' 11) W
        rw [h3, hg]; exact hF2
    exact AllS2.nil
  case done =>
    intro f w4 hB hd hap
    have h12 : Fx w3.heap.size (mrg (mrg a b) c) (f 7) w4 := hd 12 (by decide)
    have h13 : Fx w3.heap.size (mrg a (mrg b c)) (f 8) w4 := hd 13 (by decide)
    obtain ⟨gl, hgl, _, hfl⟩ := h12
    obtain ⟨gr, hgr, _, hfr⟩ := h13
    rw [EA.out] at hfr
    have HB4 : Hid (Below w.heap.size w w4) := HB3.out.trans (hB.mono HB3.out.size)
    have HX4 : Hid (FBox a w.heap.size w4) := HX3.out.below hB
    have HY4 : Hid (FBox b (w.heap.size + 1) w4) := HY3.out.below hB
    have HL4 : Hid (FBox (mrg (mrg a b) c) gl w4) := hfl
    have HR4 : Hid (FBox (mrg (mrg a b) c) gr w4) := hfr
    clear hd hap hB hfl hfr
    simp only [frF, tmOf, List.contains_cons, List.contains_nil, Nat.reduceAdd, Nat.zero_add, Nat.reduceBEq, Bool.or_false, Bool.false_or, cond_true, cond_false]
    rw [hgl, hgr]
    clear hgl hgr HX3 HY3 HZ3 HB3
    have HM : Hid (Cn (mrg a b)) := mrg_cn CA.out CB.out
    clear CC
    generalize f 23 = f23, f 24 = f24, f 25 = f25, f 26 = f26, f 27 = f27, f 28 = f28, f 29 = f29, f 30 = f30, f 31 = f31, f 32 = f32
    go_wp2_with fail
    refine region_inv (by kernel_rfl) [33, 34, 35, 36, 37, 38, 39, 40, 41, 42, 43, 44, 45, 46, 47, 48, 49, 50, 51, 52, 53, 54, 55, 56, 57, 58, 59, 60, 61, 62, 63, 64, 65, 6] (fun _ _ => True) (fun j v _ => v = mW a b c j) (fun j v A B hr hv => hv) (by kernel_rfl) (by kernel_rfl) ?steps ?done
    case done =>
      intro f w5 hB hd
      have hr : f 6 = .bool true := hd 33 (by decide)
      have HB5 : Hid (Below w.heap.size w w5) := HB4.out.trans (hB.mono HB4.out.size)
      clear hd hB
      simp only [frF, tmOf, List.contains_cons, List.contains_nil, Nat.reduceAdd, Nat.zero_add, Nat.reduceBEq, Bool.or_false, Bool.false_or, cond_true, cond_false]
      rw [hr]
      clear hr
      go_wp2_with fail
      go_ret
      exact ⟨rfl, HB5.out⟩
    case steps =>
      show AllSt _ _ _ _ _ _ _ _ [0, 1, 2, 3, 4, 5, 6, 7, 8, 9, 10, 11, 12, 13, 14, 15, 16, 17, 18, 19, 20, 21, 22, 23, 24, 25, 26, 27, 28, 29, 30, 31, 32, 33]
      refine AllSt.cons (o := _) (ds := []) rfl (by kernel_rfl) ?_ ?_
      · intro f w1 K HB hd hK
        clear hd
        generalize hF : frF _ _ f = A at hK ⊢
        simp only [List.getElem_toArray, List.getElem_cons_zero] at hK ⊢
        clear hF 
        have HN : Hid (w4.heap.size ≤ w1.heap.size) := HB.out.size
        go_simp
        refine (alive2_any _).mono ?_
        rintro e w2 ⟨rfl, hb2⟩
        have hK2 := hK.out (.bool true) w2 (hb2.mono HN.out) trivial rfl
        clear hK hb2
        go_simp
        exact hK2
      refine AllSt.cons (o := _) (ds := [0, 0]) rfl (by kernel_rfl) ?_ ?_
      · intro f w1 K HB hd hK
        have h0 : f 33 = .bool true := hd 0 (by simp)
        clear hd
        generalize hF : frF _ _ f = A at hK ⊢
        simp only [List.getElem_toArray, List.getElem_cons_succ, List.getElem_cons_zero] at hK ⊢
        have e0 : A.tmps[33]?.getD undef = f 33 := by rw [← hF]; rfl
        rw [h0] at e0
        clear hF h0
        have hK2 := hK.out (.bool true) w1 (Below.refl _ _) trivial rfl
        clear hK
        go_simp
        exact hK2
      refine AllSt.cons (o := _) (ds := [1]) rfl (by kernel_rfl) ?_ ?_
      · intro f w1 K HB hd hK
        have h1 : f 34 = .bool true := hd 1 (by simp)
        clear hd
        generalize hF : frF _ _ f = A at hK ⊢
        simp only [List.getElem_toArray, List.getElem_cons_succ, List.getElem_cons_zero] at hK ⊢
        have e1 : A.tmps[34]?.getD undef = f 34 := by rw [← hF]; rfl
        rw [h1] at e1
        have et : A.tmps[7]?.getD undef = .pointer (some ⟨gl, 0, none⟩) := by rw [← hF]; rfl
        obtain ⟨j0, j1, j2, j3, j4, j5, j6⟩ := HL4.out.below HB.out
        clear hF h1
        refine Eq.mpr (if_pos (c := Region.wanted _ _ = true) (wanted_true _ (g := 1) (d := 34) rfl rfl e1)) ?_
        have hK2 := hK.out (av (mrg (mrg a b) c)) w1 (Below.refl _ _) trivial rfl
        unfold av at hK2
        clear hK
        go_simp
        exact hK2
      refine AllSt.cons (o := _) (ds := [1]) rfl (by kernel_rfl) ?_ ?_
      · intro f w1 K HB hd hK
        have h1 : f 34 = .bool true := hd 1 (by simp)
        clear hd
        generalize hF : frF _ _ f = A at hK ⊢
        simp only [List.getElem_toArray, List.getElem_cons_succ, List.getElem_cons_zero] at hK ⊢
        have e1 : A.tmps[34]?.getD undef = f 34 := by rw [← hF]; rfl
        rw [h1] at e1
        have et : A.tmps[8]?.getD undef = .pointer (some ⟨gr, 0, none⟩) := by rw [← hF]; rfl
        obtain ⟨j0, j1, j2, j3, j4, j5, j6⟩ := HR4.out.below HB.out
        clear hF h1
        refine Eq.mpr (if_pos (c := Region.wanted _ _ = true) (wanted_true _ (g := 1) (d := 34) rfl rfl e1)) ?_
        have hK2 := hK.out (av (mrg (mrg a b) c)) w1 (Below.refl _ _) trivial rfl
        unfold av at hK2
        clear hK
        go_simp
        exact hK2
      refine AllSt.cons (o := _) (ds := [2, 3, 1]) rfl (by kernel_rfl) ?_ ?_
      · intro f w1 K HB hd hK
        have h2 : f 35 = av (mrg (mrg a b) c) := hd 2 (by simp)
        have h3 : f 36 = av (mrg (mrg a b) c) := hd 3 (by simp)
        have h1 : f 34 = .bool true := hd 1 (by simp)
        clear hd
        generalize hF : frF _ _ f = A at hK ⊢
        simp only [List.getElem_toArray, List.getElem_cons_succ, List.getElem_cons_zero] at hK ⊢
        have e2 : A.tmps[35]?.getD undef = f 35 := by rw [← hF]; rfl
        rw [h2] at e2
        have e3 : A.tmps[36]?.getD undef = f 36 := by rw [← hF]; rfl
        rw [h3] at e3
        have e1 : A.tmps[34]?.getD undef = f 34 := by rw [← hF]; rfl
        rw [h1] at e1
        clear hF h2 h3 h1
        refine Eq.mpr (if_pos (c := Region.wanted _ _ = true) (wanted_true _ (g := 1) (d := 34) rfl rfl e1)) ?_
        have hK2 := hK.out (.bool true) w1 (Below.refl _ _) trivial rfl
        unfold av at e2
        unfold av at e3
        clear hK
        go_simp
        exact hK2
      refine AllSt.cons (o := _) (ds := [1, 4]) rfl (by kernel_rfl) ?_ ?_
      · intro f w1 K HB hd hK
        have h1 : f 34 = .bool true := hd 1 (by simp)
        have h4 : f 37 = .bool true := hd 4 (by simp)
        clear hd
        generalize hF : frF _ _ f = A at hK ⊢
        simp only [List.getElem_toArray, List.getElem_cons_succ, List.getElem_cons_zero] at hK ⊢
        have e1 : A.tmps[34]?.getD undef = f 34 := by rw [← hF]; rfl
        rw [h1] at e1
        have e4 : A.tmps[37]?.getD undef = f 37 := by rw [← hF]; rfl
        rw [h4] at e4
        clear hF h1 h4
        have hK2 := hK.out (.bool true) w1 (Below.refl _ _) trivial rfl
        clear hK
        go_simp
        exact hK2
      refine AllSt.cons (o := _) (ds := [5, 1]) rfl (by kernel_rfl) ?_ ?_
      · intro f w1 K HB hd hK
        have h5 : f 38 = .bool true := hd 5 (by simp)
        have h1 : f 34 = .bool true := hd 1 (by simp)
        clear hd
        generalize hF : frF _ _ f = A at hK ⊢
        simp only [List.getElem_toArray, List.getElem_cons_succ, List.getElem_cons_zero] at hK ⊢
        have e5 : A.tmps[38]?.getD undef = f 38 := by rw [← hF]; rfl
        rw [h5] at e5
        have e1 : A.tmps[34]?.getD undef = f 34 := by rw [← hF]; rfl
        rw [h1] at e1
        clear hF h5 h1
        have hK2 := hK.out (.bool true) w1 (Below.refl _ _) trivial rfl
        clear hK
        go_simp
        exact hK2
      refine AllSt.cons (o := _) (ds := [6]) rfl (by kernel_rfl) ?_ ?_
      · intro f w1 K HB hd hK
        have h6 : f 39 = .bool true := hd 6 (by simp)
        clear hd
        generalize hF : frF _ _ f = A at hK ⊢
        simp only [List.getElem_toArray, List.getElem_cons_succ, List.getElem_cons_zero] at hK ⊢
        have e6 : A.tmps[39]?.getD undef = f 39 := by rw [← hF]; rfl
        rw [h6] at e6
        have et : A.tmps[3]?.getD undef = .pointer (some ⟨w.heap.size, 0, none⟩) := by rw [← hF]; rfl
        obtain ⟨j0, j1, j2, j3, j4, j5, j6⟩ := HX4.out.below HB.out
        clear hF h6
        refine Eq.mpr (if_pos (c := Region.wanted _ _ = true) (wanted_true _ (g := 6) (d := 39) rfl rfl e6)) ?_
        have hK2 := hK.out (av a) w1 (Below.refl _ _) trivial rfl
        unfold av at hK2
        clear hK
        go_simp
        exact hK2
      refine AllSt.cons (o := _) (ds := [6]) rfl (by kernel_rfl) ?_ ?_
      · intro f w1 K HB hd hK
        have h6 : f 39 = .bool true := hd 6 (by simp)
        clear hd
        generalize hF : frF _ _ f = A at hK ⊢
        simp only [List.getElem_toArray, List.getElem_cons_succ, List.getElem_cons_zero] at hK ⊢
        have e6 : A.tmps[39]?.getD undef = f 39 := by rw [← hF]; rfl
        rw [h6] at e6
        have et : A.tmps[4]?.getD undef = .pointer (some ⟨(w.heap.size + 1), 0, none⟩) := by rw [← hF]; rfl
        obtain ⟨j0, j1, j2, j3, j4, j5, j6⟩ := HY4.out.below HB.out
        clear hF h6
        refine Eq.mpr (if_pos (c := Region.wanted _ _ = true) (wanted_true _ (g := 6) (d := 39) rfl rfl e6)) ?_
        have hK2 := hK.out (av b) w1 (Below.refl _ _) trivial rfl
        unfold av at hK2
        clear hK
        go_simp
        exact hK2
      refine AllSt.cons (o := _) (ds := [7, 8, 6, 6]) rfl (by kernel_rfl) ?_ ?_
      · intro f w1 K HB hd hK
        have h7 : f 40 = av a := hd 7 (by simp)
        have h8 : f 41 = av b := hd 8 (by simp)
        have h6 : f 39 = .bool true := hd 6 (by simp)
        clear hd
        generalize hF : frF _ _ f = A at hK ⊢
        simp only [List.getElem_toArray, List.getElem_cons_succ, List.getElem_cons_zero] at hK ⊢
        have e7 : A.tmps[40]?.getD undef = f 40 := by rw [← hF]; rfl
        rw [h7] at e7
        have e8 : A.tmps[41]?.getD undef = f 41 := by rw [← hF]; rfl
        rw [h8] at e8
        have e6 : A.tmps[39]?.getD undef = f 39 := by rw [← hF]; rfl
        rw [h6] at e6
        clear hF h7 h8 h6
        refine Eq.mpr (if_pos (c := Region.wanted _ _ = true) (wanted_true _ (g := 6) (d := 39) rfl rfl e6)) ?_
        have HN : Hid (w4.heap.size ≤ w1.heap.size) := HB.out.size
        go_simp
        refine (merge_av a b CA.out CB.out _).mono ?_
        rintro e w2 ⟨rfl, hb2⟩
        have hK2 := hK.out (av (mrg a b)) w2 (hb2.mono HN.out) trivial rfl
        clear hK hb2
        go_simp
        exact hK2
      refine AllSt.cons (o := _) (ds := [6]) rfl (by kernel_rfl) ?_ ?_
      · intro f w1 K HB hd hK
        have h6 : f 39 = .bool true := hd 6 (by simp)
        clear hd
        generalize hF : frF _ _ f = A at hK ⊢
        simp only [List.getElem_toArray, List.getElem_cons_succ, List.getElem_cons_zero] at hK ⊢
        have e6 : A.tmps[39]?.getD undef = f 39 := by rw [← hF]; rfl
        rw [h6] at e6
        have et : A.tmps[4]?.getD undef = .pointer (some ⟨(w.heap.size + 1), 0, none⟩) := by rw [← hF]; rfl
        obtain ⟨j0, j1, j2, j3, j4, j5, j6⟩ := HY4.out.below HB.out
        clear hF h6
        refine Eq.mpr (if_pos (c := Region.wanted _ _ = true) (wanted_true _ (g := 6) (d := 39) rfl rfl e6)) ?_
        have hK2 := hK.out (av b) w1 (Below.refl _ _) trivial rfl
        unfold av at hK2
        clear hK
        go_simp
        exact hK2
      refine AllSt.cons (o := _) (ds := [6]) rfl (by kernel_rfl) ?_ ?_
      · intro f w1 K HB hd hK
        have h6 : f 39 = .bool true := hd 6 (by simp)
        clear hd
        generalize hF : frF _ _ f = A at hK ⊢
        simp only [List.getElem_toArray, List.getElem_cons_succ, List.getElem_cons_zero] at hK ⊢
        have e6 : A.tmps[39]?.getD undef = f 39 := by rw [← hF]; rfl
        rw [h6] at e6
        have et : A.tmps[3]?.getD undef = .pointer (some ⟨w.heap.size, 0, none⟩) := by rw [← hF]; rfl
        obtain ⟨j0, j1, j2, j3, j4, j5, j6⟩ := HX4.out.below HB.out
        clear hF h6
        refine Eq.mpr (if_pos (c := Region.wanted _ _ = true) (wanted_true _ (g := 6) (d := 39) rfl rfl e6)) ?_
        have hK2 := hK.out (av a) w1 (Below.refl _ _) trivial rfl
        unfold av at hK2
        clear hK
        go_simp
        exact hK2
      refine AllSt.cons (o := _) (ds := [10, 11, 9, 6]) rfl (by kernel_rfl) ?_ ?_
      · intro f w1 K HB hd hK
        have h10 : f 43 = av b := hd 10 (by simp)
        have h11 : f 44 = av a := hd 11 (by simp)
        have h9 : f 42 = av (mrg a b) := hd 9 (by simp)
        have h6 : f 39 = .bool true := hd 6 (by simp)
        clear hd
        generalize hF : frF _ _ f = A at hK ⊢
        simp only [List.getElem_toArray, List.getElem_cons_succ, List.getElem_cons_zero] at hK ⊢
        have e10 : A.tmps[43]?.getD undef = f 43 := by rw [← hF]; rfl
        rw [h10] at e10
        have e11 : A.tmps[44]?.getD undef = f 44 := by rw [← hF]; rfl
        rw [h11] at e11
        have e9 : A.tmps[42]?.getD undef = f 42 := by rw [← hF]; rfl
        rw [h9] at e9
        have e6 : A.tmps[39]?.getD undef = f 39 := by rw [← hF]; rfl
        rw [h6] at e6
        clear hF h10 h11 h9 h6
        refine Eq.mpr (if_pos (c := Region.wanted _ _ = true) (wanted_true _ (g := 6) (d := 39) rfl rfl e6)) ?_
        have HN : Hid (w4.heap.size ≤ w1.heap.size) := HB.out.size
        go_simp
        refine (merge_av b a CB.out CA.out _).mono ?_
        rw [EC.out]
        rintro e w2 ⟨rfl, hb2⟩
        have hK2 := hK.out (av (mrg a b)) w2 (hb2.mono HN.out) trivial rfl
        clear hK hb2
        go_simp
        exact hK2
      refine AllSt.cons (o := _) (ds := [9, 12, 6]) rfl (by kernel_rfl) ?_ ?_
      · intro f w1 K HB hd hK
        have h9 : f 42 = av (mrg a b) := hd 9 (by simp)
        have h12 : f 45 = av (mrg a b) := hd 12 (by simp)
        have h6 : f 39 = .bool true := hd 6 (by simp)
        clear hd
        generalize hF : frF _ _ f = A at hK ⊢
        simp only [List.getElem_toArray, List.getElem_cons_succ, List.getElem_cons_zero] at hK ⊢
        have e9 : A.tmps[42]?.getD undef = f 42 := by rw [← hF]; rfl
        rw [h9] at e9
        have e12 : A.tmps[45]?.getD undef = f 45 := by rw [← hF]; rfl
        rw [h12] at e12
        have e6 : A.tmps[39]?.getD undef = f 39 := by rw [← hF]; rfl
        rw [h6] at e6
        clear hF h9 h12 h6
        refine Eq.mpr (if_pos (c := Region.wanted _ _ = true) (wanted_true _ (g := 6) (d := 39) rfl rfl e6)) ?_
        have hK2 := hK.out (.bool true) w1 (Below.refl _ _) trivial rfl
        unfold av at e9
        unfold av at e12
        clear hK
        go_simp
        exact hK2
      refine AllSt.cons (o := _) (ds := [6, 13]) rfl (by kernel_rfl) ?_ ?_
      · intro f w1 K HB hd hK
        have h6 : f 39 = .bool true := hd 6 (by simp)
        have h13 : f 46 = .bool true := hd 13 (by simp)
        clear hd
        generalize hF : frF _ _ f = A at hK ⊢
        simp only [List.getElem_toArray, List.getElem_cons_succ, List.getElem_cons_zero] at hK ⊢
        have e6 : A.tmps[39]?.getD undef = f 39 := by rw [← hF]; rfl
        rw [h6] at e6
        have e13 : A.tmps[46]?.getD undef = f 46 := by rw [← hF]; rfl
        rw [h13] at e13
        clear hF h6 h13
        have hK2 := hK.out (.bool true) w1 (Below.refl _ _) trivial rfl
        clear hK
        go_simp
        exact hK2
      refine AllSt.cons (o := _) (ds := [14, 12]) rfl (by kernel_rfl) ?_ ?_
      · intro f w1 K HB hd hK
        have h14 : f 47 = .bool true := hd 14 (by simp)
        have h12 : f 45 = av (mrg a b) := hd 12 (by simp)
        clear hd
        generalize hF : frF _ _ f = A at hK ⊢
        simp only [List.getElem_toArray, List.getElem_cons_succ, List.getElem_cons_zero] at hK ⊢
        have e14 : A.tmps[47]?.getD undef = f 47 := by rw [← hF]; rfl
        rw [h14] at e14
        have e12 : A.tmps[45]?.getD undef = f 45 := by rw [← hF]; rfl
        rw [h12] at e12
        clear hF h14 h12
        have hK2 := hK.out (.bool true) w1 (Below.refl _ _) trivial rfl
        unfold av at e12
        clear hK
        go_simp
        exact hK2
      refine AllSt.cons (o := _) (ds := [15]) rfl (by kernel_rfl) ?_ ?_
      · intro f w1 K HB hd hK
        have h15 : f 48 = .bool true := hd 15 (by simp)
        clear hd
        generalize hF : frF _ _ f = A at hK ⊢
        simp only [List.getElem_toArray, List.getElem_cons_succ, List.getElem_cons_zero] at hK ⊢
        have e15 : A.tmps[48]?.getD undef = f 48 := by rw [← hF]; rfl
        rw [h15] at e15
        have et : A.tmps[3]?.getD undef = .pointer (some ⟨w.heap.size, 0, none⟩) := by rw [← hF]; rfl
        obtain ⟨j0, j1, j2, j3, j4, j5, j6⟩ := HX4.out.below HB.out
        clear hF h15
        refine Eq.mpr (if_pos (c := Region.wanted _ _ = true) (wanted_true _ (g := 15) (d := 48) rfl rfl e15)) ?_
        have hK2 := hK.out (av a) w1 (Below.refl _ _) trivial rfl
        unfold av at hK2
        clear hK
        go_simp
        exact hK2
      refine AllSt.cons (o := _) (ds := [15]) rfl (by kernel_rfl) ?_ ?_
      · intro f w1 K HB hd hK
        have h15 : f 48 = .bool true := hd 15 (by simp)
        clear hd
        generalize hF : frF _ _ f = A at hK ⊢
        simp only [List.getElem_toArray, List.getElem_cons_succ, List.getElem_cons_zero] at hK ⊢
        have e15 : A.tmps[48]?.getD undef = f 48 := by rw [← hF]; rfl
        rw [h15] at e15
        clear hF h15
        refine Eq.mpr (if_pos (c := Region.wanted _ _ = true) (wanted_true _ (g := 15) (d := 48) rfl rfl e15)) ?_
        have hK2 := hK.out (av az) w1 (Below.refl _ _) trivial rfl
        rw [av_az] at hK2
        clear hK
        go_simp
        exact hK2
      refine AllSt.cons (o := _) (ds := [16, 17, 15, 15]) rfl (by kernel_rfl) ?_ ?_
      · intro f w1 K HB hd hK
        have h16 : f 49 = av a := hd 16 (by simp)
        have h17 : f 50 = av az := hd 17 (by simp)
        have h15 : f 48 = .bool true := hd 15 (by simp)
        clear hd
        generalize hF : frF _ _ f = A at hK ⊢
        simp only [List.getElem_toArray, List.getElem_cons_succ, List.getElem_cons_zero] at hK ⊢
        have e16 : A.tmps[49]?.getD undef = f 49 := by rw [← hF]; rfl
        rw [h16] at e16
        have e17 : A.tmps[50]?.getD undef = f 50 := by rw [← hF]; rfl
        rw [h17] at e17
        have e15 : A.tmps[48]?.getD undef = f 48 := by rw [← hF]; rfl
        rw [h15] at e15
        clear hF h16 h17 h15
        refine Eq.mpr (if_pos (c := Region.wanted _ _ = true) (wanted_true _ (g := 15) (d := 48) rfl rfl e15)) ?_
        have HN : Hid (w4.heap.size ≤ w1.heap.size) := HB.out.size
        go_simp
        refine (merge_av a az CA.out ⟨by decide, by decide⟩ _).mono ?_
        rw [EZ.out]
        rintro e w2 ⟨rfl, hb2⟩
        have hK2 := hK.out (av a) w2 (hb2.mono HN.out) trivial rfl
        clear hK hb2
        go_simp
        exact hK2
      refine AllSt.cons (o := _) (ds := [15]) rfl (by kernel_rfl) ?_ ?_
      · intro f w1 K HB hd hK
        have h15 : f 48 = .bool true := hd 15 (by simp)
        clear hd
        generalize hF : frF _ _ f = A at hK ⊢
        simp only [List.getElem_toArray, List.getElem_cons_succ, List.getElem_cons_zero] at hK ⊢
        have e15 : A.tmps[48]?.getD undef = f 48 := by rw [← hF]; rfl
        rw [h15] at e15
        have et : A.tmps[3]?.getD undef = .pointer (some ⟨w.heap.size, 0, none⟩) := by rw [← hF]; rfl
        obtain ⟨j0, j1, j2, j3, j4, j5, j6⟩ := HX4.out.below HB.out
        clear hF h15
        refine Eq.mpr (if_pos (c := Region.wanted _ _ = true) (wanted_true _ (g := 15) (d := 48) rfl rfl e15)) ?_
        have hK2 := hK.out (av a) w1 (Below.refl _ _) trivial rfl
        unfold av at hK2
        clear hK
        go_simp
        exact hK2
      refine AllSt.cons (o := _) (ds := [18, 19, 15]) rfl (by kernel_rfl) ?_ ?_
      · intro f w1 K HB hd hK
        have h18 : f 51 = av a := hd 18 (by simp)
        have h19 : f 52 = av a := hd 19 (by simp)
        have h15 : f 48 = .bool true := hd 15 (by simp)
        clear hd
        generalize hF : frF _ _ f = A at hK ⊢
        simp only [List.getElem_toArray, List.getElem_cons_succ, List.getElem_cons_zero] at hK ⊢
        have e18 : A.tmps[51]?.getD undef = f 51 := by rw [← hF]; rfl
        rw [h18] at e18
        have e19 : A.tmps[52]?.getD undef = f 52 := by rw [← hF]; rfl
        rw [h19] at e19
        have e15 : A.tmps[48]?.getD undef = f 48 := by rw [← hF]; rfl
        rw [h15] at e15
        clear hF h18 h19 h15
        refine Eq.mpr (if_pos (c := Region.wanted _ _ = true) (wanted_true _ (g := 15) (d := 48) rfl rfl e15)) ?_
        have hK2 := hK.out (.bool true) w1 (Below.refl _ _) trivial rfl
        unfold av at e18
        unfold av at e19
        clear hK
        go_simp
        exact hK2
      refine AllSt.cons (o := _) (ds := [15, 20]) rfl (by kernel_rfl) ?_ ?_
      · intro f w1 K HB hd hK
        have h15 : f 48 = .bool true := hd 15 (by simp)
        have h20 : f 53 = .bool true := hd 20 (by simp)
        clear hd
        generalize hF : frF _ _ f = A at hK ⊢
        simp only [List.getElem_toArray, List.getElem_cons_succ, List.getElem_cons_zero] at hK ⊢
        have e15 : A.tmps[48]?.getD undef = f 48 := by rw [← hF]; rfl
        rw [h15] at e15
        have e20 : A.tmps[53]?.getD undef = f 53 := by rw [← hF]; rfl
        rw [h20] at e20
        clear hF h15 h20
        have hK2 := hK.out (.bool true) w1 (Below.refl _ _) trivial rfl
        clear hK
        go_simp
        exact hK2
      refine AllSt.cons (o := _) (ds := [21, 18]) rfl (by kernel_rfl) ?_ ?_
      · intro f w1 K HB hd hK
        have h21 : f 54 = .bool true := hd 21 (by simp)
        have h18 : f 51 = av a := hd 18 (by simp)
        clear hd
        generalize hF : frF _ _ f = A at hK ⊢
        simp only [List.getElem_toArray, List.getElem_cons_succ, List.getElem_cons_zero] at hK ⊢
        have e21 : A.tmps[54]?.getD undef = f 54 := by rw [← hF]; rfl
        rw [h21] at e21
        have e18 : A.tmps[51]?.getD undef = f 51 := by rw [← hF]; rfl
        rw [h18] at e18
        clear hF h21 h18
        have hK2 := hK.out (.bool true) w1 (Below.refl _ _) trivial rfl
        unfold av at e18
        clear hK
        go_simp
        exact hK2
      refine AllSt.cons (o := _) (ds := [22]) rfl (by kernel_rfl) ?_ ?_
      · intro f w1 K HB hd hK
        have h22 : f 55 = .bool true := hd 22 (by simp)
        clear hd
        generalize hF : frF _ _ f = A at hK ⊢
        simp only [List.getElem_toArray, List.getElem_cons_succ, List.getElem_cons_zero] at hK ⊢
        have e22 : A.tmps[55]?.getD undef = f 55 := by rw [← hF]; rfl
        rw [h22] at e22
        clear hF h22
        refine Eq.mpr (if_pos (c := Region.wanted _ _ = true) (wanted_true _ (g := 22) (d := 55) rfl rfl e22)) ?_
        have hK2 := hK.out (av az) w1 (Below.refl _ _) trivial rfl
        rw [av_az] at hK2
        clear hK
        go_simp
        exact hK2
      refine AllSt.cons (o := _) (ds := [22]) rfl (by kernel_rfl) ?_ ?_
      · intro f w1 K HB hd hK
        have h22 : f 55 = .bool true := hd 22 (by simp)
        clear hd
        generalize hF : frF _ _ f = A at hK ⊢
        simp only [List.getElem_toArray, List.getElem_cons_succ, List.getElem_cons_zero] at hK ⊢
        have e22 : A.tmps[55]?.getD undef = f 55 := by rw [← hF]; rfl
        rw [h22] at e22
        have et : A.tmps[3]?.getD undef = .pointer (some ⟨w.heap.size, 0, none⟩) := by rw [← hF]; rfl
        obtain ⟨j0, j1, j2, j3, j4, j5, j6⟩ := HX4.out.below HB.out
        clear hF h22
        refine Eq.mpr (if_pos (c := Region.wanted _ _ = true) (wanted_true _ (g := 22) (d := 55) rfl rfl e22)) ?_
        have hK2 := hK.out (av a) w1 (Below.refl _ _) trivial rfl
        unfold av at hK2
        clear hK
        go_simp
        exact hK2
      refine AllSt.cons (o := _) (ds := [23, 24, 22, 22]) rfl (by kernel_rfl) ?_ ?_
      · intro f w1 K HB hd hK
        have h23 : f 56 = av az := hd 23 (by simp)
        have h24 : f 57 = av a := hd 24 (by simp)
        have h22 : f 55 = .bool true := hd 22 (by simp)
        clear hd
        generalize hF : frF _ _ f = A at hK ⊢
        simp only [List.getElem_toArray, List.getElem_cons_succ, List.getElem_cons_zero] at hK ⊢
        have e23 : A.tmps[56]?.getD undef = f 56 := by rw [← hF]; rfl
        rw [h23] at e23
        have e24 : A.tmps[57]?.getD undef = f 57 := by rw [← hF]; rfl
        rw [h24] at e24
        have e22 : A.tmps[55]?.getD undef = f 55 := by rw [← hF]; rfl
        rw [h22] at e22
        clear hF h23 h24 h22
        refine Eq.mpr (if_pos (c := Region.wanted _ _ = true) (wanted_true _ (g := 22) (d := 55) rfl rfl e22)) ?_
        have HN : Hid (w4.heap.size ≤ w1.heap.size) := HB.out.size
        go_simp
        refine (merge_av az a ⟨by decide, by decide⟩ CA.out _).mono ?_
        rw [mon_left]
        rintro e w2 ⟨rfl, hb2⟩
        have hK2 := hK.out (av a) w2 (hb2.mono HN.out) trivial rfl
        clear hK hb2
        go_simp
        exact hK2
      refine AllSt.cons (o := _) (ds := [22]) rfl (by kernel_rfl) ?_ ?_
      · intro f w1 K HB hd hK
        have h22 : f 55 = .bool true := hd 22 (by simp)
        clear hd
        generalize hF : frF _ _ f = A at hK ⊢
        simp only [List.getElem_toArray, List.getElem_cons_succ, List.getElem_cons_zero] at hK ⊢
        have e22 : A.tmps[55]?.getD undef = f 55 := by rw [← hF]; rfl
        rw [h22] at e22
        have et : A.tmps[3]?.getD undef = .pointer (some ⟨w.heap.size, 0, none⟩) := by rw [← hF]; rfl
        obtain ⟨j0, j1, j2, j3, j4, j5, j6⟩ := HX4.out.below HB.out
        clear hF h22
        refine Eq.mpr (if_pos (c := Region.wanted _ _ = true) (wanted_true _ (g := 22) (d := 55) rfl rfl e22)) ?_
        have hK2 := hK.out (av a) w1 (Below.refl _ _) trivial rfl
        unfold av at hK2
        clear hK
        go_simp
        exact hK2
      refine AllSt.cons (o := _) (ds := [25, 26, 22]) rfl (by kernel_rfl) ?_ ?_
      · intro f w1 K HB hd hK
        have h25 : f 58 = av a := hd 25 (by simp)
        have h26 : f 59 = av a := hd 26 (by simp)
        have h22 : f 55 = .bool true := hd 22 (by simp)
        clear hd
        generalize hF : frF _ _ f = A at hK ⊢
        simp only [List.getElem_toArray, List.getElem_cons_succ, List.getElem_cons_zero] at hK ⊢
        have e25 : A.tmps[58]?.getD undef = f 58 := by rw [← hF]; rfl
        rw [h25] at e25
        have e26 : A.tmps[59]?.getD undef = f 59 := by rw [← hF]; rfl
        rw [h26] at e26
        have e22 : A.tmps[55]?.getD undef = f 55 := by rw [← hF]; rfl
        rw [h22] at e22
        clear hF h25 h26 h22
        refine Eq.mpr (if_pos (c := Region.wanted _ _ = true) (wanted_true _ (g := 22) (d := 55) rfl rfl e22)) ?_
        have hK2 := hK.out (.bool true) w1 (Below.refl _ _) trivial rfl
        unfold av at e25
        unfold av at e26
        clear hK
        go_simp
        exact hK2
      refine AllSt.cons (o := _) (ds := [22, 27]) rfl (by kernel_rfl) ?_ ?_
      · intro f w1 K HB hd hK
        have h22 : f 55 = .bool true := hd 22 (by simp)
        have h27 : f 60 = .bool true := hd 27 (by simp)
        clear hd
        generalize hF : frF _ _ f = A at hK ⊢
        simp only [List.getElem_toArray, List.getElem_cons_succ, List.getElem_cons_zero] at hK ⊢
        have e22 : A.tmps[55]?.getD undef = f 55 := by rw [← hF]; rfl
        rw [h22] at e22
        have e27 : A.tmps[60]?.getD undef = f 60 := by rw [← hF]; rfl
        rw [h27] at e27
        clear hF h22 h27
        have hK2 := hK.out (.bool true) w1 (Below.refl _ _) trivial rfl
        clear hK
        go_simp
        exact hK2
      refine AllSt.cons (o := _) (ds := [28, 25]) rfl (by kernel_rfl) ?_ ?_
      · intro f w1 K HB hd hK
        have h28 : f 61 = .bool true := hd 28 (by simp)
        have h25 : f 58 = av a := hd 25 (by simp)
        clear hd
        generalize hF : frF _ _ f = A at hK ⊢
        simp only [List.getElem_toArray, List.getElem_cons_succ, List.getElem_cons_zero] at hK ⊢
        have e28 : A.tmps[61]?.getD undef = f 61 := by rw [← hF]; rfl
        rw [h28] at e28
        have e25 : A.tmps[58]?.getD undef = f 58 := by rw [← hF]; rfl
        rw [h25] at e25
        clear hF h28 h25
        have hK2 := hK.out (.bool true) w1 (Below.refl _ _) trivial rfl
        unfold av at e25
        clear hK
        go_simp
        exact hK2
      refine AllSt.cons (o := _) (ds := [29]) rfl (by kernel_rfl) ?_ ?_
      · intro f w1 K HB hd hK
        have h29 : f 62 = .bool true := hd 29 (by simp)
        clear hd
        generalize hF : frF _ _ f = A at hK ⊢
        simp only [List.getElem_toArray, List.getElem_cons_succ, List.getElem_cons_zero] at hK ⊢
        have e29 : A.tmps[62]?.getD undef = f 62 := by rw [← hF]; rfl
        rw [h29] at e29
        have et : A.tmps[7]?.getD undef = .pointer (some ⟨gl, 0, none⟩) := by rw [← hF]; rfl
        obtain ⟨j0, j1, j2, j3, j4, j5, j6⟩ := HL4.out.below HB.out
        clear hF h29
        refine Eq.mpr (if_pos (c := Region.wanted _ _ = true) (wanted_true _ (g := 29) (d := 62) rfl rfl e29)) ?_
        have hK2 := hK.out (av (mrg (mrg a b) c)) w1 (Below.refl _ _) trivial rfl
        unfold av at hK2
        clear hK
        go_simp
        exact hK2
      refine AllSt.cons (o := _) (ds := [30, 29, 29]) rfl (by kernel_rfl) ?_ ?_
      · intro f w1 K HB hd hK
        have h30 : f 63 = av (mrg (mrg a b) c) := hd 30 (by simp)
        have h29 : f 62 = .bool true := hd 29 (by simp)
        clear hd
        generalize hF : frF _ _ f = A at hK ⊢
        simp only [List.getElem_toArray, List.getElem_cons_succ, List.getElem_cons_zero] at hK ⊢
        have e30 : A.tmps[63]?.getD undef = f 63 := by rw [← hF]; rfl
        rw [h30] at e30
        have e29 : A.tmps[62]?.getD undef = f 62 := by rw [← hF]; rfl
        rw [h29] at e29
        clear hF h30 h29
        refine Eq.mpr (if_pos (c := Region.wanted _ _ = true) (wanted_true _ (g := 29) (d := 62) rfl rfl e29)) ?_
        have HN : Hid (w4.heap.size ≤ w1.heap.size) := HB.out.size
        go_simp
        refine (right_av (mrg (mrg a b) c) _).mono ?_
        rw [ER.out]
        rintro e w2 ⟨rfl, hb2⟩
        have hK2 := hK.out (.bool true) w2 (hb2.mono HN.out) trivial rfl
        clear hK hb2
        go_simp
        exact hK2
      refine AllSt.cons (o := _) (ds := [29, 31]) rfl (by kernel_rfl) ?_ ?_
      · intro f w1 K HB hd hK
        have h29 : f 62 = .bool true := hd 29 (by simp)
        have h31 : f 64 = .bool true := hd 31 (by simp)
        clear hd
        generalize hF : frF _ _ f = A at hK ⊢
        simp only [List.getElem_toArray, List.getElem_cons_succ, List.getElem_cons_zero] at hK ⊢
        have e29 : A.tmps[62]?.getD undef = f 62 := by rw [← hF]; rfl
        rw [h29] at e29
        have e31 : A.tmps[64]?.getD undef = f 64 := by rw [← hF]; rfl
        rw [h31] at e31
        clear hF h29 h31
        have hK2 := hK.out (.bool true) w1 (Below.refl _ _) trivial rfl
        clear hK
        go_simp
        exact hK2
      refine AllSt.cons (o := _) (ds := [32, 31, 0, 1, 2, 3, 4, 5, 6, 7, 8, 9, 10, 11, 12, 13, 14, 15, 16, 17, 18, 19, 20, 21, 22, 23, 24, 25, 26, 27, 28, 29, 30, 31, 32]) rfl (by kernel_rfl) ?_ ?_
      · intro f w1 K HB hd hK
        have h32 : f 65 = .bool true := hd 32 (by simp)
        clear hd
        generalize hF : frF _ _ f = A at hK ⊢
        simp only [List.getElem_toArray, List.getElem_cons_succ, List.getElem_cons_zero] at hK ⊢
        have e32 : A.tmps[65]?.getD undef = f 65 := by rw [← hF]; rfl
        rw [h32] at e32
        clear hF h32
        have hK2 := hK.out (.bool true) w1 (Below.refl _ _) trivial rfl
        clear hK
        go_simp
        exact hK2
      exact AllSt.nil
theorem monWalk (a b c : Ag) (w : World) (ka : AgOk a) (kb : AgOk b) (kc : AgOk c) :
    Calls Try.prog 4 #[.agg #[.int .u64 a.c, .bool a.o, .int .i64 (hi a.s), .int .u64 (lo a.s), .int .i64 a.mn, .int .i64 a.mx], .agg #[.int .u64 b.c, .bool b.o, .int .i64 (hi b.s), .int .u64 (lo b.s), .int .i64 b.mn, .int .i64 b.mx], .agg #[.int .u64 c.c, .bool c.o, .int .i64 (hi c.s), .int .u64 (lo c.s), .int .i64 c.mn, .int .i64 c.mx]] w fun e w' => e = .returned (.bool true) ∧ Below w.heap.size w w' := by
  cases ha : rightB a
  · exact mon_no a b c (.inl ha) w
  · cases hb : rightB b
    · exact mon_no a b c (.inr ⟨ha, .inl hb⟩) w
    · cases hc : rightB c
      · exact mon_no a b c (.inr ⟨ha, .inr ⟨hb, hc⟩⟩) w
      · exact mon_yes a b c ha hb hc ka kb kc w
end Go.Proofs.Yticooiibjpgfmaa
