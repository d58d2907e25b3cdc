/- The contract of the reference's Cmp. -/
import Derived.Test.YtmojijjgbefljaaXD1
import Derived.Test.YtmojijjgbefljaaRI3
import Derived.BigQuiet
import Derived.Deep.QuietTactic
namespace Go.Proofs.Ytmojijjgbefljaa
open Go.RowKit

/-- A box of a number. -/
def NBox (x : Int) (b : Nat) (w : World) : Prop := b < w.heap.size ∧ w.cell? ⟨b, 0, none⟩ = some (.int .i64 (hi x)) ∧ w.cell? ⟨b, 1, none⟩ = some (.int .u64 (lo x))
theorem NBox.below {x : Int} {b : Nat} {w1 w2 : World} (h : NBox x b w1) (hb : Below w1.heap.size w1 w2) : NBox x b w2 := by
  obtain ⟨h0, h1, h2⟩ := h
  have := hb.size
  exact ⟨by omega, (hb.cell (p := ⟨b, 0, none⟩) h0).trans h1, (hb.cell (p := ⟨b, 1, none⟩) h0).trans h2⟩
theorem bel_dN {n : Nat} {w1 w2 : World} (h : Below n w1 w2) (k : Nat) : Below n w1 (w2.drewN k) := h.trans ⟨rfl, rfl, rfl, Nat.le_refl _, fun _ _ => rfl⟩
theorem dig_bd (n : Int) (i : Nat) : 0 ≤ dig n i ∧ dig n i ≤ 255 := by unfold dig; omega
theorem dF_bd (x : Int) (j : Nat) : 0 ≤ dF x j ∧ dF x j ≤ 255 := by unfold dF; split <;> exact dig_bd _ _
/-- What each operation of its second region yields. -/
def cV (gx gy : Nat) (x y : Int) : Nat → Value → World → Prop
  | 0, v, _ => v = .pointer (some ⟨gx, 15, none⟩)
  | 1, v, _ => v = .int .i64 (dF x 15)
  | 2, v, _ => v = .int .i64 (dF x 15 + 128)
  | 3, v, _ => v = .int .i64 ((dF x 15 + 128) % 256)
  | 4, v, _ => v = .pointer (some ⟨gy, 15, none⟩)
  | 5, v, _ => v = .int .i64 (dF y 15)
  | 6, v, _ => v = .int .i64 (dF y 15 + 128)
  | 7, v, _ => v = .int .i64 ((dF y 15 + 128) % 256)
  | 8, v, _ => v = .pointer (some ⟨gx, 15, none⟩)
  | 9, _, w => DArr w gx (XD x)
  | 10, v, _ => v = .pointer (some ⟨gy, 15, none⟩)
  | 11, _, w => DArr w gy (XD y)
  | _, _, _ => True
def cU (gx gy : Nat) (x y : Int) : Nat → World → Prop
  | 1, w => DArr w gx (dF x)
  | 5, w => DArr w gy (dF y)
  | 9, w => DArr w gx (dF x)
  | 11, w => DArr w gy (dF y)
  | _, _ => True
theorem cU.mk {gx gy : Nat} {x y : Int} {w : World} (h1 : DArr w gx (dF x)) (h2 : DArr w gy (dF y)) (j : Nat) : cU gx gy x y j w := by
  unfold cU; split <;> first | exact h1 | exact h2 | trivial
theorem cU.step {gx gy : Nat} {x y : Int} {w W : World} {j : Nat} (h1 : j = 1 ∨ j = 9 → DArr w gx (dF x) → DArr W gx (dF x)) (h2 : j = 5 ∨ j = 11 → DArr w gy (dF y) → DArr W gy (dF y)) (h : cU gx gy x y j w) : cU gx gy x y j W := by
  unfold cU at h ⊢
  split at h
  · exact h1 (.inl rfl) h
  · exact h2 (.inl rfl) h
  · exact h1 (.inr rfl) h
  · exact h2 (.inr rfl) h
  · trivial
theorem cV.step {gx gy : Nat} {x y : Int} {w W : World} {j : Nat} {v : Value} (h1 : DArr w gx (XD x) → DArr W gx (XD x)) (h2 : DArr w gy (XD y) → DArr W gy (XD y)) (h : cV gx gy x y j v w) : cV gx gy x y j v W := by
  unfold cV at h ⊢
  split at h <;> first | exact h | exact h1 h | exact h2 h
theorem top_set {w : World} {g : Nat} {x : Int} (x1 : -170141183460469231731687303715884105728 ≤ x) (x2 : x < 170141183460469231731687303715884105728) (h : DArr w g (dF x)) : DArr (w.setCell ⟨g, 15, none⟩ (.int .i64 ((dF x 15 + 128) % 256))) g (XD x) :=
  (h.set 15 (by decide) _).congr fun j hj => (XD_of x1 x2 j hj).symm

set_option maxRecDepth 100000 in
set_option maxHeartbeats 300000 in
theorem refCmp_any (x y : Int) (x1 : -170141183460469231731687303715884105728 ≤ x) (x2 : x < 170141183460469231731687303715884105728) (y1 : -170141183460469231731687303715884105728 ≤ y) (y2 : y < 170141183460469231731687303715884105728) (w : World) :
    Calls Try.prog 8 #[.agg #[.int .i64 (hi x), .int .u64 (lo x)], .agg #[.int .i64 (hi y), .int .u64 (lo y)]] w fun e w' => e = .returned (.int .i64 (sgn x y)) ∧ Below w.heap.size w w' := by
  have X1 : Hid _ := x1
  have X2 : Hid _ := x2
  have Y1 : Hid _ := y1
  have Y2 : Hid _ := y2
  clear x1 x2 y1 y2
  go_enter Try.func8, Try.ntmps8
  go_wp2_with fail
  have HB0 : Hid (Below w.heap.size w ((w.alloc (.cells #[.int .i64 (hi x), .int .u64 (lo x)] 24)).alloc (.cells #[.int .i64 (hi y), .int .u64 (lo y)] 24))) := ((Below.refl _ _).alloc (by simp) _).alloc (by simp) _
  have HX0 : Hid (NBox x w.heap.size ((w.alloc (.cells #[.int .i64 (hi x), .int .u64 (lo x)] 24)).alloc (.cells #[.int .i64 (hi y), .int .u64 (lo y)] 24))) := ⟨by simp; omega, by simp [go_sem, World.cell?_alloc_past], by simp [go_sem, World.cell?_alloc_past]⟩
  have HY0 : Hid (NBox y (w.heap.size + 1) ((w.alloc (.cells #[.int .i64 (hi x), .int .u64 (lo x)] 24)).alloc (.cells #[.int .i64 (hi y), .int .u64 (lo y)] 24))) := ⟨by simp, by simp [go_sem], by simp [go_sem]⟩
  generalize (w.alloc (.cells #[.int .i64 (hi x), .int .u64 (lo x)] 24)).alloc (.cells #[.int .i64 (hi y), .int .u64 (lo y)] 24) = w0 at *
  refine region_inv2 (by kernel_rfl) [8, 9, 10, 11, 5, 6] [4, 5] (dV x y w0.heap.size) (fun j o ho g g' w' hj hd hv => dV.loc hj (fun e => ?l6) (fun e => ?l7) hv) (fun j hj g w' h => dV.box hj h) (by kernel_rfl) (by kernel_rfl) ?steps ?done
  case l6 =>
    subst e
    obtain rfl := Option.some.inj ho
    exact hd 4 (of_decide_eq_true (by kernel_rfl))
  case l7 =>
    subst e
    obtain rfl := Option.some.inj ho
    exact hd 5 (of_decide_eq_true (by kernel_rfl))
  case steps =>
    show AllS2 _ _ _ _ _ _ _ _ [0, 1, 2, 3, 4, 5, 6, 7]
    refine AllS2.cons (o := _) (ds := []) rfl (by kernel_rfl) ?_ ?_
    · intro f w1 K HB hd hA hK
      clear hd hA
      generalize hF : frF _ _ f = A at hK ⊢
      simp only [List.getElem_toArray, List.getElem_cons_zero] at hK ⊢
      have e2 : A.tmps[2]?.getD undef = .pointer (some ⟨w.heap.size, 0, none⟩) := by rw [← hF]; rfl
      clear hF
      obtain ⟨j0, j1, j2⟩ := HX0.out.below HB.out
      have hK2 := hK.out (wv x) w1 (Below.refl _ _) (fun _ h => h) (fun g' h _ => h) (fun h => absurd h (by decide))
      unfold wv at hK2
      clear hK
      go_simp
      exact hK2
    refine AllS2.cons (o := _) (ds := [0]) rfl (by kernel_rfl) ?_ ?_
    · intro f w1 K HB hd hA hK
      have hx : f 8 = wv x := hd 0 (by simp)
      clear hd hA
      generalize hF : frF _ _ f = A at hK ⊢
      simp only [List.getElem_toArray, List.getElem_cons_succ, List.getElem_cons_zero] at hK ⊢
      have ex : A.tmps[8]?.getD undef = f 8 := by rw [← hF]; rfl
      rw [hx] at ex
      clear hF hx
      have HN : Hid (w0.heap.size ≤ w1.heap.size) := HB.out.size
      go_simp
      refine (digits_dv x _).mono ?_
      rintro e w2 ⟨rfl, hb2⟩
      have hK2 := hK.out (dv x) w2 (hb2.mono HN.out) (fun _ h => dV.below hb2 h) (fun g' h _ => h) (fun h => absurd h (by decide))
      clear hK hb2
      go_simp
      exact hK2
    refine AllS2.cons (o := _) (ds := []) rfl (by kernel_rfl) ?_ ?_
    · intro f w1 K HB hd hA hK
      clear hd hA
      generalize hF : frF _ _ f = A at hK ⊢
      simp only [List.getElem_toArray, List.getElem_cons_succ, List.getElem_cons_zero] at hK ⊢
      have e3 : A.tmps[3]?.getD undef = .pointer (some ⟨(w.heap.size + 1), 0, none⟩) := by rw [← hF]; rfl
      clear hF
      obtain ⟨j0, j1, j2⟩ := HY0.out.below HB.out
      have hK2 := hK.out (wv y) w1 (Below.refl _ _) (fun _ h => h) (fun g' h _ => h) (fun h => absurd h (by decide))
      unfold wv at hK2
      clear hK
      go_simp
      exact hK2
    refine AllS2.cons (o := _) (ds := [2, 1]) rfl (by kernel_rfl) ?_ ?_
    · intro f w1 K HB hd hA hK
      have hx : f 10 = wv y := hd 2 (by simp)
      clear hd hA
      generalize hF : frF _ _ f = A at hK ⊢
      simp only [List.getElem_toArray, List.getElem_cons_succ, List.getElem_cons_zero] at hK ⊢
      have ex : A.tmps[10]?.getD undef = f 10 := by rw [← hF]; rfl
      rw [hx] at ex
      clear hF hx
      have HN : Hid (w0.heap.size ≤ w1.heap.size) := HB.out.size
      go_simp
      refine (digits_dv y _).mono ?_
      rintro e w2 ⟨rfl, hb2⟩
      have hK2 := hK.out (dv y) w2 (hb2.mono HN.out) (fun _ h => dV.below hb2 h) (fun g' h _ => h) (fun h => absurd h (by decide))
      clear hK hb2
      go_simp
      exact hK2
    refine AllS2.cons (o := _) (ds := []) rfl (by kernel_rfl) ?_ ?_
    · intro f w1 K HB hd hA hK
      clear hd hA
      generalize hF : frF _ _ f = A at hK ⊢
      simp only [List.getElem_toArray, List.getElem_cons_succ, List.getElem_cons_zero] at hK ⊢
      clear hF
      have hn : w0.heap.size ≤ w1.heap.size := HB.out.size
      have hb2 := (Below.refl w1.heap.size w1).alloc (Nat.le_refl _) (.cells #[.int .i64 0, .int .i64 0, .int .i64 0, .int .i64 0, .int .i64 0, .int .i64 0, .int .i64 0, .int .i64 0, .int .i64 0, .int .i64 0, .int .i64 0, .int .i64 0, .int .i64 0, .int .i64 0, .int .i64 0, .int .i64 0] 42)
      have hK2 := hK.out (.pointer (some ⟨w1.heap.size, 0, none⟩)) _ (hb2.mono hn) (fun _ h => dV.below hb2 h) (fun g' h _ => ⟨w1.heap.size, h, hn, by simp, _, _, heap_alloc_new _ _, rfl⟩) (fun _ => rfl)
      clear hK hb2
      go_simp
      exact hK2
    refine AllS2.cons (o := _) (ds := []) rfl (by kernel_rfl) ?_ ?_
    · intro f w1 K HB hd hA hK
      clear hd hA
      generalize hF : frF _ _ f = A at hK ⊢
      simp only [List.getElem_toArray, List.getElem_cons_succ, List.getElem_cons_zero] at hK ⊢
      clear hF
      have hn : w0.heap.size ≤ w1.heap.size := HB.out.size
      have hb2 := (Below.refl w1.heap.size w1).alloc (Nat.le_refl _) (.cells #[.int .i64 0, .int .i64 0, .int .i64 0, .int .i64 0, .int .i64 0, .int .i64 0, .int .i64 0, .int .i64 0, .int .i64 0, .int .i64 0, .int .i64 0, .int .i64 0, .int .i64 0, .int .i64 0, .int .i64 0, .int .i64 0] 42)
      have hK2 := hK.out (.pointer (some ⟨w1.heap.size, 0, none⟩)) _ (hb2.mono hn) (fun _ h => dV.below hb2 h) (fun g' h _ => ⟨w1.heap.size, h, hn, by simp, _, _, heap_alloc_new _ _, rfl⟩) (fun _ => rfl)
      clear hK hb2
      go_simp
      exact hK2
    refine AllS2.cons (o := _) (ds := [4, 1, 3, 0, 1, 4, 5]) rfl (by kernel_rfl) ?_ ?_
    · intro f w1 K HB hd hA hK
      have hx : Bd w0.heap.size (f 5) w1 := hd 4 (by simp)
      have hv : f 9 = dv x := hd 1 (by simp)
      have hne : f 6 ≠ f 5 := hA.out 5 (by simp) 4 (by simp) (by simp) (by simp) (by decide)
      clear hd hA
      obtain ⟨g, hg, hn, hgs, cs, T, hh, hcs⟩ := hx
      generalize hF : frF _ _ f = A at hK ⊢
      simp only [List.getElem_toArray, List.getElem_cons_succ, List.getElem_cons_zero] at hK ⊢
      have ex : A.tmps[5]?.getD undef = f 5 := by rw [← hF]; rfl
      have ey : A.tmps[9]?.getD undef = f 9 := by rw [← hF]; rfl
      rw [hg] at ex
      rw [hv] at ey
      clear hF hv
      refine Eq.mpr (if_pos (c := Region.wanted _ _ = true) rfl) ?_
      refine wp_storeN _ _ _ rfl g 0 (dvL x) (by simpa [go_sem] using ex) (by unfold dv at ey; simpa [go_sem] using ey) cs T hh (by rw [dvL_len, hcs]; decide) (by rw [dvL_len]; kernel_rfl) (by kernel_rfl) (fun W hW => ?_)
      have hF2 := Fd.mk (x := x) hn hgs hW
      refine hK.out undef W (hW.b _ hn) (fun j h => dV.store hW hcs (fun h1 => ?_) (fun h1 => ?_) h) (fun g' _ h2 => ?_) (fun h => absurd h (by decide))
      · show Fd _ _ (f 5) W; rw [hg]; exact hF2
      · exact Fd.store (v := f 6) h1 (by rw [← hg]; exact hne) hW
      · have h3 : g' 4 = f 5 := h2 4 (by simp)
        show Fd _ _ (g' 4) W
        rw [h3, hg]; exact hF2
    refine AllS2.cons (o := _) (ds := [5, 3, 6, 0, 1, 2, 3, 4, 5, 6]) rfl (by kernel_rfl) ?_ ?_
    · intro f w1 K HB hd hA hK
      have hx : Bd w0.heap.size (f 6) w1 := hd 5 (by simp)
      have hv : f 11 = dv y := hd 3 (by simp)
      have hne : f 5 ≠ f 6 := hA.out 4 (by simp) 5 (by simp) (by simp) (by simp) (by decide)
      clear hd hA
      obtain ⟨g, hg, hn, hgs, cs, T, hh, hcs⟩ := hx
      generalize hF : frF _ _ f = A at hK ⊢
      simp only [List.getElem_toArray, List.getElem_cons_succ, List.getElem_cons_zero] at hK ⊢
      have ex : A.tmps[6]?.getD undef = f 6 := by rw [← hF]; rfl
      have ey : A.tmps[11]?.getD undef = f 11 := by rw [← hF]; rfl
      rw [hg] at ex
      rw [hv] at ey
      clear hF hv
      refine Eq.mpr (if_pos (c := Region.wanted _ _ = true) rfl) ?_
      refine wp_storeN _ _ _ rfl g 0 (dvL y) (by simpa [go_sem] using ex) (by unfold dv at ey; simpa [go_sem] using ey) cs T hh (by rw [dvL_len, hcs]; decide) (by rw [dvL_len]; kernel_rfl) (by kernel_rfl) (fun W hW => ?_)
      have hF2 := Fd.mk (x := y) hn hgs hW
      refine hK.out undef W (hW.b _ hn) (fun j h => dV.store hW hcs (fun h1 => ?_) (fun h1 => ?_) h) (fun g' _ h2 => ?_) (fun h => absurd h (by decide))
      · exact Fd.store (v := f 5) h1 (by rw [← hg]; exact hne) hW
      · show Fd _ _ (f 6) W; rw [hg]; exact hF2
      · have h3 : g' 5 = f 6 := h2 5 (by simp)
        show Fd _ _ (g' 5) W
        rw [h3, hg]; exact hF2
    exact AllS2.nil
  case done =>
    intro f w1 hB hd hap
    have h6 : Fd w0.heap.size x (f 5) w1 := hd 6 (by decide)
    have h7 : Fd w0.heap.size y (f 6) w1 := hd 7 (by decide)
    have hne : f 5 ≠ f 6 := hap 4 (by simp) 5 (by simp) (by decide) (by decide) (by decide)
    obtain ⟨gx, hgx, nx, dx⟩ := h6
    obtain ⟨gy, hgy, ny, dy⟩ := h7
    have hxy : gx ≠ gy := fun e => hne (by rw [hgx, hgy, e])
    have HB1 : Hid (Below w.heap.size w w1) := HB0.out.trans (hB.mono HB0.out.size)
    have DX : Hid (DArr w1 gx (dF x)) := dx
    have DY : Hid (DArr w1 gy (dF y)) := dy
    have NX : Hid (w.heap.size ≤ gx) := Nat.le_trans HB0.out.size nx
    have NY : Hid (w.heap.size ≤ gy) := Nat.le_trans HB0.out.size ny
    have NE : Hid (gx ≠ gy) := hxy
    clear hd hap hB dx dy nx ny hne hxy
    simp only [frF, tmOf, List.contains_cons, List.contains_nil, Nat.reduceAdd, Nat.zero_add, Nat.reduceBEq, Bool.or_false, Bool.false_or, cond_true, cond_false]
    rw [hgx, hgy]
    clear hgx hgy HX0 HY0 HB0
    generalize f 8 = f8, f 9 = f9, f 10 = f10, f 11 = f11
    clear f w0
    go_wp2_with fail
    refine region_inv3 (by kernel_rfl) [12, 13, 14, 15, 16, 17, 18, 19, 20, 21] w.heap.size (cV gx gy x y) (cU gx gy x y) (cU.mk DX.out DY.out) HB1.out.size (by kernel_rfl) (by kernel_rfl) ?steps2 ?done2
    case steps2 =>
      show AllS3 _ _ _ _ _ _ _ _ _ [0, 1, 2, 3, 4, 5, 6, 7, 8, 9, 10, 11]
      refine AllS3.cons (o := _) (ds := []) rfl (by kernel_rfl) ?_ ?_
      · intro f w2 K HB HU hd hK
        clear hd
        generalize hF : frF _ _ f = A at hK ⊢
        simp only [List.getElem_toArray, List.getElem_cons_zero] at hK ⊢
        have et : A.tmps[5]?.getD undef = .pointer (some ⟨gx, 0, none⟩) := by rw [← hF]; rfl
        clear hF 
        have hK2 := hK.out (.pointer (some ⟨gx, 15, none⟩)) w2 (Below.refl _ _) (fun _ _ h => h) (fun _ _ _ h => h) rfl
        clear hK
        go_simp
        exact hK2
      refine AllS3.cons (o := _) (ds := [0]) rfl (by kernel_rfl) ?_ ?_
      · intro f w2 K HB HU hd hK
        have h0 : f 12 = .pointer (some ⟨gx, 15, none⟩) := hd 0 (by simp)
        clear hd
        generalize hF : frF _ _ f = A at hK ⊢
        simp only [List.getElem_toArray, List.getElem_cons_succ, List.getElem_cons_zero] at hK ⊢
        have e0 : A.tmps[12]?.getD undef = f 12 := by rw [← hF]; rfl
        rw [h0] at e0
        clear hF h0
        have c1 : w2.cell? ⟨gx, 15, none⟩ = some (.int .i64 (dF x 15)) := HU.out.2.1 15 (by decide)
        have hK2 := hK.out (.int .i64 (dF x 15)) w2 (Below.refl _ _) (fun _ _ h => h) (fun _ _ _ h => h) rfl
        clear hK
        go_simp
        exact hK2
      refine AllS3.cons (o := _) (ds := [1]) rfl (by kernel_rfl) ?_ ?_
      · intro f w2 K HB HU hd hK
        have h1 : f 13 = .int .i64 (dF x 15) := hd 1 (by simp)
        clear hd
        generalize hF : frF _ _ f = A at hK ⊢
        simp only [List.getElem_toArray, List.getElem_cons_succ, List.getElem_cons_zero] at hK ⊢
        have e1 : A.tmps[13]?.getD undef = f 13 := by rw [← hF]; rfl
        rw [h1] at e1
        clear hF h1
        obtain ⟨d0, d1⟩ := dF_bd x 15
        have t1 : Int.tmod (dF x 15 + 128) 256 = (dF x 15 + 128) % 256 := Int.tmod_eq_emod_of_nonneg (by omega)
        have t2 : IntKind.i64.wrap (dF x 15 + 128) = dF x 15 + 128 := by rw [IntKind.wrap_i64]; omega
        have hK2 := hK.out (.int .i64 (dF x 15 + 128)) w2 (Below.refl _ _) (fun _ _ h => h) (fun _ _ _ h => h) rfl
        clear hK
        go_simp
        exact hK2
      refine AllS3.cons (o := _) (ds := [2]) rfl (by kernel_rfl) ?_ ?_
      · intro f w2 K HB HU hd hK
        have h2 : f 14 = .int .i64 (dF x 15 + 128) := hd 2 (by simp)
        clear hd
        generalize hF : frF _ _ f = A at hK ⊢
        simp only [List.getElem_toArray, List.getElem_cons_succ, List.getElem_cons_zero] at hK ⊢
        have e2 : A.tmps[14]?.getD undef = f 14 := by rw [← hF]; rfl
        rw [h2] at e2
        clear hF h2
        obtain ⟨d0, d1⟩ := dF_bd x 15
        have t1 : Int.tmod (dF x 15 + 128) 256 = (dF x 15 + 128) % 256 := Int.tmod_eq_emod_of_nonneg (by omega)
        have t2 : IntKind.i64.wrap (dF x 15 + 128) = dF x 15 + 128 := by rw [IntKind.wrap_i64]; omega
        have hK2 := hK.out (.int .i64 ((dF x 15 + 128) % 256)) w2 (Below.refl _ _) (fun _ _ h => h) (fun _ _ _ h => h) rfl
        clear hK
        go_simp
        exact hK2
      refine AllS3.cons (o := _) (ds := []) rfl (by kernel_rfl) ?_ ?_
      · intro f w2 K HB HU hd hK
        clear hd
        generalize hF : frF _ _ f = A at hK ⊢
        simp only [List.getElem_toArray, List.getElem_cons_succ, List.getElem_cons_zero] at hK ⊢
        have et : A.tmps[6]?.getD undef = .pointer (some ⟨gy, 0, none⟩) := by rw [← hF]; rfl
        clear hF 
        have hK2 := hK.out (.pointer (some ⟨gy, 15, none⟩)) w2 (Below.refl _ _) (fun _ _ h => h) (fun _ _ _ h => h) rfl
        clear hK
        go_simp
        exact hK2
      refine AllS3.cons (o := _) (ds := [4]) rfl (by kernel_rfl) ?_ ?_
      · intro f w2 K HB HU hd hK
        have h4 : f 16 = .pointer (some ⟨gy, 15, none⟩) := hd 4 (by simp)
        clear hd
        generalize hF : frF _ _ f = A at hK ⊢
        simp only [List.getElem_toArray, List.getElem_cons_succ, List.getElem_cons_zero] at hK ⊢
        have e4 : A.tmps[16]?.getD undef = f 16 := by rw [← hF]; rfl
        rw [h4] at e4
        clear hF h4
        have c1 : w2.cell? ⟨gy, 15, none⟩ = some (.int .i64 (dF y 15)) := HU.out.2.1 15 (by decide)
        have hK2 := hK.out (.int .i64 (dF y 15)) w2 (Below.refl _ _) (fun _ _ h => h) (fun _ _ _ h => h) rfl
        clear hK
        go_simp
        exact hK2
      refine AllS3.cons (o := _) (ds := [5]) rfl (by kernel_rfl) ?_ ?_
      · intro f w2 K HB HU hd hK
        have h5 : f 17 = .int .i64 (dF y 15) := hd 5 (by simp)
        clear hd
        generalize hF : frF _ _ f = A at hK ⊢
        simp only [List.getElem_toArray, List.getElem_cons_succ, List.getElem_cons_zero] at hK ⊢
        have e5 : A.tmps[17]?.getD undef = f 17 := by rw [← hF]; rfl
        rw [h5] at e5
        clear hF h5
        obtain ⟨d0, d1⟩ := dF_bd y 15
        have t1 : Int.tmod (dF y 15 + 128) 256 = (dF y 15 + 128) % 256 := Int.tmod_eq_emod_of_nonneg (by omega)
        have t2 : IntKind.i64.wrap (dF y 15 + 128) = dF y 15 + 128 := by rw [IntKind.wrap_i64]; omega
        have hK2 := hK.out (.int .i64 (dF y 15 + 128)) w2 (Below.refl _ _) (fun _ _ h => h) (fun _ _ _ h => h) rfl
        clear hK
        go_simp
        exact hK2
      refine AllS3.cons (o := _) (ds := [6]) rfl (by kernel_rfl) ?_ ?_
      · intro f w2 K HB HU hd hK
        have h6 : f 18 = .int .i64 (dF y 15 + 128) := hd 6 (by simp)
        clear hd
        generalize hF : frF _ _ f = A at hK ⊢
        simp only [List.getElem_toArray, List.getElem_cons_succ, List.getElem_cons_zero] at hK ⊢
        have e6 : A.tmps[18]?.getD undef = f 18 := by rw [← hF]; rfl
        rw [h6] at e6
        clear hF h6
        obtain ⟨d0, d1⟩ := dF_bd y 15
        have t1 : Int.tmod (dF y 15 + 128) 256 = (dF y 15 + 128) % 256 := Int.tmod_eq_emod_of_nonneg (by omega)
        have t2 : IntKind.i64.wrap (dF y 15 + 128) = dF y 15 + 128 := by rw [IntKind.wrap_i64]; omega
        have hK2 := hK.out (.int .i64 ((dF y 15 + 128) % 256)) w2 (Below.refl _ _) (fun _ _ h => h) (fun _ _ _ h => h) rfl
        clear hK
        go_simp
        exact hK2
      refine AllS3.cons (o := _) (ds := [0, 1, 2, 3]) rfl (by kernel_rfl) ?_ ?_
      · intro f w2 K HB HU hd hK
        clear hd
        generalize hF : frF _ _ f = A at hK ⊢
        simp only [List.getElem_toArray, List.getElem_cons_succ, List.getElem_cons_zero] at hK ⊢
        have et : A.tmps[5]?.getD undef = .pointer (some ⟨gx, 0, none⟩) := by rw [← hF]; rfl
        clear hF 
        have hK2 := hK.out (.pointer (some ⟨gx, 15, none⟩)) w2 (Below.refl _ _) (fun _ _ h => h) (fun _ _ _ h => h) rfl
        clear hK
        go_simp
        exact hK2
      refine AllS3.cons (o := _) (ds := [8, 3, 0, 1, 2, 3]) rfl (by kernel_rfl) ?_ ?_
      · intro f w2 K HB HU hd hK
        have h8 : f 20 = .pointer (some ⟨gx, 15, none⟩) := hd 8 (by simp)
        have h3 : f 15 = .int .i64 ((dF x 15 + 128) % 256) := hd 3 (by simp)
        clear hd
        generalize hF : frF _ _ f = A at hK ⊢
        simp only [List.getElem_toArray, List.getElem_cons_succ, List.getElem_cons_zero] at hK ⊢
        have e8 : A.tmps[20]?.getD undef = f 20 := by rw [← hF]; rfl
        rw [h8] at e8
        have e3 : A.tmps[15]?.getD undef = f 15 := by rw [← hF]; rfl
        rw [h3] at e3
        clear hF h8 h3
        have hU : DArr w2 gx (dF x) := HU.out
        have c1 : w2.cell? ⟨gx, 15, none⟩ = some (.int .i64 (dF x 15)) := hU.2.1 15 (by decide)
        have f1 := hU.2.2 15
        have hT := top_set X1.out X2.out hU
        have hK2 := hK.out undef _ ((Below.refl _ _).setCell (p := ⟨gx, 15, none⟩) NX.out (.int .i64 ((dF x 15 + 128) % 256))) (fun _ _ h => cV.step (fun _ => hT) (fun h => h.far NE.out) h) (fun k hk hki h => cU.step (fun e h => (by exfalso; rcases e with rfl | rfl <;> simp at hk hki)) (fun e h => h.far NE.out) h) hT
        clear hK hU hT
        go_simp
        exact hK2
      refine AllS3.cons (o := _) (ds := [0, 1, 2, 3, 4, 5, 6, 7, 8, 9]) rfl (by kernel_rfl) ?_ ?_
      · intro f w2 K HB HU hd hK
        clear hd
        generalize hF : frF _ _ f = A at hK ⊢
        simp only [List.getElem_toArray, List.getElem_cons_succ, List.getElem_cons_zero] at hK ⊢
        have et : A.tmps[6]?.getD undef = .pointer (some ⟨gy, 0, none⟩) := by rw [← hF]; rfl
        clear hF 
        have hK2 := hK.out (.pointer (some ⟨gy, 15, none⟩)) w2 (Below.refl _ _) (fun _ _ h => h) (fun _ _ _ h => h) rfl
        clear hK
        go_simp
        exact hK2
      refine AllS3.cons (o := _) (ds := [10, 7, 9, 0, 1, 2, 3, 4, 5, 6, 7, 8, 9]) rfl (by kernel_rfl) ?_ ?_
      · intro f w2 K HB HU hd hK
        have h10 : f 21 = .pointer (some ⟨gy, 15, none⟩) := hd 10 (by simp)
        have h7 : f 19 = .int .i64 ((dF y 15 + 128) % 256) := hd 7 (by simp)
        clear hd
        generalize hF : frF _ _ f = A at hK ⊢
        simp only [List.getElem_toArray, List.getElem_cons_succ, List.getElem_cons_zero] at hK ⊢
        have e10 : A.tmps[21]?.getD undef = f 21 := by rw [← hF]; rfl
        rw [h10] at e10
        have e7 : A.tmps[19]?.getD undef = f 19 := by rw [← hF]; rfl
        rw [h7] at e7
        clear hF h10 h7
        have hU : DArr w2 gy (dF y) := HU.out
        have c1 : w2.cell? ⟨gy, 15, none⟩ = some (.int .i64 (dF y 15)) := hU.2.1 15 (by decide)
        have f1 := hU.2.2 15
        have hT := top_set Y1.out Y2.out hU
        have hK2 := hK.out undef _ ((Below.refl _ _).setCell (p := ⟨gy, 15, none⟩) NY.out (.int .i64 ((dF y 15 + 128) % 256))) (fun _ _ h => cV.step (fun h => h.far NE.out.symm) (fun _ => hT) h) (fun k hk hki h => cU.step (fun e h => h.far NE.out.symm) (fun e h => (by exfalso; rcases e with rfl | rfl <;> simp at hk hki)) h) hT
        clear hK hU hT
        go_simp
        exact hK2
      exact AllS3.nil
    case done2 =>
      intro f w2 hB hd
      have dx : DArr w2 gx (XD x) := hd 9 (by decide)
      have dy : DArr w2 gy (XD y) := hd 11 (by decide)
      have HB2 : Hid (Below w.heap.size w w2) := HB1.out.trans hB
      have DX2 : Hid (DArr w2 gx (XD x)) := dx
      have DY2 : Hid (DArr w2 gy (XD y)) := dy
      clear hd hB dx dy DX DY
      simp only [frF, tmOf, List.contains_cons, List.contains_nil, Nat.reduceAdd, Nat.zero_add, Nat.reduceBEq, Bool.or_false, Bool.false_or, cond_true, cond_false]
      generalize f 12 = f12, f 13 = f13, f 14 = f14, f 15 = f15, f 16 = f16, f 17 = f17, f 18 = f18, f 19 = f19, f 20 = f20, f 21 = f21
      clear f
      go_wp2_with fail
      go_loopw [7] (fun i wr => ∃ m : Nat, m ≤ 16 ∧ i = .int .i64 ((m : Int) - 1) ∧ (x + 170141183460469231731687303715884105728) / 256 ^ m = (y + 170141183460469231731687303715884105728) / 256 ^ m ∧ DArr wr gx (XD x) ∧ DArr wr gy (XD y) ∧ Below w.heap.size w wr) (fun i _ => (intOf i + 1).toNat)
      case atStart => exact ⟨16, by omega, rfl, (XD_top X1.out X2.out).trans (XD_top Y1.out Y2.out).symm, DX2.out, DY2.out, HB2.out⟩
      case round =>
        obtain ⟨m, hm, rfl, he, dx, dy, hbr⟩ := hrel
        cases m with
        | zero =>
          have hs : sgn x y = 0 := by
            have : x = y := by simp at he; omega
            unfold sgn; rw [this]; simp
          have HS : Hid _ := hs
          have HB : Hid _ := hbr
          clear he hs hbr dx dy hm
          go_wp2_with fail
          go_ret
          exact ⟨by rw [HS.out]; rfl, HB.out⟩
        | succ k =>
          have ek : ((k + 1 : Nat) : Int) - 1 = (k : Int) := by omega
          rw [ek]
          have c1 := dx.2.1 k (by omega)
          have c2 := dy.2.1 k (by omega)
          have k0 : (0 : Int) ≤ (k : Int) := by omega
          have k16 : (k : Int) < 16 := by omega
          have HL : Hid (XD x k < XD y k → sgn x y = -1) := fun h => by
            have := XD_lt he h
            unfold sgn; rw [if_pos this]
          have HG : Hid (XD y k < XD x k → sgn x y = 1) := fun h => by
            have := XD_lt he.symm h
            unfold sgn; rw [if_neg (by omega), if_neg (by omega)]
          have HE : Hid (XD x k = XD y k → (x + 170141183460469231731687303715884105728) / 256 ^ k = (y + 170141183460469231731687303715884105728) / 256 ^ k) := fun h => XD_eq he h
          have DX3 : Hid _ := dx
          have DY3 : Hid _ := dy
          have HB : Hid _ := hbr
          clear he dx dy hbr ek
          by_cases h1 : XD x k < XD y k
          · have b1 : decide (XD x k < XD y k) = true := by simpa using h1
            have HS := HL.out h1
            have HS' : Hid _ := HS
            clear HS HL HG HE
            go_wp2_with fail
            go_quiet (fail)
            go_wp2_with fail
            go_ret
            exact ⟨by rw [HS'.out]; rfl, bel_dN HB.out _⟩
          · by_cases h2 : XD y k < XD x k
            · have b1 : decide (XD x k < XD y k) = false := by simpa using h1
              have b2 : decide (XD y k < XD x k) = true := by simpa using h2
              have HS := HG.out h2
              have HS' : Hid _ := HS
              clear HS HL HG HE
              go_wp2_with fail
              go_quiet (fail)
              go_wp2_with fail
              go_quiet (fail)
              go_wp2_with fail
              go_ret
              exact ⟨by rw [HS'.out]; rfl, bel_dN (bel_dN HB.out _) _⟩
            · have b1 : decide (XD x k < XD y k) = false := by simpa using h1
              have b2 : decide (XD y k < XD x k) = false := by simpa using h2
              have HS := HE.out (by omega)
              have HS' : Hid _ := HS
              clear HS HL HG HE
              go_wp2_with fail
              go_quiet (fail)
              go_wp2_with fail
              go_quiet (fail)
              go_wp2_with fail
              go_roundw
              case rel => exact ⟨k, by omega, by go_num, HS'.out, DX3.out, DY3.out, bel_dN HB.out _⟩
              case measure => simp [intOf]
end Go.Proofs.Ytmojijjgbefljaa
