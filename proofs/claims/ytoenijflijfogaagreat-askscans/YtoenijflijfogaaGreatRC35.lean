/- XA2, joined. -/
import Derived.Test.YtoenijflijfogaaGreatRC34
/- The contract of the reference's Add. -/
namespace Go.Proofs.YtoenijflijfogaaGreat
open Go.RowKit

set_option maxRecDepth 100000 in
set_option maxHeartbeats 1000000 in
theorem refAdd_any (x y : Int) (w : World) :
    Calls Tryz.prog 55 #[wv x, wv y] w fun e w' => e = .returned (wv (x + y)) ∧ Below w.heap.size w w' := by
  unfold wv
  go_enter Tryz.func55, Tryz.ntmps55
  go_wp2_with fail
  have HB0 : Hid (Below w.heap.size w (((w.alloc (.cells #[.int .i64 (hi x), .int .u64 (lo x)] 34)).alloc (.cells #[.int .i64 (hi y), .int .u64 (lo y)] 34)).alloc (.cells #[.int .i64 0, .int .u64 0] 34))) := (((Below.refl _ _).alloc (by simp) _).alloc (by simp) _).alloc (by simp; omega) _
  have HX0 : Hid (NBox x w.heap.size (((w.alloc (.cells #[.int .i64 (hi x), .int .u64 (lo x)] 34)).alloc (.cells #[.int .i64 (hi y), .int .u64 (lo y)] 34)).alloc (.cells #[.int .i64 0, .int .u64 0] 34))) := ⟨by simp; omega, by simp [go_sem, World.cell?_alloc_past], by simp [go_sem, World.cell?_alloc_past]⟩
  have HY0 : Hid (NBox y (w.heap.size + 1) (((w.alloc (.cells #[.int .i64 (hi x), .int .u64 (lo x)] 34)).alloc (.cells #[.int .i64 (hi y), .int .u64 (lo y)] 34)).alloc (.cells #[.int .i64 0, .int .u64 0] 34))) := ⟨by simp, by simp [go_sem, World.cell?_alloc_past], by simp [go_sem, World.cell?_alloc_past]⟩
  have HR0 : Hid ((((w.alloc (.cells #[.int .i64 (hi x), .int .u64 (lo x)] 34)).alloc (.cells #[.int .i64 (hi y), .int .u64 (lo y)] 34)).alloc (.cells #[.int .i64 0, .int .u64 0] 34)).heap[w.heap.size + 1 + 1]? = some (.cells #[.int .i64 0, .int .u64 0] 34)) := by
    have h9 := heap_alloc_new ((w.alloc (.cells #[.int .i64 (hi x), .int .u64 (lo x)] 34)).alloc (.cells #[.int .i64 (hi y), .int .u64 (lo y)] 34)) (.cells #[.int .i64 0, .int .u64 0] 34)
    rw [World.size_alloc, World.size_alloc] at h9
    exact h9
  generalize ((w.alloc (.cells #[.int .i64 (hi x), .int .u64 (lo x)] 34)).alloc (.cells #[.int .i64 (hi y), .int .u64 (lo y)] 34)).alloc (.cells #[.int .i64 0, .int .u64 0] 34) = w0 at *
  refine region_inv2 (by kernel_rfl) [10, 11, 12, 13, 5, 6] [4, 5] (dV x y w0.heap.size) (fun j o ho g g' w' hj hd hv => dV.loc hj (fun e => ?l6) (fun e => ?l7) hv) (fun j hj g w' h => dV.box hj h) (by kernel_rfl) (by kernel_rfl) ?steps ?done
  case l6 =>
    subst e
    obtain rfl := Option.some.inj ho
    exact hd 4 (of_decide_eq_true (by kernel_rfl))
  case l7 =>
    subst e
    obtain rfl := Option.some.inj ho
    exact hd 5 (of_decide_eq_true (by kernel_rfl))
  case steps =>
    show AllS2 _ _ _ _ _ _ _ _ [0, 1, 2, 3, 4, 5, 6, 7]
    refine AllS2.cons (o := _) (ds := []) rfl (by kernel_rfl) ?_ ?_
    · intro f w1 K HB hd hA hK
      clear hd hA
      generalize hF : frF _ _ f = A at hK ⊢
      simp only [List.getElem_toArray, List.getElem_cons_zero] at hK ⊢
      have e2 : A.tmps[2]?.getD undef = .pointer (some ⟨w.heap.size, 0, none⟩) := by rw [← hF]; rfl
      clear hF
      obtain ⟨j0, j1, j2⟩ := HX0.out.below HB.out
      have hK2 := hK.out (wv x) w1 (Below.refl _ _) (fun _ h => h) (fun g' h _ => h) (fun h => absurd h (by decide))
      unfold wv at hK2
      clear hK
      go_simp
      exact hK2
    refine AllS2.cons (o := _) (ds := [0]) rfl (by kernel_rfl) ?_ ?_
    · intro f w1 K HB hd hA hK
      have hx : f 10 = wv x := hd 0 (by simp)
      clear hd hA
      generalize hF : frF _ _ f = A at hK ⊢
      simp only [List.getElem_toArray, List.getElem_cons_succ, List.getElem_cons_zero] at hK ⊢
      have ex : A.tmps[10]?.getD undef = f 10 := by rw [← hF]; rfl
      rw [hx] at ex
      clear hF hx
      have HN : Hid (w0.heap.size ≤ w1.heap.size) := HB.out.size
      go_simp
      refine (digits_dv x _).mono ?_
      rintro e w2 ⟨rfl, hb2⟩
      have hK2 := hK.out (dv x) w2 (hb2.mono HN.out) (fun _ h => dV.below hb2 h) (fun g' h _ => h) (fun h => absurd h (by decide))
      clear hK hb2
      go_simp
      exact hK2
    refine AllS2.cons (o := _) (ds := []) rfl (by kernel_rfl) ?_ ?_
    · intro f w1 K HB hd hA hK
      clear hd hA
      generalize hF : frF _ _ f = A at hK ⊢
      simp only [List.getElem_toArray, List.getElem_cons_succ, List.getElem_cons_zero] at hK ⊢
      have e3 : A.tmps[3]?.getD undef = .pointer (some ⟨(w.heap.size + 1), 0, none⟩) := by rw [← hF]; rfl
      clear hF
      obtain ⟨j0, j1, j2⟩ := HY0.out.below HB.out
      have hK2 := hK.out (wv y) w1 (Below.refl _ _) (fun _ h => h) (fun g' h _ => h) (fun h => absurd h (by decide))
      unfold wv at hK2
      clear hK
      go_simp
      exact hK2
    refine AllS2.cons (o := _) (ds := [2, 1]) rfl (by kernel_rfl) ?_ ?_
    · intro f w1 K HB hd hA hK
      have hx : f 12 = wv y := hd 2 (by simp)
      clear hd hA
      generalize hF : frF _ _ f = A at hK ⊢
      simp only [List.getElem_toArray, List.getElem_cons_succ, List.getElem_cons_zero] at hK ⊢
      have ex : A.tmps[12]?.getD undef = f 12 := by rw [← hF]; rfl
      rw [hx] at ex
      clear hF hx
      have HN : Hid (w0.heap.size ≤ w1.heap.size) := HB.out.size
      go_simp
      refine (digits_dv y _).mono ?_
      rintro e w2 ⟨rfl, hb2⟩
      have hK2 := hK.out (dv y) w2 (hb2.mono HN.out) (fun _ h => dV.below hb2 h) (fun g' h _ => h) (fun h => absurd h (by decide))
      clear hK hb2
      go_simp
      exact hK2
    refine AllS2.cons (o := _) (ds := []) rfl (by kernel_rfl) ?_ ?_
    · intro f w1 K HB hd hA hK
      clear hd hA
      generalize hF : frF _ _ f = A at hK ⊢
      simp only [List.getElem_toArray, List.getElem_cons_succ, List.getElem_cons_zero] at hK ⊢
      clear hF
      have hn : w0.heap.size ≤ w1.heap.size := HB.out.size
      have hb2 := (Below.refl w1.heap.size w1).alloc (Nat.le_refl _) (.cells #[.int .i64 0, .int .i64 0, .int .i64 0, .int .i64 0, .int .i64 0, .int .i64 0, .int .i64 0, .int .i64 0, .int .i64 0, .int .i64 0, .int .i64 0, .int .i64 0, .int .i64 0, .int .i64 0, .int .i64 0, .int .i64 0] 121)
      have hK2 := hK.out (.pointer (some ⟨w1.heap.size, 0, none⟩)) _ (hb2.mono hn) (fun _ h => dV.below hb2 h) (fun g' h _ => ⟨w1.heap.size, h, hn, by simp, _, _, heap_alloc_new _ _, rfl⟩) (fun _ => rfl)
      clear hK hb2
      go_simp
      exact hK2
    refine AllS2.cons (o := _) (ds := []) rfl (by kernel_rfl) ?_ ?_
    · intro f w1 K HB hd hA hK
      clear hd hA
      generalize hF : frF _ _ f = A at hK ⊢
      simp only [List.getElem_toArray, List.getElem_cons_succ, List.getElem_cons_zero] at hK ⊢
      clear hF
      have hn : w0.heap.size ≤ w1.heap.size := HB.out.size
      have hb2 := (Below.refl w1.heap.size w1).alloc (Nat.le_refl _) (.cells #[.int .i64 0, .int .i64 0, .int .i64 0, .int .i64 0, .int .i64 0, .int .i64 0, .int .i64 0, .int .i64 0, .int .i64 0, .int .i64 0, .int .i64 0, .int .i64 0, .int .i64 0, .int .i64 0, .int .i64 0, .int .i64 0] 121)
      have hK2 := hK.out (.pointer (some ⟨w1.heap.size, 0, none⟩)) _ (hb2.mono hn) (fun _ h => dV.below hb2 h) (fun g' h _ => ⟨w1.heap.size, h, hn, by simp, _, _, heap_alloc_new _ _, rfl⟩) (fun _ => rfl)
      clear hK hb2
      go_simp
      exact hK2
    refine AllS2.cons (o := _) (ds := [4, 1, 3, 0, 1, 4, 5]) rfl (by kernel_rfl) ?_ ?_
    · intro f w1 K HB hd hA hK
      have hx : Bd w0.heap.size (f 5) w1 := hd 4 (by simp)
      have hv : f 11 = dv x := hd 1 (by simp)
      have hne : f 6 ≠ f 5 := hA.out 5 (by simp) 4 (by simp) (by simp) (by simp) (by decide)
      clear hd hA
      obtain ⟨g, hg, hn, hgs, cs, T, hh, hcs⟩ := hx
      generalize hF : frF _ _ f = A at hK ⊢
      simp only [List.getElem_toArray, List.getElem_cons_succ, List.getElem_cons_zero] at hK ⊢
      have ex : A.tmps[5]?.getD undef = f 5 := by rw [← hF]; rfl
      have ey : A.tmps[11]?.getD undef = f 11 := by rw [← hF]; rfl
      rw [hg] at ex
      rw [hv] at ey
      clear hF hv
      refine Eq.mpr (if_pos (c := Region.wanted _ _ = true) rfl) ?_
      refine wp_storeN _ _ _ rfl g 0 (dvL x) (by simpa [go_sem] using ex) (by unfold dv at ey; simpa [go_sem] using ey) cs T hh (by rw [dvL_len, hcs]; decide) (by rw [dvL_len]; kernel_rfl) (by kernel_rfl) (fun W hW => ?_)
      have hF2 := Fd.mk (x := x) hn hgs hW
      refine hK.out undef W (hW.b _ hn) (fun j h => dV.store hW hcs (fun h1 => ?_) (fun h1 => ?_) h) (fun g' _ h2 => ?_) (fun h => absurd h (by decide))
      · show Fd _ _ (f 5) W; rw [hg]; exact hF2
      · exact Fd.store (v := f 6) h1 (by rw [← hg]; exact hne) hW
      · have h3 : g' 4 = f 5 := h2 4 (by simp)
        show Fd _ _ (g' 4) W
        rw [h3, hg]; exact hF2
    refine AllS2.cons (o := _) (ds := [5, 3, 6, 0, 1, 2, 3, 4, 5, 6]) rfl (by kernel_rfl) ?_ ?_
    · intro f w1 K HB hd hA hK
      have hx : Bd w0.heap.size (f 6) w1 := hd 5 (by simp)
      have hv : f 13 = dv y := hd 3 (by simp)
      have hne : f 5 ≠ f 6 := hA.out 4 (by simp) 5 (by simp) (by simp) (by simp) (by decide)
      clear hd hA
      obtain ⟨g, hg, hn, hgs, cs, T, hh, hcs⟩ := hx
      generalize hF : frF _ _ f = A at hK ⊢
      simp only [List.getElem_toArray, List.getElem_cons_succ, List.getElem_cons_zero] at hK ⊢
      have ex : A.tmps[6]?.getD undef = f 6 := by rw [← hF]; rfl
      have ey : A.tmps[13]?.getD undef = f 13 := by rw [← hF]; rfl
      rw [hg] at ex
      rw [hv] at ey
      clear hF hv
      refine Eq.mpr (if_pos (c := Region.wanted _ _ = true) rfl) ?_
      refine wp_storeN _ _ _ rfl g 0 (dvL y) (by simpa [go_sem] using ex) (by unfold dv at ey; simpa [go_sem] using ey) cs T hh (by rw [dvL_len, hcs]; decide) (by rw [dvL_len]; kernel_rfl) (by kernel_rfl) (fun W hW => ?_)
      have hF2 := Fd.mk (x := y) hn hgs hW
      refine hK.out undef W (hW.b _ hn) (fun j h => dV.store hW hcs (fun h1 => ?_) (fun h1 => ?_) h) (fun g' _ h2 => ?_) (fun h => absurd h (by decide))
      · exact Fd.store (v := f 5) h1 (by rw [← hg]; exact hne) hW
      · show Fd _ _ (f 6) W; rw [hg]; exact hF2
      · have h3 : g' 5 = f 6 := h2 5 (by simp)
        show Fd _ _ (g' 5) W
        rw [h3, hg]; exact hF2
    exact AllS2.nil
  case done =>
    intro f w1 hB hd hap
    have h6 : Fd w0.heap.size x (f 5) w1 := hd 6 (by decide)
    have h7 : Fd w0.heap.size y (f 6) w1 := hd 7 (by decide)
    have hne : f 5 ≠ f 6 := hap 4 (by simp) 5 (by simp) (by decide) (by decide) (by decide)
    obtain ⟨gx, hgx, nx, dx⟩ := h6
    obtain ⟨gy, hgy, ny, dy⟩ := h7
    have hxy : gx ≠ gy := fun e => hne (by rw [hgx, hgy, e])
    have hrl : w.heap.size + 1 + 1 < w0.heap.size := by
      rcases Nat.lt_or_ge (w.heap.size + 1 + 1) w0.heap.size with h | h
      · exact h
      · have h9 := HR0.out
        rw [Array.getElem?_eq_none h] at h9; cases h9
    have HB1 : Hid (Below w.heap.size w w1) := HB0.out.trans (hB.mono HB0.out.size)
    have HR1 : Hid (w1.heap[w.heap.size + 1 + 1]? = some (.cells #[.int .i64 0, .int .u64 0] 34)) := (hB.block _ hrl).trans HR0.out
    have DX : Hid (DArr w1 gx (dF x)) := dx
    have DY : Hid (DArr w1 gy (dF y)) := dy
    have NX : Hid (w.heap.size + 1 + 1 < gx) := by unfold Hid; omega
    have NE : Hid (gx ≠ gy) := hxy
    clear hd hap hB dx dy nx ny hne hxy hrl
    simp only [frF, tmOf, List.contains_cons, List.contains_nil, Nat.reduceAdd, Nat.zero_add, Nat.reduceBEq, Bool.or_false, Bool.false_or, cond_true, cond_false]
    rw [hgx, hgy]
    clear hgx hgy HX0 HY0 HB0 HR0
    generalize f 10 = f10, f 11 = f11, f 12 = f12, f 13 = f13
    clear f w0
    go_wp2_with fail
    go_loopw [7, 8, 9] (fun c i _ wr => ∃ k : Nat, k ≤ 16 ∧ i = .int .i64 (k : Int) ∧ c = .int .i64 (cyF x y k) ∧ DArr wr gx (fun j => if j < k then dF (x + y) j else dF x j) ∧ DArr wr gy (dF y) ∧ wr.heap[w.heap.size + 1 + 1]? = some (.cells #[.int .i64 0, .int .u64 0] 34) ∧ Below w.heap.size w wr) (fun _ i _ _ => 16 - (intOf i).toNat)
    case atStart => exact ⟨0, by omega, rfl, by rw [cy_zero], DX.out.congr (fun j hj => by simp), DY.out, HR1.out, HB1.out⟩
    case round =>
      obtain ⟨k, hk, rfl, rfl, hd, hy, hr, hbr⟩ := hrel
      by_cases hlt : k < 16
      · have c1 : wr.cell? ⟨gx, k, none⟩ = some (.int .i64 (dF x k)) := (hd.2.1 k hlt).trans (by show some (Value.int .i64 (if k < k then _ else _)) = _; rw [if_neg (Nat.lt_irrefl k)])
        have c2 := hy.2.1 k hlt
        have f1 := hd.2.2 k
        have k0 : (0 : Int) ≤ (k : Int) := by omega
        have k16 : (k : Int) < 16 := by omega
        obtain ⟨d0, d1⟩ := dF_bds x k
        obtain ⟨e0, e1⟩ := dF_bds y k
        obtain ⟨y0, y1⟩ := cy_bd x y k hk
        have HQ : Hid _ := cy_quo x y k hlt
        have HD : Hid (∀ nq, DArr (((wr.drewN nq)).setCell ⟨gx, k, none⟩ (.int .i64 (dF (x + y) k))) gx (fun j => if j < k + 1 then dF (x + y) j else dF x j) ∧ DArr (((wr.drewN nq)).setCell ⟨gx, k, none⟩ (.int .i64 (dF (x + y) k))) gy (dF y) ∧ (((wr.drewN nq)).setCell ⟨gx, k, none⟩ (.int .i64 (dF (x + y) k))).heap[w.heap.size + 1 + 1]? = some (.cells #[.int .i64 0, .int .u64 0] 34) ∧ Below w.heap.size w (((wr.drewN nq)).setCell ⟨gx, k, none⟩ (.int .i64 (dF (x + y) k)))) := fun nq => by
          have hd' : DArr (wr.drewN nq) gx (fun j => if j < k then dF (x + y) j else dF x j) := hd
          have hy' : DArr (wr.drewN nq) gy (dF y) := hy
          have nx := NX.out
          refine ⟨(hd'.set k hlt _).congr (fun j hj => ?_), hy'.far NE.out, (Below.heap_setCell _ _ _ _ (by show w.heap.size + 1 + 1 ≠ gx; omega)).trans hr, (bel_dN hbr nq).setCell (by show w.heap.size ≤ gx; omega) _⟩
          by_cases e : j = k
          · subst e; rw [if_pos rfl, if_pos (by omega)]
          · rw [if_neg e]
            by_cases e2 : j < k
            · rw [if_pos e2, if_pos (by omega)]
            · rw [if_neg e2, if_neg (by omega)]
        have HE : Hid _ := cy_rem x y k hlt
        have HW : Hid (wrap64 (cyF x y (k + 1)) = cyF x y (k + 1)) := by
          have h9 := cy_bd x y (k + 1) (by omega)
          unfold Hid wrap64; omega
        generalize hA : dF x k = A at *
        generalize hB : dF y k = B at *
        generalize hC : cyF x y k = C at *
        have t1 : Int.tmod (A + B + C) 256 = dF (x + y) k := by rw [Int.tmod_eq_emod_of_nonneg (by omega), HE.out]
        have t2 : Int.tdiv (A + B + C) 256 = cyF x y (k + 1) := by rw [Int.tdiv_eq_ediv_of_nonneg (by omega), HQ.out]
        have w1 : IntKind.i64.wrap (A + B) = A + B := by rw [IntKind.wrap_i64]; omega
        have w2 : IntKind.i64.wrap (A + B + C) = A + B + C := by rw [IntKind.wrap_i64]; omega
        have hsz := hbr.size
        clear hd hy hr hbr hA hB hC HE HQ
        go_wp2_with fail
        go_quiet (fail)
        go_wp2_with fail
        go_roundw
        case rel => 
          obtain ⟨z1, z2, z3, z4⟩ := HD.out _
          exact ⟨k + 1, by omega, by go_num, by rw [HW.out], z1, z2, z3, z4⟩
        case measure => simp [intOf]; omega
      · have hke : k = 16 := by omega
        subst hke
        have hd := hd.congr (g := dF (x + y)) (fun j hj => by rw [if_pos hj])
        have HR : Hid _ := hr
        have HB : Hid _ := hbr
        have hgs := hd.1
        have c0 : wr.cell? ⟨gx, 0, none⟩ = some (.int .i64 (dF (x + y) 0)) := hd.2.1 0 (by decide)
        have c1 : wr.cell? ⟨gx, 1, none⟩ = some (.int .i64 (dF (x + y) 1)) := hd.2.1 1 (by decide)
        have c2 : wr.cell? ⟨gx, 2, none⟩ = some (.int .i64 (dF (x + y) 2)) := hd.2.1 2 (by decide)
        have c3 : wr.cell? ⟨gx, 3, none⟩ = some (.int .i64 (dF (x + y) 3)) := hd.2.1 3 (by decide)
        have c4 : wr.cell? ⟨gx, 4, none⟩ = some (.int .i64 (dF (x + y) 4)) := hd.2.1 4 (by decide)
        have c5 : wr.cell? ⟨gx, 5, none⟩ = some (.int .i64 (dF (x + y) 5)) := hd.2.1 5 (by decide)
        have c6 : wr.cell? ⟨gx, 6, none⟩ = some (.int .i64 (dF (x + y) 6)) := hd.2.1 6 (by decide)
        have c7 : wr.cell? ⟨gx, 7, none⟩ = some (.int .i64 (dF (x + y) 7)) := hd.2.1 7 (by decide)
        have c8 : wr.cell? ⟨gx, 8, none⟩ = some (.int .i64 (dF (x + y) 8)) := hd.2.1 8 (by decide)
        have c9 : wr.cell? ⟨gx, 9, none⟩ = some (.int .i64 (dF (x + y) 9)) := hd.2.1 9 (by decide)
        have c10 : wr.cell? ⟨gx, 10, none⟩ = some (.int .i64 (dF (x + y) 10)) := hd.2.1 10 (by decide)
        have c11 : wr.cell? ⟨gx, 11, none⟩ = some (.int .i64 (dF (x + y) 11)) := hd.2.1 11 (by decide)
        have c12 : wr.cell? ⟨gx, 12, none⟩ = some (.int .i64 (dF (x + y) 12)) := hd.2.1 12 (by decide)
        have c13 : wr.cell? ⟨gx, 13, none⟩ = some (.int .i64 (dF (x + y) 13)) := hd.2.1 13 (by decide)
        have c14 : wr.cell? ⟨gx, 14, none⟩ = some (.int .i64 (dF (x + y) 14)) := hd.2.1 14 (by decide)
        have c15 : wr.cell? ⟨gx, 15, none⟩ = some (.int .i64 (dF (x + y) 15)) := hd.2.1 15 (by decide)
        clear hd hy hr hbr
        go_wp2_with fail
        refine (from_N (x + y) _).mono ?_
        rintro e w5 ⟨rfl, hb5⟩
        have nx := NX.out
        have hr5 := (hb5.block (w.heap.size + 1 + 1) (by omega)).trans HR.out
        have HB5 : Hid (Below w.heap.size w w5) := HB.out.trans (hb5.mono HB.out.size)
        clear hb5
        unfold wv
        have r0 : w5.cell? ⟨w.heap.size + 1 + 1, 0, none⟩ = some (.int .i64 0) := by simp [World.cell?, hr5]
        have r1 : w5.cell? ⟨w.heap.size + 1 + 1, 1, none⟩ = some (.int .u64 0) := by simp [World.cell?, hr5]
        have r2 : ∀ o, w5.frozen? ⟨w.heap.size + 1 + 1, o, none⟩ = false := fun o => by simp [World.frozen?, hr5]
        go_wp2_with fail
        have s0 := World.cell?_setCell_same w5 ⟨w.heap.size + 1 + 1, 0, none⟩ (.int .i64 (hi (x + y))) r0
        have s1 : ((w5.setCell ⟨w.heap.size + 1 + 1, 0, none⟩ (.int .i64 (hi (x + y)))).setCell ⟨w.heap.size + 1 + 1, 1, none⟩ (.int .u64 (lo (x + y)))).cell? ⟨w.heap.size + 1 + 1, 0, none⟩ = some (.int .i64 (hi (x + y))) := by
          rw [World.cell?_setCell_other (h := by simp)]; exact s0
        have s2 : ((w5.setCell ⟨w.heap.size + 1 + 1, 0, none⟩ (.int .i64 (hi (x + y)))).setCell ⟨w.heap.size + 1 + 1, 1, none⟩ (.int .u64 (lo (x + y)))).cell? ⟨w.heap.size + 1 + 1, 1, none⟩ = some (.int .u64 (lo (x + y))) := by
          have q1 : (w5.setCell ⟨w.heap.size + 1 + 1, 0, none⟩ (.int .i64 (hi (x + y)))).cell? ⟨w.heap.size + 1 + 1, 1, none⟩ = some (.int .u64 0) := by
            rw [World.cell?_setCell_other (h := by simp)]; exact r1
          exact World.cell?_setCell_same _ _ _ q1
        refine bodyPost_ret (v := .agg #[.int .i64 (hi (x + y)), .int .u64 (lo (x + y))]) (by simp [results, Tryz.results55, go_sem, s1, s2]) rfl ⟨rfl, (HB5.out.setCell (by show w.heap.size ≤ w.heap.size + 1 + 1; omega) _).setCell (by show w.heap.size ≤ w.heap.size + 1 + 1; omega) _⟩
end Go.Proofs.YtoenijflijfogaaGreat
